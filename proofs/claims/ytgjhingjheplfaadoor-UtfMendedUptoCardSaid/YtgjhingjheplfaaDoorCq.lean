/- The walk of UtfMended. -/
import Derived.Test.YtgjhingjheplfaaDoorCp
import Derived.Test.YtgjhingjheplfaaDoorCw
import Derived.Test.YtgjhingjheplfaaDoorCl
import Derived.IntWalk
import Derived.Sort.CutIn
import Derived.Deep.RegionHeldLaw
import Derived.Stop.RegionWithIn
import Derived.Test.YtgjhingjheplfaaDoorK6
namespace Go.Proofs.YtgjhingjheplfaaDoor
open Go Go.RowKit Go.Kt Go.Shelf
attribute [local go_sem] Oper.semAt_some

theorem badK_le3 (s : ByteArray) (i : Nat) (hi : i < s.size) (h : wideI s i = 0) : badK s i ≤ 3 := by
  rcases badK_eq s i hi with ⟨_, h1⟩ | ⟨h1, h2⟩
  · omega
  · have hb := bgT_bd (leadI (B s i)) (s.size - i) (B s (i + 1)) (B s (i + 2)) (B s (i + 3)) (by omega)
    have hl := leadI_bd (B s i)
    rcases (wide0_iff s i).1 h with h3 | h3
    · omega
    · have := hb.2.2.2 h1
      omega
theorem bads_mem (s : ByteArray) : ∀ f i p, p ∈ badsF s f i → p.1 + p.2 ≤ s.size ∧ 1 ≤ p.2 ∧ p.2 ≤ 3
  | 0, _, p, h => by simp [badsF] at h
  | f + 1, i, p, h => by
    rcases Nat.lt_or_ge i s.size with hlt | hge
    · rw [badsF_step s f i hlt] at h
      obtain ⟨k1, k2, _⟩ := badK_bd s i hlt
      by_cases hw : wideI s i = 0
      · rw [if_pos hw] at h
        rcases List.mem_cons.1 h with h | h
        · subst h; exact ⟨k2, k1, badK_le3 s i hlt hw⟩
        · exact bads_mem s f _ p h
      · rw [if_neg hw] at h
        exact bads_mem s f _ p h
    · rw [badsF_end s _ _ hge] at h; simp at h

/-- Nothing has changed since A but the cell of the result. -/
def SB (n : Nat) (A X : World) : Prop := Keep (fun b => b = n + 1) A X ∧ ∃ b, X.heap[n + 1]? = some (.cells #[.bool b] 4 (0, 0))
def bv (n : Nat) (X : World) : Bool := match X.cell? ⟨n + 1, 0, none⟩ with | some (.bool b) => b | _ => false
theorem SB.cell {n : Nat} {A X : World} (h : SB n A X) : X.cell? ⟨n + 1, 0, none⟩ = some (.bool (bv n X)) := by
  obtain ⟨_, b, hb⟩ := h
  have := cell_one hb
  unfold bv
  rw [this]
theorem SB.frozen {n : Nat} {A X : World} (h : SB n A X) : X.frozen? ⟨n + 1, 0, none⟩ = false := by
  obtain ⟨_, b, hb⟩ := h
  exact frozen_one hb
theorem SB.step {n : Nat} {A X Z : World} (h : SB n A X) (hb : Below X.heap.size X Z) : SB n A Z := by
  obtain ⟨hk, b, hh⟩ := h
  exact ⟨hk.trans ((Keep.of_all (X := fun _ => False) hb).weaken fun _ _ h => h.elim), b, (hb.block _ (Array.getElem?_eq_some_iff.1 hh).1).trans hh⟩
theorem SB.drew {n : Nat} {A X : World} (h : SB n A X) : SB n A X.drew := h.step (Below.refl _ _).drew
theorem SB.set {n : Nat} {A X : World} {b : Bool} (h : SB n A X) : SB n A (X.setCell ⟨n + 1, 0, none⟩ (.bool b)) := by
  obtain ⟨hk, c, hh⟩ := h
  exact ⟨Keep.setCell (p := ⟨n + 1, 0, none⟩) hk rfl _, b, set_at hh⟩
theorem SB.set_heap {n : Nat} {A X : World} (h : SB n A X) : (X.setCell ⟨n + 1, 0, none⟩ (.bool true)).heap[n + 1]? = some (.cells #[.bool true] 4 (0, 0)) := by
  obtain ⟨_, b, hb⟩ := h
  exact set_at hb
theorem SB.ne {n D : Nat} {A X : World} (h : SB n A X) (hD : X.heap[D]? = some (.deferred (some []))) : D ≠ n + 1 := fun e => by
  obtain ⟨_, b, hb⟩ := h
  subst e; rw [hD] at hb; cases hb
theorem SB.facts {n m D : Nat} {w A X : World} {s : ByteArray} {N K : Nat} (h : SB n A X) (hn2 : 2 ≤ n)
    (HS : ∀ X, Below A.heap.size A X → X.heap[n]? = some (.cells #[.string s] 9 (0, 0)) ∧ X.heap[n + 1]? = some (.cells #[.bool false] 4 (0, 0)) ∧ X.cell? ⟨n, 0, none⟩ = some (.string s) ∧ X.cell? ⟨m, 0, none⟩ = some (.int .i64 (N : Nat)) ∧
            X.cell? ⟨m + 1, 0, none⟩ = some (.int .i64 (K : Nat)) ∧ X.heap[D]? = some (.deferred (some [])) ∧ Lib.Utf8Tabs 0 1 X ∧ 2 ≤ X.heap.size ∧ Below n w X) :
    (SB n A X ∧ X.cell? ⟨n, 0, none⟩ = some (.string s)) ∧ Lib.Utf8Tabs 0 1 X ∧ 2 ≤ X.heap.size ∧ X.heap[D]? = some (.deferred (some [])) ∧ Below n w X := by
  obtain ⟨h1, h2, _, _, _, h6, h7, h8, h9⟩ := HS A (Below.refl _ _)
  have hn := (Array.getElem?_eq_some_iff.1 h1).1
  have hbX : Below n A X := h.1.below (by omega) (fun b hb => by omega)
  have hD : D ≠ n + 1 := fun e => by subst e; rw [h6] at h2; cases h2
  refine ⟨⟨h, cell_one (h.1.heap h1 (by omega))⟩, ?_, by have := hbX.size; omega, h.1.heap h6 hD, h9.trans hbX⟩
  exact tabs_below h7 hn2 hbX

/-- What region 18's slots hold. -/
def LiesS (n : Nat) (s : ByteArray) (v : Value) (w : World) : Prop := (∃ q m cap, v = .slice (some ⟨q, 0, none⟩) m cap ∧ n + 1 < q) ∧ Sl .i32 w v (numsI s)
def pM (n : Nat) (s : ByteArray) : Nat → Value → World → Prop
  | 0, v, _ | 2, v, _ | 7, v, _ | 10, v, _ => v = .string s
  | 1, v, _ | 4, v, _ | 9, v, _ | 12, v, _ => v = .string (runesBytes (numsI s))
  | 3, v, w | 8, v, w | 11, v, w => LiesS n s v w
  | 15, _, w => w.heap[n + 1]? = some (.cells #[.bool true] 4 (0, 0))
  | _, v, _ => v = .bool true
/-- How region 18 turns the world. -/
def RM (n : Nat) (A B : World) : Prop := Keep (fun b => b = n + 1) A B ∧ (A.heap[n + 1]? = some (.cells #[.bool true] 4 (0, 0)) → B.heap[n + 1]? = some (.cells #[.bool true] 4 (0, 0)))
theorem RM.of_below {n : Nat} {A B : World} (hb : Below A.heap.size A B) : RM n A B := ⟨Keep.of_all hb, fun h => (hb.block _ (Array.getElem?_eq_some_iff.1 h).1).trans h⟩
theorem RM.refl (n : Nat) (A : World) : RM n A A := ⟨Keep.refl _ _, fun h => h⟩

theorem LiesS.keep {n : Nat} {s : ByteArray} {v : Value} {A B : World} (h : LiesS n s v A) (hk : Keep (fun b => b = n + 1) A B) : LiesS n s v B := by
  obtain ⟨⟨q, m, cap, rfl, hq⟩, h⟩ := h
  exact ⟨⟨q, m, cap, rfl, hq⟩, h.keep hk (fun ao k c e g off eo hg => by cases e; cases eo; omega)⟩
theorem pM_keep {n : Nat} {s : ByteArray} {i : Nat} {v : Value} {A B : World} (hk : RM n A B) (h : pM n s i v A) : pM n s i v B :=
  match i, h with
  | 0, h | 1, h | 2, h | 4, h | 5, h | 6, h | 7, h | 9, h | 10, h | 12, h | 13, h | 14, h => h
  | 3, h | 8, h | 11, h => LiesS.keep h hk.1
  | 15, h => hk.2 h
  | _ + 16, h => h
theorem below_rworld (s : ByteArray) (w : World) : Below w.heap.size w (rworld s w) := by
  unfold rworld
  exact (Below.refl _ _).drew.alloc (by simp) _

set_option maxRecDepth 100000 in
set_option maxHeartbeats 20000000 in
theorem mended_walk (s by' : ByteArray) (w : World) (hT : Lib.Utf8Tabs 0 1 w) (h2 : 2 ≤ w.heap.size) (hs : s.size ≤ 1048576) (hby : by'.size ≤ 1048576) :
    Calls Tryd.prog 5 #[.string s, .string by'] w fun e w' => e = .returned (.bool true) ∧ Below w.heap.size w w' := by
  have HT := Lib.hid hT; clear hT
  have hfn : ∀ k, Fence.wide.fn k := fun _ => trivial
  have hdep : Fence.wide.depth = none := rfl
  refine (callsIn_wide (n := 0)).1 ?_
  refine callsIn_of_wp_marks Tryd.func5 rfl trivial ?_ rfl
  simp only [Tryd.ntmps5, List.size_toArray, List.length_cons, List.length_nil, Nat.reduceAdd, Nat.reduceSub, Array.replicate_succ, Array.replicate_zero, List.push_toArray, List.append_toArray, List.nil_append, List.cons_append]
  by_cases hbig : (4096 : Int) < s.size ∧ (4096 : Int) < by'.size
  · obtain ⟨hg1, hg2⟩ := hbig
    gi_wp2_with fail
    refine (callsIn_wide.2 (works_any _ (tabs_below HT.out h2 (((Below.refl _ w).alloc (Nat.le_refl _) _).alloc (by simp) _)) (by simp))).mono ?_
    rintro e w1 ⟨rfl, hb1⟩
    generalize hn : w.heap.size = n at *
    have hn1 : ((w.alloc (.cells #[.string s] 9)).alloc (.cells #[.bool false] 4)).heap.size = n + 2 := by simp [hn]
    have b0 : w1.heap[n]? = some (.cells #[.string s] 9 (0, 0)) := by
      rw [hb1.block n (by omega)]; exact alloc_old (alloc_at hn.symm)
    have b1 : w1.heap[n + 1]? = some (.cells #[.bool false] 4 (0, 0)) := by
      rw [hb1.block (n + 1) (by omega)]; exact alloc_at (by simp [hn])
    have hbw : Below n w w1 := (((Below.refl n w).alloc (by omega) _).alloc (by simp; omega) _).trans (hb1.mono (by omega))
    have hz1 : n + 2 ≤ w1.heap.size := by have := hb1.size; omega
    clear hb1 hn1
    have k0 := cell_one b0
    have k1 := cell_one b1
    have f1 := frozen_one b1
    gi_wp2_with fail
    refine (callsIn_wide.2 (works_any _ (tabs_below HT.out h2 hbw) (by omega))).mono ?_
    rintro e w2 ⟨rfl, hb2⟩
    have c1 : w2.heap[n + 1]? = some (.cells #[.bool false] 4 (0, 0)) := (hb2.block _ (by omega)).trans b1
    have q1 := cell_one c1
    have g1 := frozen_one c1
    gi_wp2_with fail
    refine leaves_marks (Ds := []) List.nodup_nil (fun D h => (by cases h)) (fun W' hk' => ?_)
    refine ⟨_, results_cell_one (g := n + 1) rfl _ _ _ rfl (cell_one (hk'.heap (set_at (u := .bool true) c1) (fun h => by cases h))) Tryd.isAgg4, rfl, ?_⟩
    rw [hn]
    exact ((hbw.trans (hb2.mono (by omega))).setCell (by simp) _).trans (hk'.below (by have := hb2.size; simp; omega) (fun b h => by cases h))
  · gi_upto_region 1 with fail
    gi_cut [22] from 7 (fun s22 wx => s22 = .bool false ∧ wx.heap[w.heap.size]? = some (.cells #[.string s] 9 (0, 0)) ∧ wx.heap[w.heap.size + 1]? = some (.cells #[.bool false] 4 (0, 0)) ∧ Below w.heap.size w wx ∧ w.heap.size + 2 ≤ wx.heap.size)
    case first =>
      rcases (by omega : (s.size : Int) ≤ 4096 ∨ ((4096 : Int) < s.size ∧ (by'.size : Int) ≤ 4096)) with hg | ⟨hg1, hg2⟩
      all_goals
        gi_wp2_with fail
        refine (callsIn_wide.2 (works_any _ (tabs_below HT.out h2 (((Below.refl _ w).alloc (Nat.le_refl _) _).alloc (by simp) _)) (by simp))).mono ?_
        rintro e w1 ⟨rfl, hb1⟩
        have hn1 : ((w.alloc (.cells #[.string s] 9)).alloc (.cells #[.bool false] 4)).heap.size = w.heap.size + 2 := by simp
        have b0 : w1.heap[w.heap.size]? = some (.cells #[.string s] 9 (0, 0)) := by
          rw [hb1.block _ (by omega)]; exact alloc_old (alloc_at rfl)
        have b1 : w1.heap[w.heap.size + 1]? = some (.cells #[.bool false] 4 (0, 0)) := by
          rw [hb1.block _ (by omega)]; exact alloc_at (by simp)
        have hbw : Below w.heap.size w w1 := (((Below.refl _ w).alloc (Nat.le_refl _) _).alloc (by simp) _).trans (hb1.mono (by omega))
        have hz1 : w.heap.size + 2 ≤ w1.heap.size := by have := hb1.size; omega
        have k0 := cell_one b0
        clear hb1 hn1
        have HF := Lib.hid (And.intro b0 (And.intro b1 (And.intro hbw hz1)))
        clear b0 b1 hbw hz1
        gi_wp2_with fail
        gi_meet
        case rel => exact ⟨by first | rfl | (simp; omega), HF.out⟩
    case rest =>
      generalize hn : w.heap.size = n at *
      obtain ⟨rfl, b0, b1, hbw, hz1⟩ := hcut
      obtain ⟨m, hm⟩ : ∃ m, wc.heap.size = m := ⟨_, rfl⟩
      obtain ⟨W3, hW3⟩ : ∃ W3, (wc.alloc (.cells #[.int .i64 0] 3)).alloc (.cells #[.int .i64 0] 3) = W3 := ⟨_, rfl⟩
      have hk3 : Keep (fun _ => False) wc W3 := by rw [← hW3]; exact ((Keep.refl _ wc).alloc _).alloc _
      have c0 := cell_one (hk3.heap b0 (fun h => h))
      rw [← hW3] at c0
      have HW3 := Lib.hid hW3
      clear hW3
      gi_wp2_with fail
      rw [HW3.out]
      have hW3 := HW3.out
      have hz3 : W3.heap.size = m + 2 := by rw [← hW3]; simp [hm]
      refine (callsIn_wide.2 (utfBad_call s _)).mono ?_
      rintro e w6 ⟨rfl, hw6⟩
      gi_wp2_with fail
      have q5 : W3.heap[m]? = some (.cells #[.int .i64 0] 3 (0, 0)) := by rw [← hW3]; exact alloc_old (alloc_at hm.symm)
      have q6 : W3.heap[m + 1]? = some (.cells #[.int .i64 0] 3 (0, 0)) := by rw [← hW3]; exact alloc_at (by simp [hm])
      have hk6 : Keep (fun _ => False) W3 w6 := by rw [← hw6]; exact (Keep.refl _ _).alloc _
      have hz6 : w6.heap.size = m + 3 := by rw [← hw6]; simp [hz3]
      have b6 : w6.heap[m + 2]? = some (.cells #[.string s] 9 (0, 0)) := by rw [← hw6]; exact alloc_at hz3.symm
      have v0 := hk6.heap (hk3.heap b0 (fun h => h)) (fun h => h)
      have v1 := hk6.heap (hk3.heap b1 (fun h => h)) (fun h => h)
      have v5 := hk6.heap q5 (fun h => h)
      have v6 := hk6.heap q6 (fun h => h)
      have hb16 : Below n wc w6 := (hk3.trans hk6).below (X := fun _ => False) (by omega) (fun _ h => h.elim)
      have HT6 := Lib.hid (tabs_below HT.out h2 (hbw.trans hb16))
      clear hw6 hk6 hk3 hW3 q5 q6 c0
      refine loop_out (gf := 66) (lb := #[.pointer (some ⟨m + 2, 0, none⟩)]) (encs := encP) rfl (enters_of Tryd.func66 (by kernel_rfl) rfl)
        (bad_iter s (m + 2) w6 (cell_one b6) (by omega) HT6.out (by omega)) (fun _ => rfl) (X := fun b => b = m ∨ b = m + 1)
        (fun b hb => by omega) (fun b hb => by omega) (fun _ _ => rfl) (Nat.le_refl _)
        (fun pre Y W => W.heap[m]? = some (.cells #[.int .i64 (pre.length : Nat)] 3 (0, 0)) ∧ W.heap[m + 1]? = some (.cells #[.int .i64 (sumK pre : Nat)] 3 (0, 0)))
        (fun _ _ _ _ => False)
        (fun pre Y W W' hk h => ⟨hk.heap h.1 (fun hx => by have := hx.1; omega), hk.heap h.2 (fun hx => by have := hx.1; omega)⟩)
        (fun _ _ _ _ _ _ h => h) ⟨v5, v6⟩ ?round ?done ?stop
      case stop => intro D c pre Y W _ _ _ h; exact h.elim
      case round =>
        rintro l hl pre ⟨at', k⟩ Y W hpre hi hk hY hlt hr
        gi_wp2
        refine ⟨Keep.refl _ _, ?_⟩
        rintro W2 _ hk2 ⟨hp1, hp2⟩ hr2
        have hmem : at' + k ≤ s.size ∧ 1 ≤ k ∧ k ≤ 3 := by
          obtain ⟨rest, hrest⟩ := hpre
          exact bads_mem s s.size 0 (at', k) (by show (at', k) ∈ bads s; rw [← hrest]; simp)
        have hlen : pre.length ≤ s.size ∧ sumK pre ≤ s.size := by
          obtain ⟨rest, hrest⟩ := hpre
          have h1 := bads_len s
          have h2 := (mended_len s by').2.2
          rw [← hrest] at h1 h2
          simp [sumK] at h1 h2 ⊢
          omega
        obtain ⟨g1, g2, g3⟩ := hmem
        obtain ⟨g4, g5⟩ := hlen
        have x0 := cell_one (hk2.heap v0 (by omega))
        have x5 := cell_one hp1
        have x6 := cell_one hp2
        have y5 := frozen_one hp1
        have y6 := frozen_one (set_old (u := .int .i64 ((pre.length : Int) + 1)) (o := 0) hp2 (show m + 1 ≠ m by omega))
        have z6 := cell_one (set_old (u := .int .i64 ((pre.length : Int) + 1)) (o := 0) hp2 (show m + 1 ≠ m by omega))
        clear hr2 hr hi hpre hk v0 v1 v5 v6 b6
        gi_wp2_with fail
        refine ⟨Y, Keep.setCell (X := fun b => (b = m ∨ b = m + 1) ∨ Y b) (p := ⟨m + 1, 0, none⟩) (Keep.setCell (p := ⟨m, 0, none⟩) (Keep.refl _ _) (.inl (.inl rfl)) _) (.inl (.inr rfl)) _, fun b h => .inl h, ?_, ?_⟩
        · have := set_old (u := .int .i64 ((sumK pre : Int) + k)) (o := 0) (set_at (u := .int .i64 ((pre.length : Int) + 1)) hp1) (show m ≠ m + 1 by omega)
          simpa using this
        · have := set_at (u := .int .i64 ((sumK pre : Int) + k)) (set_old (u := .int .i64 ((pre.length : Int) + 1)) (o := 0) hp2 (show m + 1 ≠ m by omega))
          simpa [sumK_snoc] using this
      case done =>
        rintro D Y W hD hDd ⟨hp1, hp2⟩ hY hkW
        have x0 := hkW.heap v0 (by omega)
        have x1 := hkW.heap v1 (by omega)
        have hzW := hkW.size
        have hbW : Below n w W := (hbw.trans hb16).trans (hkW.below (by omega) (fun b hb => by omega))
        have k0 := cell_one x0
        clear v0 v1 v5 v6 b6 hkW hY
        have hM : s.size + s.size * by'.size ≤ 140737488355328 := by
          have : s.size * by'.size ≤ 1048576 * 1048576 := Nat.mul_le_mul hs hby
          omega
        have HM := Lib.hid hM
        clear hM
        gi_wp2_with fail
        refine (callsIn_wide.2 (utfMend_any s by' true W (tabs_below HT.out h2 hbW) (by omega) (by omega) HM.out)).mono ?_
        rintro e w7 ⟨rfl, hb7⟩
        have y0 := (hb7.block _ (by omega)).trans x0
        have hbw7 := hbW.trans (hb7.mono (by omega))
        have k1 := cell_one y0
        clear k0
        gi_wp2_with fail
        refine (callsIn_wide.2 (utfMend_any s by' false w7 (tabs_below HT.out h2 hbw7) (by have := hb7.size; omega) (by omega) HM.out)).mono ?_
        rintro e w8 ⟨rfl, hb8⟩
        have hb78 := hb7.trans (hb8.mono hb7.size)
        have hbw8 := hbW.trans (hb78.mono (by omega))
        have HS : Hid (∀ X, Below w8.heap.size w8 X → X.heap[n]? = some (.cells #[.string s] 9 (0, 0)) ∧ X.heap[n + 1]? = some (.cells #[.bool false] 4 (0, 0)) ∧ X.cell? ⟨n, 0, none⟩ = some (.string s) ∧ X.cell? ⟨m, 0, none⟩ = some (.int .i64 ((bads s).length : Nat)) ∧
            X.cell? ⟨m + 1, 0, none⟩ = some (.int .i64 (sumK (bads s) : Nat)) ∧ X.heap[D]? = some (.deferred (some [])) ∧ Lib.Utf8Tabs 0 1 X ∧ 2 ≤ X.heap.size ∧ Below n w X) := Lib.hid (fun X hX => by
          have hWX := hb78.trans (hX.mono (by have := hb78.size; omega))
          have e0 := (hWX.block _ (by omega)).trans x0
          have hltm := (Array.getElem?_eq_some_iff.1 hp1).1
          have hltm1 := (Array.getElem?_eq_some_iff.1 hp2).1
          have e5 := (hWX.block m hltm).trans hp1
          have e6 := (hWX.block (m + 1) hltm1).trans hp2
          exact ⟨e0, (hWX.block _ (by omega)).trans x1, cell_one e0, cell_one e5, cell_one e6, (hWX.block D (Array.getElem?_eq_some_iff.1 hDd).1).trans hDd, tabs_below HT.out h2 (hbW.trans (hWX.mono (by omega))), by have := hWX.size; omega, hbW.trans (hWX.mono (by omega))⟩)
        obtain ⟨hl1, hl2, hl3⟩ := mended_len s by'
        have hNs : (bads s).length ≤ s.size := bads_len s
        have hN : (bads s).length = 0 ↔ okB s = true := by rw [List.length_eq_zero_iff]; exact bads_ok s s.size 0
        have Hs := Lib.hid (And.intro (mended_same s by' true) (mended_same s by' false))
        have Ho := Lib.hid (And.intro (mended_ok s by' true) (mended_ok s by' false))
        have z1 : (⟨(mendL s by' true).toArray⟩ : ByteArray).size = (mendL s by' true).length := by show (mendL s by' true).toArray.size = _; simp
        have z2 : (⟨(mendL s by' false).toArray⟩ : ByteArray).size = (mendL s by' false).length := by show (mendL s by' false).toArray.size = _; simp
        rw [← z1] at hl1
        rw [← z2] at hl2
        clear z1 z2 x0 x1 k1 y0 hp1 hp2 hDd
        generalize (⟨(mendL s by' true).toArray⟩ : ByteArray) = T1 at *
        generalize (⟨(mendL s by' false).toArray⟩ : ByteArray) = T2 at *
        generalize hNN : (bads s).length = N at *
        generalize hKK : sumK (bads s) = K at *
        have hp1 : ((N * by'.size : Nat) : Int) = (N : Int) * by'.size := Int.natCast_mul ..
        have hp2 : ((K * by'.size : Nat) : Int) = (K : Int) * by'.size := Int.natCast_mul ..
        have hq1 : N * by'.size ≤ 1048576 * 1048576 := Nat.mul_le_mul (by omega) hby
        have hq2 : K * by'.size ≤ 1048576 * 1048576 := Nat.mul_le_mul (by omega) hby
        have b1 : 0 ≤ (N : Int) * by'.size := by rw [← hp1]; omega
        have b2 : (N : Int) * by'.size ≤ 1099511627776 := by rw [← hp1]; omega
        have b3 : 0 ≤ (K : Int) * by'.size := by rw [← hp2]; omega
        have b4 : (K : Int) * by'.size ≤ 1099511627776 := by rw [← hp2]; omega
        have e1 : ((T1.size : Int) != (s.size : Int) - K + (N : Int) * by'.size) = false := by
          rw [← hp1]
          have : (T1.size : Int) = (s.size : Int) - K + ((N * by'.size : Nat) : Int) := by omega
          rw [this]; simp
        have e2 : ((T2.size : Int) != (s.size : Int) - K + (K : Int) * by'.size) = false := by
          rw [← hp2]
          have : (T2.size : Int) = (s.size : Int) - K + ((K * by'.size : Nat) : Int) := by omega
          rw [this]; simp
        have t1 : (T1.size : Int) ≤ 1099512676352 := by omega
        have t2 : (T2.size : Int) ≤ 1099512676352 := by omega
        clear hp1 hp2 hq1 hq2 hl1 hl2 hNN hKK HM hb7 hb8 hb78 hbW hbw7 hbw8
        have cV := Lib.hid (fun (t : ByteArray) (X : World) (hX : Below w8.heap.size w8 X) (ht : t.size ≤ 4611686018427387904) => utfValid_any t X (HS.out X hX).2.2.2.2.2.2.1 (HS.out X hX).2.2.2.2.2.2.2.1 ht)
        have HC := Lib.hid (fun (X : World) (hX : Below w8.heap.size w8 X) => (And.intro hX (And.intro (HS.out X hX).2.2.1 (And.intro (HS.out X hX).2.2.2.1 (HS.out X hX).2.2.2.2.1))))
        have HC2 := Lib.hid (fun (X : World) (hX : Below w8.heap.size w8 X) => (And.intro hX (And.intro (HS.out X hX).2.2.1 (And.intro (cell_one (HS.out X hX).2.1) (frozen_one (HS.out X hX).2.1)))))
        have cM := Lib.hid (fun (X : World) (h1 : Lib.Utf8Tabs 0 1 X) (h2 : 2 ≤ X.heap.size) => utfMend_any s ⟨#[239, 191, 189]⟩ false X h1 h2 (by omega) (by show s.size + s.size * 3 ≤ _; omega))
        rw [mended_fffd] at cM
        have okV : okB s = true → T1 = s ∧ T2 = s := fun h => ⟨Hs.out.1 h, Hs.out.2 h⟩
        gi_upto_region 14 with fail
        gi_cut [89] from 11 (fun s89 wx => s89 = .bool false ∧ Below w8.heap.size w8 wx)
        case first =>
          have r1 : IntKind.i64.wrap ((s.size : Int) - K) = (s.size : Int) - K := IntWalk.i64_in _ (by omega)
          have r2 : IntKind.i64.wrap ((N : Int) * by'.size) = (N : Int) * by'.size := IntWalk.i64_in _ (by omega)
          have r3 : IntKind.i64.wrap ((K : Int) * by'.size) = (K : Int) * by'.size := IntWalk.i64_in _ (by omega)
          have r4 : IntKind.i64.wrap ((s.size : Int) - K + (N : Int) * by'.size) = (s.size : Int) - K + (N : Int) * by'.size := IntWalk.i64_in _ (by omega)
          have r5 : IntKind.i64.wrap ((s.size : Int) - K + (K : Int) * by'.size) = (s.size : Int) - K + (K : Int) * by'.size := IntWalk.i64_in _ (by omega)
          cases hV : okB s
          · have hN1 : N ≠ 0 := fun h => by have := hN.1 h; rw [hV] at this; cases this
            have hN0 : ((N : Int) == 0) = false := by simpa using hN1
            clear hN okV
            refine wpIn_wide.2 ?_
            go_region_held3 (fun X => Below w8.heap.size w8 X ∧ X.cell? ⟨n, 0, none⟩ = some (.string s) ∧ X.cell? ⟨m, 0, none⟩ = some (.int .i64 (N : Nat)) ∧ X.cell? ⟨m + 1, 0, none⟩ = some (.int .i64 (K : Nat)))
              (exact HC.out _ (by first | assumption | exact And.left (by assumption) | exact bl_drew (Below.refl _ _) | exact bl_drew (by assumption) | exact bl_drew (And.left (by assumption)) | exact bl_step (And.left (by assumption)) (by assumption)))
              (first
              | (go_at_call 21; refine (cV.out _ _ (And.left (by assumption)) (by omega)).mono ?_; rw [hV]; rintro e w' ⟨rfl, hb⟩))
            gi_wp2_with fail
            gi_meet
            case rel => exact ⟨rfl, And.left (by assumption)⟩
          · have hN1 := hN.2 hV
            have hN0 : ((N : Int) == 0) = true := by simpa using hN1
            have hNz : N = 0 ∧ True := ⟨hN1, trivial⟩
            have HNz := Lib.hid hNz
            clear hN okV hN1 hNz
            refine wpIn_wide.2 ?_
            go_region_held3 (fun X => Below w8.heap.size w8 X ∧ X.cell? ⟨n, 0, none⟩ = some (.string s) ∧ X.cell? ⟨m, 0, none⟩ = some (.int .i64 (N : Nat)) ∧ X.cell? ⟨m + 1, 0, none⟩ = some (.int .i64 (K : Nat)))
              (exact HC.out _ (by first | assumption | exact And.left (by assumption) | exact bl_drew (Below.refl _ _) | exact bl_drew (by assumption) | exact bl_drew (And.left (by assumption)) | exact bl_step (And.left (by assumption)) (by assumption)))
              (first
              | (go_at_call 21; refine (cV.out _ _ (And.left (by assumption)) (by omega)).mono ?_; rw [hV]; rintro e w' ⟨rfl, hb⟩))
            gi_wp2_with fail
            gi_meet
            case rel => exact ⟨rfl, And.left (by assumption)⟩
        case rest =>
          clear e1 e2 b1 b2 b3 b4 hN
          obtain ⟨rfl, hBX⟩ := hcut
          gi_upto_region 16 with fail
          gi_cut [114] from 11 (fun s114 wx => s114 = .bool false ∧ Below w8.heap.size w8 wx)
          case first =>
            have hc1 := (HS.out _ hBX).2.2.1
            cases hV : okB s
            · cases hU : okB by'
              ·
                gi_wp2_with fail
                refine (callsIn_wide.2 (cV.out s _ hBX (by omega))).mono ?_
                rw [hV]
                rintro e X2 ⟨rfl, hb2⟩
                have hBX2 := bl_step hBX hb2
                have hc2 := (HS.out _ hBX2).2.2.1
                gi_wp2_with fail
                refine (callsIn_wide.2 (cV.out by' _ hBX2 (by omega))).mono ?_
                rw [hU]
                rintro e X3 ⟨rfl, hb3⟩
                have hBX3 := bl_step hBX2 hb3
                have hc3 := (HS.out _ hBX3).2.2.1
                gi_wp2_with fail
                all_goals try exact absurd (by assumption : some undef = some (Value.bool _)) (fun h => by cases h)
                gi_meet
                case rel => exact ⟨rfl, hBX3⟩
              ·
                gi_wp2_with fail
                refine (callsIn_wide.2 (cV.out s _ hBX (by omega))).mono ?_
                rw [hV]
                rintro e X2 ⟨rfl, hb2⟩
                have hBX2 := bl_step hBX hb2
                have hc2 := (HS.out _ hBX2).2.2.1
                gi_wp2_with fail
                refine (callsIn_wide.2 (cV.out by' _ hBX2 (by omega))).mono ?_
                rw [hU]
                rintro e X3 ⟨rfl, hb3⟩
                have hBX3 := bl_step hBX2 hb3
                have hc3 := (HS.out _ hBX3).2.2.1
                gi_wp2_with fail
                refine (callsIn_wide.2 (cV.out T1 _ hBX3 (by omega))).mono ?_
                rw [Ho.out.1 hU]
                rintro e X4 ⟨rfl, hb4⟩
                have hBX4 := bl_step hBX3 hb4
                have hc4 := (HS.out _ hBX4).2.2.1
                gi_wp2_with fail
                refine (callsIn_wide.2 (cV.out T2 _ hBX4 (by omega))).mono ?_
                rw [Ho.out.2 hU]
                rintro e X5 ⟨rfl, hb5⟩
                have hBX5 := bl_step hBX4 hb5
                have hc5 := (HS.out _ hBX5).2.2.1
                gi_wp2_with fail
                all_goals try exact absurd (by assumption : some undef = some (Value.bool _)) (fun h => by cases h)
                gi_meet
                case rel => exact ⟨rfl, hBX5⟩
            · have h1' := (okV hV).1.symm
              have h2' := (okV hV).2.symm
              subst h1'
              subst h2'
              cases hU : okB by'
              ·
                gi_wp2_with fail
                refine (callsIn_wide.2 (cV.out s _ hBX (by omega))).mono ?_
                rw [hV]
                rintro e X2 ⟨rfl, hb2⟩
                have hBX2 := bl_step hBX hb2
                have hc2 := (HS.out _ hBX2).2.2.1
                gi_wp2_with fail
                refine (callsIn_wide.2 (cV.out by' _ hBX2 (by omega))).mono ?_
                rw [hU]
                rintro e X3 ⟨rfl, hb3⟩
                have hBX3 := bl_step hBX2 hb3
                have hc3 := (HS.out _ hBX3).2.2.1
                gi_wp2_with fail
                all_goals try exact absurd (by assumption : some undef = some (Value.bool _)) (fun h => by cases h)
                gi_meet
                case rel => exact ⟨rfl, hBX3⟩
              ·
                gi_wp2_with fail
                refine (callsIn_wide.2 (cV.out s _ hBX (by omega))).mono ?_
                rw [hV]
                rintro e X2 ⟨rfl, hb2⟩
                have hBX2 := bl_step hBX hb2
                have hc2 := (HS.out _ hBX2).2.2.1
                gi_wp2_with fail
                refine (callsIn_wide.2 (cV.out by' _ hBX2 (by omega))).mono ?_
                rw [hU]
                rintro e X3 ⟨rfl, hb3⟩
                have hBX3 := bl_step hBX2 hb3
                have hc3 := (HS.out _ hBX3).2.2.1
                gi_wp2_with fail
                refine (callsIn_wide.2 (cV.out s _ hBX3 (by omega))).mono ?_
                rw [hV]
                rintro e X4 ⟨rfl, hb4⟩
                have hBX4 := bl_step hBX3 hb4
                have hc4 := (HS.out _ hBX4).2.2.1
                gi_wp2_with fail
                refine (callsIn_wide.2 (cV.out s _ hBX4 (by omega))).mono ?_
                rw [hV]
                rintro e X5 ⟨rfl, hb5⟩
                have hBX5 := bl_step hBX4 hb5
                have hc5 := (HS.out _ hBX5).2.2.1
                gi_wp2_with fail
                all_goals try exact absurd (by assumption : some undef = some (Value.bool _)) (fun h => by cases h)
                gi_meet
                case rel => exact ⟨rfl, hBX5⟩
          case rest =>
            clear hBX
            obtain ⟨rfl, hBX⟩ := hcut
            gi_upto_region 18 with fail
            clear HC HC2 cV Ho Hs okV t1 t2
            have hb0 : SB n w8 wc := ⟨.of_all hBX, _, (HS.out _ hBX).2.1⟩
            have HSB := Lib.hid (fun (X : World) (hX : SB n w8 X) => SB.facts hX h2 HS.out)
            have hcl : ∀ X, SB n w8 X → X.cell? ⟨n + 1, 0, none⟩ = some (.bool (bv n X)) := fun X h => SB.cell h
            have hfz : ∀ X, SB n w8 X → X.frozen? ⟨n + 1, 0, none⟩ = false := fun X h => SB.frozen h
            clear hBX
            refine wpIn_wide.2 ?_
            refine wp_region_slots (fun X => SB n w8 X ∧ X.cell? ⟨n, 0, none⟩ = some (.string s)) (RM n) (pM n s) (by kernel_rfl) (by kernel_rfl) (by kernel_rfl) ?hS ?hp ?hs ?hd
            case hS => exact (HSB.out _ (SB.drew hb0)).1
            case hp => exact fun i v A B _ _ hk hv => pM_keep hk hv
            case hs =>
              have hload : ∀ X : World, X.cell? ⟨n, 0, none⟩ = some (.string s) → (Instr.loadAt 9 (.pointer (some ⟨n, 0, none⟩))).run Tryd.prog X = .ok (.string s) X := by intro X hX; go_simp
              have hstep : ∀ {X Z : World}, SB n w8 X → Below X.heap.size X Z → SB n w8 Z ∧ Z.cell? ⟨n, 0, none⟩ = some (.string s) := fun h hb => (HSB.out _ (h.step hb)).1
              have hq : ∀ {X : World}, SB n w8 X → n + 1 < X.heap.size := fun h => by
                obtain ⟨_, b, hh⟩ := h
                exact (Array.getElem?_eq_some_iff.1 hh).1
              have hul : (units s).length ≤ 70368744177664 := by have := units_len s; omega
              have heq : ∀ (X : World) (x y : Operand), (do eqGuard .eql 9 x y (.string (runesBytes (numsI s))) (.string (runesBytes (numsI s))); binOp .eql 9 (.string (runesBytes (numsI s))) (.string (runesBytes (numsI s))) : Sem Value).run Tryd.prog X = .ok (.bool true) X := by intro X x y; go_simp
              refine SlotSteps.cons ?_ (SlotSteps.cons ?_ (SlotSteps.cons ?_ (SlotSteps.cons ?_ (SlotSteps.cons ?_ (SlotSteps.cons ?_ (SlotSteps.cons ?_ (SlotSteps.cons ?_ (SlotSteps.cons ?_ (SlotSteps.cons ?_ (SlotSteps.cons ?_ (SlotSteps.cons ?_ (SlotSteps.cons ?_ (SlotSteps.cons ?_ (SlotSteps.cons ?_ (SlotSteps.cons ?_ SlotSteps.nil)))))))))))))))
              · intro a X ⟨hX, hc⟩ hL hd
                exact ⟨rfl, wp_value (exec_load rfl (hL.far 2 (by kernel_rfl)) (hload X hc)) ⟨_, rfl, ⟨hX, hc⟩, RM.refl _ _, rfl⟩⟩
              · intro a X ⟨hX, hc⟩ hL hd
                have e1 : a.eval (.tmp 115) = .string s := hd 0 115 (by kernel_rfl) (by kernel_rfl)
                refine ⟨rfl, wp_enter (exec_call (vs := #[.string s, .string ⟨#[239, 191, 189]⟩, .bool false]) rfl (by simp only [List.map_toArray, List.map_cons, List.map_nil, e1]; rfl) Tryd.func32 rfl rfl) ?_⟩
                refine (cM.out X (HSB.out _ hX).2.1 (HSB.out _ hX).2.2.1).mono ?_
                rintro e w' ⟨rfl, hb⟩
                exact ⟨_, rfl, _, rfl, hstep hX hb, RM.of_below hb, rfl⟩
              · intro a X ⟨hX, hc⟩ hL hd
                exact ⟨rfl, wp_value (exec_load rfl (hL.far 2 (by kernel_rfl)) (hload X hc)) ⟨_, rfl, ⟨hX, hc⟩, RM.refl _ _, rfl⟩⟩
              · intro a X ⟨hX, hc⟩ hL hd
                have e1 : a.eval (.tmp 117) = .string s := hd 2 117 (by kernel_rfl) (by kernel_rfl)
                exact ⟨rfl, wp_value (exec_convert rfl e1 (runes_conv s hul X)) ⟨_, rfl, hstep hX (below_rworld s X), RM.of_below (below_rworld s X), ⟨_, _, _, rfl, hq hX⟩, rworld_sl s hul X⟩⟩
              · intro a X ⟨hX, hc⟩ hL hd
                have e1 : LiesS n s (a.eval (.tmp 118)) X := hd 3 118 (by kernel_rfl) (by kernel_rfl)
                exact ⟨rfl, wp_value (exec_convert rfl rfl (text_run _ _ X e1.2)) ⟨_, rfl, ⟨hX, hc⟩, RM.refl _ _, rfl⟩⟩
              · intro a X ⟨hX, hc⟩ hL hd
                have e1 : a.eval (.tmp 116) = .string (runesBytes (numsI s)) := hd 1 116 (by kernel_rfl) (by kernel_rfl)
                have e2 : a.eval (.tmp 119) = .string (runesBytes (numsI s)) := hd 4 119 (by kernel_rfl) (by kernel_rfl)
                exact ⟨rfl, wp_value (exec_binop rfl e1 e2 (heq X _ _)) ⟨_, rfl, ⟨hX, hc⟩, RM.refl _ _, rfl⟩⟩
              · intro a X ⟨hX, hc⟩ hL hd
                have e1 : a.eval (.tmp 120) = .bool true := hd 5 120 (by kernel_rfl) (by kernel_rfl)
                exact ⟨rfl, wp_value (exec_move rfl e1) ⟨_, rfl, ⟨hX, hc⟩, RM.refl _ _, rfl⟩⟩
              · intro a X ⟨hX, hc⟩ hL hd
                refine ⟨wanted_true 121 rfl (by kernel_rfl) (hd 6 121 (by kernel_rfl) (by kernel_rfl)), ?_⟩
                exact wp_value (exec_load rfl (hL.far 2 (by kernel_rfl)) (hload X hc)) ⟨_, rfl, ⟨hX, hc⟩, RM.refl _ _, rfl⟩
              · intro a X ⟨hX, hc⟩ hL hd
                refine ⟨wanted_true 121 rfl (by kernel_rfl) (hd 6 121 (by kernel_rfl) (by kernel_rfl)), ?_⟩
                have e1 : a.eval (.tmp 122) = .string s := hd 7 122 (by kernel_rfl) (by kernel_rfl)
                refine wp_enter (exec_call (vs := #[.string s]) rfl (by simp only [List.map_toArray, List.map_cons, List.map_nil, e1]) Tryd.func17 rfl rfl) ?_
                refine (utfRunes_any s X (by omega)).mono ?_
                rintro e w' ⟨cap, rfl, hown, hb, _⟩
                exact ⟨_, rfl, _, rfl, hstep hX hb, RM.of_below hb, ⟨_, _, _, rfl, hq hX⟩, sl_of_own (by rw [← runeCells_I]; exact hown) (numsI_len _)⟩
              · intro a X ⟨hX, hc⟩ hL hd
                refine ⟨wanted_true 121 rfl (by kernel_rfl) (hd 6 121 (by kernel_rfl) (by kernel_rfl)), ?_⟩
                have e1 : LiesS n s (a.eval (.tmp 123)) X := hd 8 123 (by kernel_rfl) (by kernel_rfl)
                refine wp_enter (exec_call (vs := #[a.eval (.tmp 123)]) rfl (by simp only [List.map_toArray, List.map_cons, List.map_nil]) Tryd.func33 rfl rfl) ?_
                refine (utfText_any _ (numsI s) X e1.2).mono ?_
                rintro e w' ⟨rfl, rfl⟩
                exact ⟨_, rfl, _, rfl, ⟨hX, hc⟩, RM.refl _ _, rfl⟩
              · intro a X ⟨hX, hc⟩ hL hd
                refine ⟨wanted_true 121 rfl (by kernel_rfl) (hd 6 121 (by kernel_rfl) (by kernel_rfl)), ?_⟩
                exact wp_value (exec_load rfl (hL.far 2 (by kernel_rfl)) (hload X hc)) ⟨_, rfl, ⟨hX, hc⟩, RM.refl _ _, rfl⟩
              · intro a X ⟨hX, hc⟩ hL hd
                refine ⟨wanted_true 121 rfl (by kernel_rfl) (hd 6 121 (by kernel_rfl) (by kernel_rfl)), ?_⟩
                have e1 : a.eval (.tmp 125) = .string s := hd 10 125 (by kernel_rfl) (by kernel_rfl)
                exact wp_value (exec_convert rfl e1 (runes_conv s hul X)) ⟨_, rfl, hstep hX (below_rworld s X), RM.of_below (below_rworld s X), ⟨_, _, _, rfl, hq hX⟩, rworld_sl s hul X⟩
              · intro a X ⟨hX, hc⟩ hL hd
                refine ⟨wanted_true 121 rfl (by kernel_rfl) (hd 6 121 (by kernel_rfl) (by kernel_rfl)), ?_⟩
                have e1 : LiesS n s (a.eval (.tmp 126)) X := hd 11 126 (by kernel_rfl) (by kernel_rfl)
                exact wp_value (exec_convert rfl rfl (text_run _ _ X e1.2)) ⟨_, rfl, ⟨hX, hc⟩, RM.refl _ _, rfl⟩
              · intro a X ⟨hX, hc⟩ hL hd
                refine ⟨wanted_true 121 rfl (by kernel_rfl) (hd 6 121 (by kernel_rfl) (by kernel_rfl)), ?_⟩
                have e1 : a.eval (.tmp 124) = .string (runesBytes (numsI s)) := hd 9 124 (by kernel_rfl) (by kernel_rfl)
                have e2 : a.eval (.tmp 127) = .string (runesBytes (numsI s)) := hd 12 127 (by kernel_rfl) (by kernel_rfl)
                exact wp_value (exec_binop rfl e1 e2 (heq X _ _)) ⟨_, rfl, ⟨hX, hc⟩, RM.refl _ _, rfl⟩
              · intro a X ⟨hX, hc⟩ hL hd
                have e1 : a.eval (.tmp 121) = .bool true := hd 6 121 (by kernel_rfl) (by kernel_rfl)
                have e2 : a.eval (.tmp 128) = .bool true := hd 13 128 (by kernel_rfl) (by kernel_rfl)
                exact ⟨rfl, wp_value (exec_pick rfl e1 e2 rfl) ⟨_, rfl, ⟨hX, hc⟩, RM.refl _ _, rfl⟩⟩
              · intro a X ⟨hX, hc⟩ hL hd
                have e1 : a.eval (.tmp 129) = .bool true := hd 14 129 (by kernel_rfl) (by kernel_rfl)
                have e2 : a.eval (.tmp 4) = .pointer (some ⟨n + 1, 0, none⟩) := hL.far 4 (by kernel_rfl)
                have hst : (Instr.storeAt 4 (.pointer (some ⟨n + 1, 0, none⟩)) (.bool true)).run Tryd.prog X = .ok () (X.setCell ⟨n + 1, 0, none⟩ (.bool true)) := by
                  have := SB.cell hX
                  have := SB.frozen hX
                  go_simp
                exact ⟨rfl, wp_skipped (exec_store rfl e2 e1 hst) ⟨.bool true, rfl, (HSB.out _ (SB.set hX)).1, ⟨Keep.setCell (X := fun b => b = n + 1) (p := ⟨n + 1, 0, none⟩) (Keep.refl _ _) rfl _, fun _ => SB.set_heap hX⟩, SB.set_heap hX⟩⟩
            case hd =>
              rintro ⟨ts, ds⟩ X ⟨hX, hc⟩ hL hd hd2
              have hds : ds = _ := hL.defers
              obtain ⟨_, hres⟩ := hd2 15 (by decide)
              have hres : X.heap[n + 1]? = some (.cells #[.bool true] 4 (0, 0)) := hres
              have h4 : ts.getD 4 undef = .pointer (some ⟨n + 1, 0, none⟩) := hL.far 4 (by kernel_rfl)
              clear hd hd2 hc
              subst hds
              clear hL
              gi_wp2_with fail
              refine leaves_marks (Ds := [D]) (by simp) (fun D' h => by simp at h; subst h; exact (HSB.out _ hX).2.2.2.1) (fun W' hk' => ?_)
              have hnD := SB.ne hX (HSB.out _ hX).2.2.2.1
              refine ⟨_, results_cell_one (g := n + 1) rfl _ _ _ h4 (cell_one (hk'.heap hres (fun h => by simp at h; exact hnD h.symm))) Tryd.isAgg4, rfl, ?_⟩
              rw [hn]
              exact (HSB.out _ hX).2.2.2.2.trans (hk'.below (by have := (HSB.out _ hX).2.2.2.2.size; rw [hn] at this; exact this) (fun b h => by simp at h; omega))
end Go.Proofs.YtgjhingjheplfaaDoor
