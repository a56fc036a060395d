/- Spans of a set. -/
import Derived.Test.YtmcmdijfdhlnaaaDoorZ2
import Derived.Deep.RegionWith
namespace Go.Proofs.YtmcmdijfdhlnaaaDoor
open Go Go.RowKit Go.Kt Go.Kt.Rg

/-- The world behind the memory for spans. -/
def mkW (W : World) (c : Nat) : World := W.alloc (.cells (madeCells (Value.agg #[.int .i32 0, .int .i32 0]).cells (c * 2)) 40)
theorem mk_spans (W : World) (c : Nat) (hc : 8 * c ≤ 281474976710656) :
    (Instr.makeSlice 22 (.int .i64 0) (.int .i64 (c : Int))).run Tryd.prog W = .ok (.slice (some ⟨W.heap.size, 0, none⟩) 0 c) (mkW W c) ∧
      OwnS (fun b => b = W.heap.size) 40 2 (.slice (some ⟨W.heap.size, 0, none⟩) 0 c) 0 (encSp []) (mkW W c) ∧ (mkW W c).heap.size = W.heap.size + 1 ∧ Below W.heap.size W (mkW W c) := by
  obtain ⟨i, hi, hz, hs1, hbb1⟩ := info_parts tinfoSpan
  have hb' : (i.bytes : Int) * (c : Int) ≤ 281474976710656 := by rw [hbb1]; omega
  have hr := run_make (P := Tryd.prog) W 22 40 i _ Tryd.underlying22 hi hz .i64 .i64 0 c (Int.le_refl _) (by omega) hb' (by omega)
  simp only [Int.toNat_zero, Int.toNat_natCast] at hr
  have hm : c ≤ maxLen := by unfold maxLen; omega
  have hq := World.ownsRow_made (base := 0) W (madeCells (Value.agg #[.int .i32 0, .int .i32 0]).cells (c * i.size)) c (Nat.zero_le _) hm (size_madeCells _ _) (e := 40)
  rw [hs1] at hq hr
  exact ⟨hr, ⟨hq, fun g h => by cases h; rfl⟩, by simp [mkW], (Below.refl _ W).alloc (Nat.le_refl _) _⟩

theorem enters_spans : ∀ args w, (callFunc 45 args).run Tryd.prog w = .ok (.enter 45 args) w := enters_of Tryd.func45 (by kernel_rfl) rfl

/-- A set's row, in any later world. -/
theorem set_row {l : List Run} {b : Nat} {w : World} (h : SetAt l b w) :
    b < w.heap.size ∧ ∃ g, g < w.heap.size ∧ ∃ ao cap, ∀ V, Below w.heap.size w V → (V.cell? ⟨b, 0, none⟩ = some (.slice ao l.length cap) ∧ (l = [] ∨ ao = some ⟨g, 0, none⟩ ∧ ∀ (i : Nat) (x : Run), l[i]? = some x → V.cell? ⟨g, i * 2, none⟩ = some (.int .i64 x.1) ∧ V.cell? ⟨g, i * 2 + 1, none⟩ = some (.int .i64 x.2))) := by
  obtain ⟨v, h1, ao, cap, rfl, h2⟩ := h
  have hb := lt_of_cell h1
  refine ⟨hb, ?_⟩
  cases l with
  | nil => exact ⟨b, hb, ao, cap, fun V hV => ⟨(hV.cell hb).trans h1, .inl rfl⟩⟩
  | cons x t =>
    rcases h2 with h2 | ⟨g, rfl, h2⟩
    · cases h2
    · have hg := lt_of_cell (h2 0 x rfl).1
      refine ⟨g, hg, _, cap, fun V hV => ⟨(hV.cell hb).trans h1, .inr ⟨rfl, fun i y hy => ?_⟩⟩⟩
      have h3 := h2 i y hy
      have e1 : V.cell? ⟨g, i * 2, none⟩ = w.cell? ⟨g, i * 2, none⟩ := hV.cell hg
      have e2 : V.cell? ⟨g, i * 2 + 1, none⟩ = w.cell? ⟨g, i * 2 + 1, none⟩ := hV.cell hg
      exact ⟨e1.trans h3.1, e2.trans h3.2⟩

set_option maxRecDepth 100000 in
set_option maxHeartbeats 2000000 in
theorem rSpans_any (l : List Run) (b : Nat) (w : World) (h : SetAt l b w) (hc : Canon l) (hT : PTab w) :
    Calls Tryd.prog 17 #[ptrV b] w fun e w' => ∃ ao cp, e = .returned (.slice ao l.length cp) ∧ OwnS (fun b => w.heap.size ≤ b) 40 2 (.slice ao l.length cp) l.length (encSp (spansL l)) w' ∧ Below w.heap.size w w' := by
  have hlen := canon_len hc (Int.le_refl _)
  have hl : l.length ≤ 1112192 := by unfold allN at hlen; omega
  obtain ⟨hb, g, hg, ao, cap, hrow⟩ := set_row h
  have q2 := (hrow w (Below.refl _ _)).1
  have hpt := hT.lt
  have CA : Hid (∀ (V : World) (h' c bs : Nat), Below w.heap.size w V → w.heap.size ≤ h' → w.heap.size ≤ bs → h' ≠ bs → OwnS (fun b => b = h') 40 2 (.slice (some ⟨h', 0, none⟩) 0 c) 0 (encSp []) V → V.cell? ⟨bs, 0, none⟩ = some (ptrV b) →
      Calls Tryd.prog 34 #[.slice (some ⟨h', 0, none⟩) 0 c, .func (.func 45) #[] #[.pointer (some ⟨bs, 0, none⟩)]] V fun e w' => ∃ ao cp, e = .returned (.slice ao l.length cp) ∧ OwnS (fun b => w.heap.size ≤ b) 40 2 (.slice ao l.length cp) l.length (encSp (spansL l)) w' ∧ Below w.heap.size w w') := Lib.hid fun V h' c bs hV h1 h2 h3 ho hbs => by
    have hVs := hV.size
    have hbs' := lt_of_cell hbs
    have it := spans_iter l bs b g V hbs ⟨ao, cap, hrow V hV⟩ hc (hT.next hV)
    have hsl : (spansL l).length = l.length := by simp [spansL]
    refine (rappend_any (spansL l) _ _ _ h' c V V enters_spans it (fun x hx => ?_) (fun _ _ => rfl) (Nat.le_refl _) (by omega) ho).mono ?_
    · simp only at hbs'
      rcases hx with rfl | rfl | rfl | rfl <;> omega
    · rintro e w' ⟨ao2, m, cp2, rfl, rfl, ho2, hk2⟩
      rw [hsl] at ho2 ⊢
      exact ⟨ao2, cp2, rfl, ho2.weaken (fun x hx => by rcases hx with hx | hx <;> omega), hV.trans (hk2.below hVs (fun x hx => by have hx : x = h' := hx; omega))⟩
  have CM : Hid (∀ (V : World) (o : Obj), Below w.heap.size w V → (Below w.heap.size w (mkW V l.length) ∧ OwnS (fun x => x = V.heap.size) 40 2 (.slice (some ⟨V.heap.size, 0, none⟩) 0 l.length) 0 (encSp []) (mkW V l.length) ∧ (mkW V l.length).heap.size = V.heap.size + 1)) := Lib.hid fun V o hV => by
    obtain ⟨_, a2, a3, a4⟩ := mk_spans V l.length (by omega)
    exact ⟨hV.trans (a4.mono hV.size), a2, a3⟩
  have mk : ∀ V, (Instr.makeSlice 22 (.int .i64 0) (.int .i64 (l.length : Int))).run Tryd.prog V = .ok (.slice (some ⟨V.heap.size, 0, none⟩) 0 l.length) (mkW V l.length) := fun V => (mk_spans V l.length (by omega)).1
  have hbd : Below w.heap.size w w.drew := show Below w.heap.size w (w.drewN 1) from below_drewN (Below.refl _ _) 1
  have LA : Hid (∀ w1 : World, (mkW w.drew l.length).alloc (.cells #[ptrV b] 23) = w1 → Calls Tryd.prog 34 #[.slice (some ⟨w.heap.size, 0, none⟩) 0 l.length, .func (.func 45) #[] #[.pointer (some ⟨(mkW w.drew l.length).heap.size, 0, none⟩)]] w1 fun e w' => ∃ ao cp, e = .returned (.slice ao l.length cp) ∧ OwnS (fun b => w.heap.size ≤ b) 40 2 (.slice ao l.length cp) l.length (encSp (spansL l)) w' ∧ Below w.heap.size w w') := Lib.hid fun w1 e1 => by
    obtain ⟨b1, b2, b3⟩ := CM.out w.drew (.cells #[] 0) hbd
    have hz : w.drew.heap.size = w.heap.size := rfl
    rw [hz] at b2 b3
    have hal := (Below.refl (mkW w.drew l.length).heap.size (mkW w.drew l.length)).alloc (Nat.le_refl _) (.cells #[ptrV b] 23)
    rw [e1] at hal
    refine CA.out w1 _ _ _ (b1.trans (hal.mono b1.size)) (Nat.le_refl _) (by omega) (by omega) (b2.keep (X := fun _ => False) (.of_all hal) (fun _ h => h.elim)) ?_
    rw [← e1]
    rw [Lib.cell_of_heap (alloc_at rfl)]; rfl
  have LB : Hid (∀ w1 : World, w.drew.alloc (.cells #[ptrV b] 23) = w1 → Calls Tryd.prog 34 #[.slice (some ⟨w1.heap.size, 0, none⟩) 0 l.length, .func (.func 45) #[] #[.pointer (some ⟨w.heap.size, 0, none⟩)]] (mkW w1 l.length) fun e w' => ∃ ao cp, e = .returned (.slice ao l.length cp) ∧ OwnS (fun b => w.heap.size ≤ b) 40 2 (.slice ao l.length cp) l.length (encSp (spansL l)) w' ∧ Below w.heap.size w w') := Lib.hid fun w1 e1 => by
    have hz : w.drew.heap.size = w.heap.size := rfl
    have hal := (Below.refl w.drew.heap.size w.drew).alloc (Nat.le_refl _) (.cells #[ptrV b] 23)
    rw [e1, hz] at hal
    have hs1 : w1.heap.size = w.heap.size + 1 := by rw [← e1]; simp
    have hc1 : w1.cell? ⟨w.heap.size, 0, none⟩ = some (ptrV b) := by rw [← e1, Lib.cell_of_heap (alloc_at hz.symm)]; rfl
    obtain ⟨b1, b2, b3⟩ := CM.out w1 (.cells #[] 0) (hbd.trans hal)
    obtain ⟨_, _, _, b4⟩ := mk_spans w1 l.length (by omega)
    exact CA.out _ _ _ _ b1 (by omega) (Nat.le_refl _) (by omega) b2 ((b4.cell (by rw [hs1]; exact Nat.lt_succ_self _)).trans hc1)
  have CQ : Hid (∀ w1 : World, w.drew.alloc (.cells #[ptrV b] 23) = w1 → w1.cell? ⟨b, 0, none⟩ = some (.slice ao l.length cap)) := Lib.hid fun w1 e1 => by
    have hal := (Below.refl w.drew.heap.size w.drew).alloc (Nat.le_refl _) (.cells #[ptrV b] 23)
    rw [e1] at hal
    exact (hrow w1 (hbd.trans hal)).1
  clear hrow h hc hT hlen hbd
  go_enter Tryd.func17, Tryd.ntmps17
  go_wp2
  go_region_with (first
    | (go_at_call 30; refine (rspans_call b _).mono ?_; rintro e w1 ⟨rfl, hw1⟩; (have HW1 := Lib.hid hw1); (try (have q2b := CQ.out _ hw1)); clear hw1)
    | (go_at_call 34; (first | refine (LA.out _ HW1.out).mono ?_ | refine (LB.out _ HW1.out).mono ?_); rintro e w2 ⟨ao2, cp2, rfl, HF⟩))
  all_goals
    go_wp2
    go_ret
    exact ⟨_, _, rfl, HF⟩
end Go.Proofs.YtmcmdijfdhlnaaaDoor
