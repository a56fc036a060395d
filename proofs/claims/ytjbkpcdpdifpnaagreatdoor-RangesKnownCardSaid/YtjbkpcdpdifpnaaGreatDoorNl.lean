/- ranges.Of. -/
import Derived.Test.YtjbkpcdpdifpnaaGreatDoorCk7
import Derived.Test.YtjbkpcdpdifpnaaGreatDoorCk2
namespace Go.Proofs.YtjbkpcdpdifpnaaGreatDoor
open Go Go.RowKit Go.Kt Go.Kt.Rg

theorem mk_zeros (W : World) (n : Nat) (hn : 16 * n ≤ 281474976710656) :
    ∃ w2, (Instr.makeSlice 91 (.int .i64 (n : Int)) (.int .i64 (n : Int))).run Tryz.prog W = .ok (.slice (some ⟨W.heap.size, 0, none⟩) n n) w2 ∧
      OwnS (fun b => W.heap.size ≤ b) 98 2 (.slice (some ⟨W.heap.size, 0, none⟩) n n) n (encR (List.replicate n (0, 0))) w2 ∧ Below W.heap.size W w2 := by
  obtain ⟨i, hi, hz, hs1, hbb1⟩ := info_parts tinfoRun
  have hr := run_make (P := Tryz.prog) W 91 98 i _ Tryz.underlying91 hi hz .i64 .i64 n n (by omega) (Int.le_refl _) (by rw [hbb1]; omega) (by omega)
  simp only [Int.toNat_natCast] at hr
  rw [hs1] at hr
  refine ⟨_, hr, ⟨⟨by rw [encR_len, List.length_replicate], .inr ⟨W.heap.size, n, _, rfl, Nat.zero_le _, heap_alloc_new W _, Nat.le_refl _, by unfold maxLen; omega, by simp [madeCells], ?_⟩⟩, fun g hg => by cases hg; exact Nat.le_refl _⟩, (Below.refl _ W).alloc (Nat.le_refl _) _⟩
  apply List.ext_getElem?
  intro j
  have hz2 : ∀ (m : Nat), (encR (List.replicate m (0, 0)))[j]? = if j < m * 2 then some (.int .i64 0) else none := by
    intro m
    split
    · rename_i h
      have e := encR_get (List.replicate m (0, 0)) (j / 2) (0, 0) (by rw [List.getElem?_replicate, if_pos (by omega)])
      rcases (by omega : j % 2 = 0 ∨ j % 2 = 1) with k | k
      · rw [show j / 2 * 2 = j by omega] at e; exact e.1
      · rw [show j / 2 * 2 + 1 = j by omega] at e; exact e.2
    · rename_i h
      exact List.getElem?_eq_none (by rw [encR_len, List.length_replicate]; omega)
  rw [hz2]
  by_cases hj : j < n * 2
  · rw [if_pos hj, List.getElem?_take, if_pos hj]
    simp only [madeCells, Value.cells]
    rw [Array.getElem?_toList]
    simp [hj]
    rcases (by omega : j % 2 = 0 ∨ j % 2 = 1) with k | k <;> simp [k]
  · rw [if_neg hj, List.getElem?_take, if_neg hj]

theorem encR_put (l : List Run) (x y : Run) (t : List Run) : ((encR (l ++ x :: t)).set (l.length * 2) (.int .i64 y.1)).set (l.length * 2 + 1) (.int .i64 y.2) = encR (l ++ y :: t) := by
  rw [encR_append, encR_append, List.set_append_right _ _ (by rw [encR_len]; omega), encR_len, Nat.sub_self, List.set_append_right _ _ (by rw [encR_len]; omega), encR_len]
  rw [show l.length * 2 + 1 - l.length * 2 = 1 by omega]
  rfl

def OfOut (l : List (Int × Int)) (w : World) (e : Ending) (w' : World) : Prop :=
  ((∃ k x, l[k]? = some x ∧ badR x ≠ 0 ∧ (∀ j y, j < k → l[j]? = some y → badR y = 0) ∧ e = .returned (.tuple #[.pointer none, .iface 96 (.agg #[.int .i64 (badR x), .int .i64 0, .int .i64 (k : Nat)])])) ∨
   ((∀ x ∈ l, badR x = 0) ∧ ∃ b, e = .returned (.tuple #[ptrV b, .nilIface]) ∧ SetAt (canonOf (numsR l)) b w')) ∧ Below w.heap.size w w'
set_option maxRecDepth 100000 in
set_option maxHeartbeats 2000000 in
theorem rof_any (l : List (Int × Int)) (v : Value) (w : World) (h : SpG w v l) (hT : PTab w) (hl : l.length ≤ 2199023255552) (hw : ∀ x ∈ l, (-2147483648 ≤ x.1 ∧ x.1 ≤ 2147483647) ∧ (-2147483648 ≤ x.2 ∧ x.2 ≤ 2147483647)) :
    Calls Tryz.prog 15 #[v] w (OfOut l w) := by
  have H := Lib.hid h
  obtain ⟨ao, cap, rfl, h2⟩ := h
  have H2 := Lib.hid h2
  have HT := Lib.hid hT
  have HW := Lib.hid hw
  obtain ⟨n, hn⟩ : ∃ n, l.length = n := ⟨_, rfl⟩
  rw [hn] at hl H ⊢
  have HN := Lib.hid hn
  obtain ⟨w1, hrun, hown1, hb1⟩ := mk_zeros w n (by omega)
  have CN := Lib.hid (fun (r : Int) (V : World) (hr : -2147483648 ≤ r ∧ r ≤ 2147483647) (hb : Below w.heap.size w V) => rnumber_any r V (HT.out.next hb) hr)
  have O1 := Lib.hid (And.intro hown1 hb1)
  have FT : Hid (∀ (x : Int × Int) (k : Nat) (V : World), l[k]? = some x → badR x ≠ 0 → (∀ j y, j < k → l[j]? = some y → badR y = 0) → Below w.heap.size w V → OfOut l w (.returned (.tuple #[.pointer none, .iface 96 (.agg #[.int .i64 (badR x), .int .i64 0, .int .i64 (k : Nat)])])) V) :=
    Lib.hid fun x k V h1 h2 h3 h4 => ⟨.inl ⟨k, x, h1, h2, h3, rfl⟩, h4⟩
  clear h2 hT hw hn hown1 hb1
  go_enter Tryz.func15, Tryz.ntmps15
  go_wp2
  go_loopw [16] (fun x wr => ∃ k : Nat, x = .int .i64 k ∧ k ≤ n ∧ (∀ j y, j < k → l[j]? = some y → badR y = 0) ∧ OwnS (fun b => w.heap.size ≤ b) 98 2 (.slice (some ⟨w.heap.size, 0, none⟩) n n) n (encR (numsR (l.take k) ++ List.replicate (n - k) (0, 0))) wr ∧ Below w.heap.size w wr) (fun x _ => n - (RowKit.intOf x).toNat)
  case atStart => exact ⟨0, rfl, by omega, fun j y hj => by omega, by have := O1.out.1; simpa [numsR] using this, O1.out.2⟩
  case round =>
    obtain ⟨k, rfl, hk, hgood, hown, hb⟩ := hrel
    have HI := Lib.hid (And.intro hgood (And.intro hown hb))
    have hbs := hb.size
    clear hgood hown hb hrun
    by_cases hlt : k < n
    · have hlt' : (k : Int) < n := by omega
      obtain ⟨x, hx⟩ : ∃ x, l[k]? = some x := ⟨_, List.getElem?_eq_getElem (by rw [HN.out]; exact hlt)⟩
      obtain ⟨g, off, rfl, r1, r2⟩ : ∃ g off, ao = some ⟨g, off, none⟩ ∧ wr.cell? ⟨g, off + k * 2, none⟩ = some (.int .i32 x.1) ∧ wr.cell? ⟨g, off + k * 2 + 1, none⟩ = some (.int .i32 x.2) := by
        rcases H2.out with h | ⟨g, off, e, h⟩
        · subst h; simp at hx
        · exact ⟨g, off, e, (HI.out.2.2.cell (lt_of_cell (h k x hx).1)).trans (h k x hx).1, (HI.out.2.2.cell (lt_of_cell (h k x hx).2)).trans (h k x hx).2⟩
      have hxw := HW.out x (List.mem_of_getElem? hx)
      have HX := Lib.hid hx
      have F := Lib.hid (fun V => FT.out x k V hx)
      have hbad : Hid (badR x = if (numB x.1).2 = false ∨ (numB x.2).2 = false then 8 else if (numB x.2).1 < (numB x.1).1 then 1 else 0) := Lib.hid rfl
      have hnx : Hid (numsR (l.take (k + 1)) = numsR (l.take k) ++ [((numB x.1).1, (numB x.2).1 + 1)]) := Lib.hid (by
        rw [List.take_add_one, hx]; simp [numsR])
      obtain ⟨x1, x2⟩ := x
      simp only at r1 r2 hxw hbad hnx
      have C1 := Lib.hid (fun V => CN.out x1 V hxw.1)
      have C2 := Lib.hid (fun V => CN.out x2 V hxw.2)
      have q1 := numB_bd x1
      have q2 := numB_bd x2
      generalize numB x1 = R1 at *
      generalize numB x2 = R2 at *
      obtain ⟨m1, t1⟩ := R1
      obtain ⟨m2, t2⟩ := R2
      simp only at hbad hnx q1 q2 C1 C2
      unfold allN at q1 q2
      have HA : Hid (Below w.heap.size w (wr.alloc (.cells #[.int .i32 x1, .int .i32 x2] 27))) := Lib.hid (HI.out.2.2.alloc hbs _)
      clear hx hxw
      go_wp2_with fail
      refine (C1.out _ HA.out).mono ?_
      rintro e v1 ⟨rfl, hb1⟩
      have k1 := (hb1.cell (by simp)).trans (Lib.cell_of_heap (World.alloc_heap_new wr (.cells #[.int .i32 x1, .int .i32 x2] 27)) 1)
      simp at k1
      have hr1 : Below wr.heap.size wr v1 := ((Below.refl _ wr).alloc (Nat.le_refl _) _).trans (hb1.mono (by simp))
      have hk1 : wr.heap.size < v1.heap.size := by have := hb1.size; simp at this; omega
      have HB1 := Lib.hid hr1
      clear hb1 hr1
      go_wp2_with fail
      refine (C2.out _ (HI.out.2.2.trans (HB1.out.mono hbs))).mono ?_
      rintro e v2 ⟨rfl, hb2⟩
      have hr2 : Below wr.heap.size wr v2 := HB1.out.trans (hb2.mono HB1.out.size)
      have hB2 := HI.out.2.2.trans (hr2.mono hbs)
      have hown2 : OwnS (fun b => w.heap.size ≤ b) 98 2 (.slice (some ⟨w.heap.size, 0, none⟩) n n) n (encR (numsR (l.take k) ++ List.replicate (n - k) (0, 0))) v2 :=
        HI.out.2.1.keep (X := fun _ => False) (.of_all hr2) (fun _ h => h.elim)
      have HB2 := Lib.hid (And.intro hB2 hown2)
      clear hb2 hr2 hB2 hown2 k1
      cases t1 with
      | false =>
        have F8 := Lib.hid (F.out v2 (by rw [hbad.out]; simp) HI.out.1 HB2.out.1)
        rw [show badR (x1, x2) = 8 by rw [hbad.out]; simp] at F8
        go_wp2_with fail
        go_ret2
        exact F8.out
      | true =>
        cases t2 with
        | false =>
          have F8 := Lib.hid (F.out v2 (by rw [hbad.out]; simp) HI.out.1 HB2.out.1)
          rw [show badR (x1, x2) = 8 by rw [hbad.out]; simp] at F8
          go_wp2_with fail
          go_ret2
          exact F8.out
        | true =>
          by_cases hlo : m2 < m1
          · have e1 : badR (x1, x2) = 1 := by rw [hbad.out]; simp [hlo]
            have F8 := Lib.hid (F.out v2 (by rw [e1]; decide) HI.out.1 HB2.out.1)
            rw [e1] at F8
            clear e1
            go_wp2_with fail
            go_ret2
            exact F8.out
          · have e0 : Hid (badR (x1, x2) = 0) := Lib.hid (by rw [hbad.out]; simp [hlo])
            have hf1 : v2.frozen? ⟨w.heap.size, k * 2, none⟩ = false := HB2.out.2.1.frozenAt _
            have hf2 : v2.frozen? ⟨w.heap.size, k * 2 + 1, none⟩ = false := HB2.out.2.1.frozenAt _
            have htk : (numsR (l.take k)).length = k := by simp [numsR, HN.out]; omega
            have hrep : List.replicate (n - k) ((0 : Int), (0 : Int)) = (0, 0) :: List.replicate (n - (k + 1)) (0, 0) := by
              rw [show n - k = (n - (k + 1)) + 1 by omega, List.replicate_succ]
            have hpt := encR_put (numsR (l.take k)) (0, 0) (m1, m2 + 1) (List.replicate (n - (k + 1)) (0, 0))
            rw [htk, ← hrep] at hpt
            have hS2 := slr_of_own HB2.out.2 (by rw [List.length_append, htk, List.length_replicate]; omega)
            obtain ⟨g', eg, cc1, cc2⟩ := hS2.at_ (i := k) (x := (0, 0)) (by rw [List.getElem?_append_right (by rw [htk]; exact Nat.le_refl _), htk, Nat.sub_self, hrep]; rfl)
            obtain rfl : w.heap.size = g' := by injection eg with eg; injection eg
            simp only at cc1 cc2
            clear eg hS2
            have st1 := HB2.out.2.1.stored (k * 2) (.int .i64 m1)
            have st2 := st1.1.stored (k * 2 + 1) (.int .i64 (m2 + 1))
            rw [hpt] at st2
            have HS : Hid (OwnS (fun b => w.heap.size ≤ b) 98 2 (.slice (some ⟨w.heap.size, 0, none⟩) n n) n (encR (numsR (l.take (k + 1)) ++ List.replicate (n - (k + 1)) (0, 0))) ((v2.setCell ⟨w.heap.size, k * 2, none⟩ (.int .i64 m1)).setCell ⟨w.heap.size, k * 2 + 1, none⟩ (.int .i64 (m2 + 1)))) :=
              Lib.hid ⟨by rw [hnx.out, List.append_assoc]; exact st2.1, HB2.out.2.2⟩
            have HB3 := Lib.hid ((HB2.out.1.setCell (p := ⟨w.heap.size, k * 2, none⟩) (Nat.le_refl _) (.int .i64 m1)).setCell (p := ⟨w.heap.size, k * 2 + 1, none⟩) (Nat.le_refl _) (.int .i64 (m2 + 1)))
            clear st1 st2 hpt htk hrep
            go_wp2_with fail
            go_roundw
            case rel => exact ⟨k + 1, by go_num, by omega, fun j y hj hy => by
              rcases Nat.lt_or_ge j k with h | h
              · exact HI.out.1 j y h hy
              · obtain rfl : j = k := by omega
                rw [HX.out] at hy; cases hy; exact e0.out, HS.out, HB3.out⟩
            case measure => simp [RowKit.intOf]; omega
    · have hlt' : ¬ (k : Int) < n := by omega
      obtain rfl : k = n := by omega
      have hall : ∀ x ∈ l, badR x = 0 := fun x hx => by
        obtain ⟨j, hj⟩ := List.mem_iff_getElem?.1 hx
        exact HI.out.1 j x (by have := (List.getElem?_eq_some_iff.1 hj).1; rw [HN.out] at this; exact this) hj
      have ho : OwnS (fun b => w.heap.size ≤ b) 98 2 (.slice (some ⟨w.heap.size, 0, none⟩) k k) k (encR (numsR l)) wr := by
        have := HI.out.2.1
        rw [Nat.sub_self, List.replicate_zero, List.append_nil, ← HN.out, List.take_length] at this
        rw [← HN.out]; exact this
      have CM := Lib.hid (rmelted_any (numsR l) (some ⟨w.heap.size, 0, none⟩) k k wr ho (by simp [numsR, HN.out]) (by omega) (good_fit hall))
      have HO := Lib.hid (And.intro hall ho)
      clear hall ho
      go_wp2_with fail
      refine CM.out.mono ?_
      rintro e v1 ⟨ap, m, cp, rfl, hm, hown, hkp⟩
      have hS := slr_of_own hown hm
      have hbb := HI.out.2.2.trans (hkp.below hbs fun b h => HO.out.2.2 b h)
      have HF : Hid (OfOut l w (.returned (.tuple #[.pointer (some ⟨v1.heap.size, 0, none⟩), .nilIface])) (v1.alloc (.cells #[.slice ap m cp] 101))) := Lib.hid ⟨.inr ⟨HO.out.1, v1.heap.size, rfl, set_box hS⟩, hbb.alloc hbb.size _⟩
      clear hS hbb hm hown hkp
      go_wp2_with fail
      go_ret2
      exact HF.out
end Go.Proofs.YtjbkpcdpdifpnaaGreatDoor
