/- cells: the unit at a place of a text, whole. -/
import Derived.Test.YthhepebkfokddaaGreatDoorId
import Derived.Test.YthhepebkfokddaaGreatDoorIe
import Derived.Test.YthhepebkfokddaaGreatDoorIf
namespace Go.Proofs.YthhepebkfokddaaGreatDoor
open Go Go.RowKit Go.Kt

set_option maxRecDepth 100000 in
set_option maxHeartbeats 2000000 in
theorem cunit {gp : Nat} {S : RdS} {md : MdT} (s : ByteArray) (a : Int) (w : World) (hP : PrW gp S md w) (hT : Lib.Utf8Tabs 3 4 w) (hs : s.size ≤ 4611686018427387904) :
    Calls Tryz.prog 28 #[.pointer (some ⟨gp, 0, none⟩), .string s, .int .i64 a] w fun e w' => e = .returned (cuV (untP S s a)) ∧ Below w.heap.size w w' := by
  have HU : Hid (untP S s a = if (decP s a).1 = 65533 ∧ (decP s a).2 = 1 then ⟨65533, true, false, false, 0⟩
    else ⟨(decP s a).1, decide ((decP s a).1 = 10) || decide ((decP s a).1 = 13) || decide (kndV S (decP s a).1 = 5), decide (kndV S (decP s a).1 = 3) || decide (kndV S (decP s a).1 = 6) || decide (0 < clsV S (decP s a).1), decide (kndV S (decP s a).1 = 6), hanK (decP s a).1⟩) := Lib.hid rfl
  rw [HU.out]
  obtain ⟨w0, hw0⟩ : ∃ W, w.alloc cuZ = W := ⟨_, rfl⟩
  have hb0 : Below w.heap.size w w0 := by rw [← hw0]; exact (Below.refl _ w).alloc (Nat.le_refl _) _
  have hg0 : w0.heap[w.heap.size]? = some (.cells #[.int .i32 0, .bool false, .bool false, .bool false, .int .i64 0] 71 (0, 0)) := by rw [← hw0]; exact World.alloc_heap_new _ _
  have CD := Lib.hid (utfDecode_any s a w0 (tabs_below hT (tabs_size hT) hb0) hs)
  have CK := Lib.hid (fun W (h : Below w.heap.size w W) r => pkndP W (hP.below h) r)
  have CC := Lib.hid (fun W (h : Below w.heap.size w W) r => pclsP W (hP.below h) r)
  have HW0 := Lib.hid hw0
  have H0 := Lib.hid (And.intro hb0 hg0)
  obtain ⟨r, hr⟩ : ∃ r, (decP s a).1 = r := ⟨_, rfl⟩
  obtain ⟨v, hv⟩ : ∃ r, (decP s a).2 = r := ⟨_, rfl⟩
  rw [hr, hv] at CD ⊢
  clear hw0 hb0 hg0 hP hT hs HU hr hv
  by_cases hbad : r = 65533 ∧ v = 1
  · rw [if_pos hbad]
    obtain ⟨rfl, rfl⟩ := hbad
    go_enter Tryz.func28, Tryz.ntmps28
    go_wp2_with fail
    rw [HW0.out]
    refine CD.out.mono ?_
    rintro e w1 ⟨rfl, hb1⟩
    have hg1 : w1.heap[w.heap.size]? = some (.cells #[.int .i32 0, .bool false, .bool false, .bool false, .int .i64 0] 71 (0, 0)) := (hb1.block _ (Array.getElem?_eq_some_iff.1 H0.out.2).1).trans H0.out.2
    have H1 : Hid (Below w.heap.size w w1 ∧ w1.heap[w.heap.size]? = some (.cells #[.int .i32 0, .bool false, .bool false, .bool false, .int .i64 0] 71 (0, 0))) := Lib.hid ⟨H0.out.1.trans (hb1.mono H0.out.1.size), hg1⟩
    clear hb1 hg1
    obtain ⟨⟨c0, c1, c2, c3, c4⟩, hf⟩ := cu_cells H1.out.2
    have f0 := hf 0
    have f1 := hf 1
    have f2 := hf 2
    have f3 := hf 3
    have f4 := hf 4
    clear hf
    go_wp2_with fail
    (try simp only [Exit.inBlock, Exit.then])
    refine bodyPost_ret (results_cell_row rfl _ _ w.heap.size 71 #[.int .i32 65533, .bool true, .bool false, .bool false, .int .i64 0] (0, 0) _ rfl (cuSet_at ⟨65533, true, false, false, 0⟩ H1.out.2) Tryz.underlying71 rfl (by kernel_rfl)) rfl ?_
    exact ⟨rfl, H1.out.1.trans (cuSet_below (V := w1) (Nat.le_refl _) ⟨65533, true, false, false, 0⟩)⟩
  · rw [if_neg hbad]
    obtain ⟨k, hk⟩ : ∃ k, kndV S r = k := ⟨_, rfl⟩
    obtain ⟨c, hcl⟩ : ∃ c, clsV S r = c := ⟨_, rfl⟩
    obtain ⟨h, hh⟩ : ∃ h, hanK r = h := ⟨_, rfl⟩
    have CH := Lib.hid (fun W => chan r W)
    have CK : Hid (∀ W, Below w.heap.size w W → ∀ q, q = r → Calls Tryz.prog 58 #[.pointer (some ⟨gp, 0, none⟩), .int .i32 q] W fun e w' => e = .returned (.int .i64 k) ∧ Below W.heap.size W w') := Lib.hid fun W h q hq => by rw [hq, ← hk]; exact CK.out W h r
    have CC : Hid (∀ W, Below w.heap.size w W → ∀ q, q = r → Calls Tryz.prog 54 #[.pointer (some ⟨gp, 0, none⟩), .int .i32 q] W fun e w' => e = .returned (.int .i64 c) ∧ Below W.heap.size W w') := Lib.hid fun W h q hq => by rw [hq, ← hcl]; exact CC.out W h r
    rw [hh] at CH
    rw [hk, hcl, hh]
    clear hk hcl hh
    obtain ⟨u, hu⟩ : ∃ u : CU, (⟨r, decide (r = 10) || decide (r = 13) || decide (k = 5), decide (k = 3) || decide (k = 6) || decide (0 < c), decide (k = 6), h⟩ : CU) = u := ⟨_, rfl⟩
    rw [hu]
    have bf : ∀ {x y : Int}, ¬ x = y → (x == y) = false := fun h => by rw [beq_eq_false_iff_ne]; exact h
    by_cases r10 : r = 10
    · subst r10
      by_cases k3 : k = 3
      · subst k3
        rw [show u = ⟨10, true, true, false, h⟩ by rw [← hu]; clear hu; simp [*]]
        exact ua3 gp s a w w0 v _ HW0 H0 CD (Lib.hid fun W h => CK.out W h _ rfl) CH
      by_cases k6 : k = 6
      · subst k6
        rw [show u = ⟨10, true, true, true, h⟩ by rw [← hu]; clear hu; simp [*]]
        exact ua6 gp s a w w0 v _ HW0 H0 CD (Lib.hid fun W h => CK.out W h _ rfl) CH
      by_cases hc : 0 < c
      · rw [show u = ⟨10, true, true, false, h⟩ by rw [← hu]; clear hu; simp [*]]
        exact uac gp s a w w0 k v c _ HW0 H0 CD (Lib.hid fun W h => CK.out W h _ rfl) (Lib.hid fun W h => CC.out W h _ rfl) CH (bf k3) (bf k6) hc
      · rw [show u = ⟨10, true, false, false, h⟩ by rw [← hu]; clear hu; simp [*]]
        exact uan gp s a w w0 k v c _ HW0 H0 CD (Lib.hid fun W h => CK.out W h _ rfl) (Lib.hid fun W h => CC.out W h _ rfl) CH (bf k3) (bf k6) hc
    by_cases r13 : r = 13
    · subst r13
      by_cases k3 : k = 3
      · subst k3
        rw [show u = ⟨13, true, true, false, h⟩ by rw [← hu]; clear hu; simp [*]]
        exact ub3 gp s a w w0 v _ HW0 H0 CD (Lib.hid fun W h => CK.out W h _ rfl) CH
      by_cases k6 : k = 6
      · subst k6
        rw [show u = ⟨13, true, true, true, h⟩ by rw [← hu]; clear hu; simp [*]]
        exact ub6 gp s a w w0 v _ HW0 H0 CD (Lib.hid fun W h => CK.out W h _ rfl) CH
      by_cases hc : 0 < c
      · rw [show u = ⟨13, true, true, false, h⟩ by rw [← hu]; clear hu; simp [*]]
        exact ubc gp s a w w0 k v c _ HW0 H0 CD (Lib.hid fun W h => CK.out W h _ rfl) (Lib.hid fun W h => CC.out W h _ rfl) CH (bf k3) (bf k6) hc
      · rw [show u = ⟨13, true, false, false, h⟩ by rw [← hu]; clear hu; simp [*]]
        exact ubn gp s a w w0 k v c _ HW0 H0 CD (Lib.hid fun W h => CK.out W h _ rfl) (Lib.hid fun W h => CC.out W h _ rfl) CH (bf k3) (bf k6) hc
    have r10' := bf r10
    have r13' := bf r13
    by_cases h1 : r = 65533
    · subst h1
      have hg2 : (v == 1) = false := bf fun e => hbad ⟨rfl, e⟩
      by_cases k3 : k = 3
      · subst k3
        rw [show u = ⟨65533, false, true, false, h⟩ by rw [← hu]; clear hu; simp [*]]
        exact uf3 gp s a w w0 v _ HW0 H0 CD (Lib.hid fun W h => CK.out W h _ rfl) CH hg2
      by_cases k6 : k = 6
      · subst k6
        rw [show u = ⟨65533, false, true, true, h⟩ by rw [← hu]; clear hu; simp [*]]
        exact uf6 gp s a w w0 v _ HW0 H0 CD (Lib.hid fun W h => CK.out W h _ rfl) CH hg2
      by_cases k5 : k = 5
      · subst k5
        by_cases hc : 0 < c
        · rw [show u = ⟨65533, true, true, false, h⟩ by rw [← hu]; clear hu; simp [*]]
          exact uf5c gp s a w w0 v c _ HW0 H0 CD (Lib.hid fun W h => CK.out W h _ rfl) (Lib.hid fun W h => CC.out W h _ rfl) CH hg2 hc
        · rw [show u = ⟨65533, true, false, false, h⟩ by rw [← hu]; clear hu; simp [*]]
          exact uf5n gp s a w w0 v c _ HW0 H0 CD (Lib.hid fun W h => CK.out W h _ rfl) (Lib.hid fun W h => CC.out W h _ rfl) CH hg2 hc
      by_cases hc : 0 < c
      · rw [show u = ⟨65533, false, true, false, h⟩ by rw [← hu]; clear hu; simp [*]]
        exact ufc gp s a w w0 k v c _ HW0 H0 CD (Lib.hid fun W h => CK.out W h _ rfl) (Lib.hid fun W h => CC.out W h _ rfl) CH hg2 (bf k3) (bf k6) (bf k5) hc
      · rw [show u = ⟨65533, false, false, false, h⟩ by rw [← hu]; clear hu; simp [*]]
        exact ufn gp s a w w0 k v c _ HW0 H0 CD (Lib.hid fun W h => CK.out W h _ rfl) (Lib.hid fun W h => CC.out W h _ rfl) CH hg2 (bf k3) (bf k6) (bf k5) hc
    have hg := bf h1
    by_cases k3 : k = 3
    · subst k3
      rw [show u = ⟨r, false, true, false, h⟩ by rw [← hu]; clear hu; simp [*]]
      exact uo3 gp s a w w0 r v _ HW0 H0 CD (Lib.hid fun W h => CK.out W h _ rfl) CH hg r10' r13'
    by_cases k6 : k = 6
    · subst k6
      rw [show u = ⟨r, false, true, true, h⟩ by rw [← hu]; clear hu; simp [*]]
      exact uo6 gp s a w w0 r v _ HW0 H0 CD (Lib.hid fun W h => CK.out W h _ rfl) CH hg r10' r13'
    by_cases k5 : k = 5
    · subst k5
      by_cases hc : 0 < c
      · rw [show u = ⟨r, true, true, false, h⟩ by rw [← hu]; clear hu; simp [*]]
        exact uo5c gp s a w w0 r v c _ HW0 H0 CD (Lib.hid fun W h => CK.out W h _ rfl) (Lib.hid fun W h => CC.out W h _ rfl) CH hg r10' r13' hc
      · rw [show u = ⟨r, true, false, false, h⟩ by rw [← hu]; clear hu; simp [*]]
        exact uo5n gp s a w w0 r v c _ HW0 H0 CD (Lib.hid fun W h => CK.out W h _ rfl) (Lib.hid fun W h => CC.out W h _ rfl) CH hg r10' r13' hc
    by_cases hc : 0 < c
    · rw [show u = ⟨r, false, true, false, h⟩ by rw [← hu]; clear hu; simp [*]]
      exact uoc gp s a w w0 r k v c _ HW0 H0 CD (Lib.hid fun W h => CK.out W h _ rfl) (Lib.hid fun W h => CC.out W h _ rfl) CH hg r10' r13' (bf k3) (bf k6) (bf k5) hc
    · rw [show u = ⟨r, false, false, false, h⟩ by rw [← hu]; clear hu; simp [*]]
      exact uon gp s a w w0 r k v c _ HW0 H0 CD (Lib.hid fun W h => CK.out W h _ rfl) (Lib.hid fun W h => CC.out W h _ rfl) CH hg r10' r13' (bf k3) (bf k6) (bf k5) hc
end Go.Proofs.YthhepebkfokddaaGreatDoor
