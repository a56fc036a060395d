/- Parts of the proof of what the last text says. -/
import Derived.Test.YthhepebkfokddaaGreatDoorGy16
import Derived.Test.YthhepebkfokddaaGreatDoorGy1
import Derived.Test.YthhepebkfokddaaGreatDoorGy15
import Derived.Test.YthhepebkfokddaaGreatDoorGy2
import Derived.Test.YthhepebkfokddaaGreatDoorGy5
import Derived.Test.YthhepebkfokddaaGreatDoorGy14
/- cells: the unit at a place of a text, whole. -/
namespace Go.Proofs.YthhepebkfokddaaGreatDoor
open Go Go.RowKit Go.Kt

set_option maxRecDepth 100000 in
set_option maxHeartbeats 2000000 in
theorem cunit {gp : Nat} {S : RdS} {md : MdT} (s : ByteArray) (a : Int) (w : World) (hP : PrW gp S md w) (hT : Lib.Utf8Tabs 3 4 w) (hs : s.size ≤ 4611686018427387904) :
    Calls Tryz.prog 28 #[.pointer (some ⟨gp, 0, none⟩), .string s, .int .i64 a] w fun e w' => e = .returned (cuV (untP S s a)) ∧ Below w.heap.size w w' := by
  have HU : Hid (untP S s a = if (decP s a).1 = 65533 ∧ (decP s a).2 = 1 then ⟨65533, true, false, false, 0⟩
    else ⟨(decP s a).1, decide ((decP s a).1 = 10) || decide ((decP s a).1 = 13) || decide (kndV S (decP s a).1 = 5), decide (kndV S (decP s a).1 = 3) || decide (kndV S (decP s a).1 = 6) || decide (0 < clsV S (decP s a).1), decide (kndV S (decP s a).1 = 6), hanK (decP s a).1⟩) := Lib.hid rfl
  rw [HU.out]
  obtain ⟨w0, hw0⟩ : ∃ W, w.alloc cuZ = W := ⟨_, rfl⟩
  have hb0 : Below w.heap.size w w0 := by rw [← hw0]; exact (Below.refl _ w).alloc (Nat.le_refl _) _
  have hg0 : w0.heap[w.heap.size]? = some (.cells #[.int .i32 0, .bool false, .bool false, .bool false, .int .i64 0] 71 (0, 0)) := by rw [← hw0]; exact World.alloc_heap_new _ _
  have CD := Lib.hid (utfDecode_any s a w0 (tabs_below hT (tabs_size hT) hb0) hs)
  have CK := Lib.hid (fun W (h : Below w.heap.size w W) r => pkndP W (hP.below h) r)
  have CC := Lib.hid (fun W (h : Below w.heap.size w W) r => pclsP W (hP.below h) r)
  have HW0 := Lib.hid hw0
  have H0 := Lib.hid (And.intro hb0 hg0)
  obtain ⟨r, hr⟩ : ∃ r, (decP s a).1 = r := ⟨_, rfl⟩
  obtain ⟨v, hv⟩ : ∃ r, (decP s a).2 = r := ⟨_, rfl⟩
  rw [hr, hv] at CD ⊢
  clear hw0 hb0 hg0 hP hT hs HU hr hv
  by_cases hbad : r = 65533 ∧ v = 1
  · rw [if_pos hbad]
    obtain ⟨rfl, rfl⟩ := hbad
    go_enter Tryz.func28, Tryz.ntmps28
    go_wp2_with fail
    rw [HW0.out]
    refine CD.out.mono ?_
    rintro e w1 ⟨rfl, hb1⟩
    have hg1 : w1.heap[w.heap.size]? = some (.cells #[.int .i32 0, .bool false, .bool false, .bool false, .int .i64 0] 71 (0, 0)) := (hb1.block _ (Array.getElem?_eq_some_iff.1 H0.out.2).1).trans H0.out.2
    have H1 : Hid (Below w.heap.size w w1 ∧ w1.heap[w.heap.size]? = some (.cells #[.int .i32 0, .bool false, .bool false, .bool false, .int .i64 0] 71 (0, 0))) := Lib.hid ⟨H0.out.1.trans (hb1.mono H0.out.1.size), hg1⟩
    clear hb1 hg1
    obtain ⟨⟨c0, c1, c2, c3, c4⟩, hf⟩ := cu_cells H1.out.2
    have f0 := hf 0
    have f1 := hf 1
    have f2 := hf 2
    have f3 := hf 3
    have f4 := hf 4
    clear hf
    go_wp2_with fail
    (try simp only [Exit.inBlock, Exit.then])
    refine bodyPost_ret (results_cell_row rfl _ _ w.heap.size 71 #[.int .i32 65533, .bool true, .bool false, .bool false, .int .i64 0] (0, 0) _ rfl (cuSet_at ⟨65533, true, false, false, 0⟩ H1.out.2) Tryz.underlying71 rfl (by kernel_rfl)) rfl ?_
    exact ⟨rfl, H1.out.1.trans (cuSet_below (V := w1) (Nat.le_refl _) ⟨65533, true, false, false, 0⟩)⟩
  · rw [if_neg hbad]
    obtain ⟨k, hk⟩ : ∃ k, kndV S r = k := ⟨_, rfl⟩
    obtain ⟨c, hcl⟩ : ∃ c, clsV S r = c := ⟨_, rfl⟩
    obtain ⟨h, hh⟩ : ∃ h, hanK r = h := ⟨_, rfl⟩
    have CH := Lib.hid (fun W => chan r W)
    have CK : Hid (∀ W, Below w.heap.size w W → ∀ q, q = r → Calls Tryz.prog 58 #[.pointer (some ⟨gp, 0, none⟩), .int .i32 q] W fun e w' => e = .returned (.int .i64 k) ∧ Below W.heap.size W w') := Lib.hid fun W h q hq => by rw [hq, ← hk]; exact CK.out W h r
    have CC : Hid (∀ W, Below w.heap.size w W → ∀ q, q = r → Calls Tryz.prog 54 #[.pointer (some ⟨gp, 0, none⟩), .int .i32 q] W fun e w' => e = .returned (.int .i64 c) ∧ Below W.heap.size W w') := Lib.hid fun W h q hq => by rw [hq, ← hcl]; exact CC.out W h r
    rw [hh] at CH
    rw [hk, hcl, hh]
    clear hk hcl hh
    obtain ⟨u, hu⟩ : ∃ u : CU, (⟨r, decide (r = 10) || decide (r = 13) || decide (k = 5), decide (k = 3) || decide (k = 6) || decide (0 < c), decide (k = 6), h⟩ : CU) = u := ⟨_, rfl⟩
    rw [hu]
    have bf : ∀ {x y : Int}, ¬ x = y → (x == y) = false := fun h => by rw [beq_eq_false_iff_ne]; exact h
    by_cases r10 : r = 10
    · subst r10
      by_cases k3 : k = 3
      · subst k3
        rw [show u = ⟨10, true, true, false, h⟩ by rw [← hu]; clear hu; simp [*]]
        exact ua3 gp s a w w0 v _ HW0 H0 CD (Lib.hid fun W h => CK.out W h _ rfl) CH
      by_cases k6 : k = 6
      · subst k6
        rw [show u = ⟨10, true, true, true, h⟩ by rw [← hu]; clear hu; simp [*]]
        exact ua6 gp s a w w0 v _ HW0 H0 CD (Lib.hid fun W h => CK.out W h _ rfl) CH
      by_cases hc : 0 < c
      · rw [show u = ⟨10, true, true, false, h⟩ by rw [← hu]; clear hu; simp [*]]
        exact uac gp s a w w0 k v c _ HW0 H0 CD (Lib.hid fun W h => CK.out W h _ rfl) (Lib.hid fun W h => CC.out W h _ rfl) CH (bf k3) (bf k6) hc
      · rw [show u = ⟨10, true, false, false, h⟩ by rw [← hu]; clear hu; simp [*]]
        exact uan gp s a w w0 k v c _ HW0 H0 CD (Lib.hid fun W h => CK.out W h _ rfl) (Lib.hid fun W h => CC.out W h _ rfl) CH (bf k3) (bf k6) hc
    by_cases r13 : r = 13
    · subst r13
      by_cases k3 : k = 3
      · subst k3
        rw [show u = ⟨13, true, true, false, h⟩ by rw [← hu]; clear hu; simp [*]]
        exact ub3 gp s a w w0 v _ HW0 H0 CD (Lib.hid fun W h => CK.out W h _ rfl) CH
      by_cases k6 : k = 6
      · subst k6
        rw [show u = ⟨13, true, true, true, h⟩ by rw [← hu]; clear hu; simp [*]]
        exact ub6 gp s a w w0 v _ HW0 H0 CD (Lib.hid fun W h => CK.out W h _ rfl) CH
      by_cases hc : 0 < c
      · rw [show u = ⟨13, true, true, false, h⟩ by rw [← hu]; clear hu; simp [*]]
        exact ubc gp s a w w0 k v c _ HW0 H0 CD (Lib.hid fun W h => CK.out W h _ rfl) (Lib.hid fun W h => CC.out W h _ rfl) CH (bf k3) (bf k6) hc
      · rw [show u = ⟨13, true, false, false, h⟩ by rw [← hu]; clear hu; simp [*]]
        exact ubn gp s a w w0 k v c _ HW0 H0 CD (Lib.hid fun W h => CK.out W h _ rfl) (Lib.hid fun W h => CC.out W h _ rfl) CH (bf k3) (bf k6) hc
    have r10' := bf r10
    have r13' := bf r13
    by_cases h1 : r = 65533
    · subst h1
      have hg2 : (v == 1) = false := bf fun e => hbad ⟨rfl, e⟩
      by_cases k3 : k = 3
      · subst k3
        rw [show u = ⟨65533, false, true, false, h⟩ by rw [← hu]; clear hu; simp [*]]
        exact uf3 gp s a w w0 v _ HW0 H0 CD (Lib.hid fun W h => CK.out W h _ rfl) CH hg2
      by_cases k6 : k = 6
      · subst k6
        rw [show u = ⟨65533, false, true, true, h⟩ by rw [← hu]; clear hu; simp [*]]
        exact uf6 gp s a w w0 v _ HW0 H0 CD (Lib.hid fun W h => CK.out W h _ rfl) CH hg2
      by_cases k5 : k = 5
      · subst k5
        by_cases hc : 0 < c
        · rw [show u = ⟨65533, true, true, false, h⟩ by rw [← hu]; clear hu; simp [*]]
          exact uf5c gp s a w w0 v c _ HW0 H0 CD (Lib.hid fun W h => CK.out W h _ rfl) (Lib.hid fun W h => CC.out W h _ rfl) CH hg2 hc
        · rw [show u = ⟨65533, true, false, false, h⟩ by rw [← hu]; clear hu; simp [*]]
          exact uf5n gp s a w w0 v c _ HW0 H0 CD (Lib.hid fun W h => CK.out W h _ rfl) (Lib.hid fun W h => CC.out W h _ rfl) CH hg2 hc
      by_cases hc : 0 < c
      · rw [show u = ⟨65533, false, true, false, h⟩ by rw [← hu]; clear hu; simp [*]]
        exact ufc gp s a w w0 k v c _ HW0 H0 CD (Lib.hid fun W h => CK.out W h _ rfl) (Lib.hid fun W h => CC.out W h _ rfl) CH hg2 (bf k3) (bf k6) (bf k5) hc
      · rw [show u = ⟨65533, false, false, false, h⟩ by rw [← hu]; clear hu; simp [*]]
        exact ufn gp s a w w0 k v c _ HW0 H0 CD (Lib.hid fun W h => CK.out W h _ rfl) (Lib.hid fun W h => CC.out W h _ rfl) CH hg2 (bf k3) (bf k6) (bf k5) hc
    have hg := bf h1
    by_cases k3 : k = 3
    · subst k3
      rw [show u = ⟨r, false, true, false, h⟩ by rw [← hu]; clear hu; simp [*]]
      exact uo3 gp s a w w0 r v _ HW0 H0 CD (Lib.hid fun W h => CK.out W h _ rfl) CH hg r10' r13'
    by_cases k6 : k = 6
    · subst k6
      rw [show u = ⟨r, false, true, true, h⟩ by rw [← hu]; clear hu; simp [*]]
      exact uo6 gp s a w w0 r v _ HW0 H0 CD (Lib.hid fun W h => CK.out W h _ rfl) CH hg r10' r13'
    by_cases k5 : k = 5
    · subst k5
      by_cases hc : 0 < c
      · rw [show u = ⟨r, true, true, false, h⟩ by rw [← hu]; clear hu; simp [*]]
        exact uo5c gp s a w w0 r v c _ HW0 H0 CD (Lib.hid fun W h => CK.out W h _ rfl) (Lib.hid fun W h => CC.out W h _ rfl) CH hg r10' r13' hc
      · rw [show u = ⟨r, true, false, false, h⟩ by rw [← hu]; clear hu; simp [*]]
        exact uo5n gp s a w w0 r v c _ HW0 H0 CD (Lib.hid fun W h => CK.out W h _ rfl) (Lib.hid fun W h => CC.out W h _ rfl) CH hg r10' r13' hc
    by_cases hc : 0 < c
    · rw [show u = ⟨r, false, true, false, h⟩ by rw [← hu]; clear hu; simp [*]]
      exact uoc gp s a w w0 r k v c _ HW0 H0 CD (Lib.hid fun W h => CK.out W h _ rfl) (Lib.hid fun W h => CC.out W h _ rfl) CH hg r10' r13' (bf k3) (bf k6) (bf k5) hc
    · rw [show u = ⟨r, false, false, false, h⟩ by rw [← hu]; clear hu; simp [*]]
      exact uon gp s a w w0 r k v c _ HW0 H0 CD (Lib.hid fun W h => CK.out W h _ rfl) (Lib.hid fun W h => CC.out W h _ rfl) CH hg r10' r13' (bf k3) (bf k6) (bf k5) hc
end Go.Proofs.YthhepebkfokddaaGreatDoor
/- cells: whether a byte lies within a unit; whether an edge lies at a byte. -/
namespace Go.Proofs.YthhepebkfokddaaGreatDoor
open Go Go.RowKit Go.Kt

theorem withP_yes {s : ByteArray} {a : Int} (k : Nat) (h1 : 1 ≤ k) (h4 : k < 4) (h : (k : Int) < (decP s (a - k)).2) : withP s a = true := by
  unfold withP
  simp only [Bool.or_eq_true, decide_eq_true_eq]
  rcases (by omega : k = 1 ∨ k = 2 ∨ k = 3) with rfl | rfl | rfl
  · exact .inl (.inl (by simpa using h))
  · exact .inl (.inr (by simpa using h))
  · exact .inr (by simpa using h)
theorem withP_no {s : ByteArray} {a : Int} (h : ∀ k : Nat, 1 ≤ k → k < 4 → ¬ (k : Int) < (decP s (a - k)).2) : withP s a = false := by
  have h1 := h 1 (by omega) (by omega)
  have h2 := h 2 (by omega) (by omega)
  have h3 := h 3 (by omega) (by omega)
  unfold withP
  simp only [Bool.or_eq_false_iff, decide_eq_false_iff_not]
  exact ⟨⟨by simpa using h1, by simpa using h2⟩, by simpa using h3⟩
theorem cempty (s : ByteArray) (h : s.size = 0) : s = ⟨#[]⟩ := by
  cases s with
  | mk d => simp at h; exact h
theorem cfull (s : ByteArray) (h : s.size ≠ 0) : s.toList.isEmpty = false := by
  cases e : s.toList with
  | nil =>
    rw [ByteArray.toList_eq] at e
    have h3 : ([] : List UInt8).length = s.size := by rw [← e]; simp
    rw [List.length_nil] at h3
    omega
  | cons => rfl

set_option maxRecDepth 100000 in
set_option maxHeartbeats 1000000 in
theorem cwithin (s : ByteArray) (a : Int) (w : World) (hT : Lib.Utf8Tabs 3 4 w) (hs : s.size ≤ 4611686018427387904) (ha : 0 ≤ a ∧ a ≤ 4611686018427387904) :
    Calls Tryz.prog 25 #[.string s, .int .i64 a] w fun e w' => e = .returned (.bool (withP s a)) ∧ Below w.heap.size w w' := by
  have CD := Lib.hid (fun W (h : Below w.heap.size w W) b => utfDecode_any s b W (tabs_below hT (tabs_size hT) h) hs)
  obtain ⟨ha0, ha1⟩ := ha
  clear hT hs
  go_enter Tryz.func25, Tryz.ntmps25
  go_wp2
  go_loopw [5] (fun v wr => ∃ k : Nat, v = .int .i64 k ∧ 1 ≤ k ∧ k ≤ 4 ∧ Below w.heap.size w wr ∧ Hid (∀ j : Nat, 1 ≤ j → j < k → (decP s (a - j)).2 ≤ (j : Int))) (fun v _ => 4 - (RowKit.intOf v).toNat)
  case atStart => exact ⟨1, rfl, by omega, by omega, Below.refl _ _, Lib.hid fun j h1 h2 => by omega⟩
  case round =>
    obtain ⟨k, rfl, hk1, hk4, hb, HN⟩ := hrel
    have HB := Lib.hid hb
    by_cases hlt : k < 4
    · have e1 : (k : Int) < 4 := by omega
      have e2 : (1 : Int) ≤ k := by omega
      have e3 : wrap64 (a - k) = a - k := by unfold wrap64; omega
      have CD1 := Lib.hid (CD.out wr hb (a - k))
      have HY : Hid ((k : Int) < (decP s (a - k)).2 → withP s a = true) := Lib.hid (withP_yes k hk1 hlt)
      have HZ : Hid (¬ (k : Int) < (decP s (a - k)).2 → ∀ j : Nat, 1 ≤ j → j < k + 1 → (decP s (a - j)).2 ≤ (j : Int)) := Lib.hid fun h j h1 h2 => by
        rcases Nat.lt_or_ge j k with h3 | h3
        · exact HN.out j h1 h3
        · obtain rfl : j = k := by omega
          exact Int.not_lt.1 h
      obtain ⟨r, hr⟩ : ∃ r, (decP s (a - k)).1 = r := ⟨_, rfl⟩
      obtain ⟨v, hv⟩ : ∃ r, (decP s (a - k)).2 = r := ⟨_, rfl⟩
      rw [hv] at HY HZ
      rw [hr, hv] at CD1
      clear hr hv hb hlt
      by_cases hc : (k : Int) < v
      · have HW := Lib.hid (HY.out hc)
        clear HY HZ HN
        go_wp2_with fail
        refine CD1.out.mono ?_
        rintro e w1 ⟨rfl, hb1⟩
        have HB1 := Lib.hid (HB.out.trans (hb1.mono HB.out.size))
        clear hb1
        go_wp2
        go_ret
        exact ⟨by rw [HW.out]; rfl, HB1.out⟩
      · have HW := Lib.hid (HZ.out hc)
        clear HY HZ HN
        go_wp2_with fail
        refine CD1.out.mono ?_
        rintro e w1 ⟨rfl, hb1⟩
        have HB1 := Lib.hid (HB.out.trans (hb1.mono HB.out.size))
        clear hb1
        go_wp2
        go_roundw
        case rel => exact ⟨k + 1, by go_num, by omega, by omega, HB1.out, HW⟩
        case measure => simp [RowKit.intOf]; omega
    · obtain rfl : k = 4 := by omega
      have HW := Lib.hid (withP_no fun j h1 h2 => Int.not_lt.2 (HN.out j h1 h2))
      clear HN hb hlt
      go_wp2
      go_ret
      exact ⟨by rw [HW.out]; rfl, HB.out⟩

theorem bef_in (s : ByteArray) (a : Int) (h0 : 0 < a) (h1 : a ≤ s.size) : 0 ≤ (befP s a).2 ∧ (befP s a).2 ≤ 5 := by
  unfold befP
  rw [if_pos (by omega)]
  have : ∀ f k : Nat, k ≤ 5 → 0 ≤ (befK s a.toNat f k).2 ∧ (befK s a.toNat f k).2 ≤ 5 := by
    intro f
    induction f with
    | zero => intro k _; exact ⟨(by decide : (0 : Int) ≤ 1), (by decide : (1 : Int) ≤ 5)⟩
    | succ f ih =>
      intro k hk
      unfold befK
      split
      · split
        · exact ⟨by show (0 : Int) ≤ (k : Int); omega, by show (k : Int) ≤ 5; omega⟩
        · exact ih (k + 1) (by omega)
      · exact ⟨by decide, by decide⟩
  exact this 5 1 (by omega)

set_option maxRecDepth 100000 in
set_option maxHeartbeats 1000000 in
theorem cEdge {gp : Nat} {S : RdS} {md : MdT} (s : ByteArray) (a : Int) (w : World) (hP : PrW gp S md w) (hT : Lib.Utf8Tabs 3 4 w) (hs : s.size ≤ 4611686018427387904) :
    Calls Tryz.prog 7 #[.pointer (some ⟨gp, 0, none⟩), .string s, .int .i64 a] w fun e w' => e = .returned (.bool (edgP S s a)) ∧ Below w.heap.size w w' := by
  have HE : Hid (edgP S s a = if s.size = 0 ∨ a < 0 ∨ s.size < a then false else if a = 0 ∨ a = s.size then true else if withP s a then false else edgU (untP S s (a - (befP s a).2)) (untP S s a)) := Lib.hid rfl
  rw [HE.out]
  clear HE
  have CT := Lib.hid (fun W (h : Below w.heap.size w W) => tabs_below hT (tabs_size hT) h)
  by_cases hz : s.size = 0
  · rw [if_pos (.inl hz)]
    obtain rfl := cempty s hz
    clear hz hP hT hs
    go_enter Tryz.func7, Tryz.ntmps7
    go_wp2
    go_ret
    exact ⟨rfl, Below.refl _ _⟩
  have hne := cfull s hz
  by_cases h1 : a < 0
  · rw [if_pos (.inr (.inl h1))]
    clear hz hP hT hs
    go_enter Tryz.func7, Tryz.ntmps7
    go_wp2
    go_ret
    exact ⟨rfl, Below.refl _ _⟩
  have g1 : ¬ a < 0 := h1
  by_cases h2 : (s.size : Int) < a
  · rw [if_pos (.inr (.inr h2))]
    clear hz hP hT hs
    go_enter Tryz.func7, Tryz.ntmps7
    go_wp2
    go_ret
    exact ⟨rfl, Below.refl _ _⟩
  rw [if_neg (by omega)]
  by_cases h3 : a = 0
  · rw [if_pos (.inl h3)]
    subst h3
    clear hz hP hT hs
    go_enter Tryz.func7, Tryz.ntmps7
    go_wp2
    go_ret
    exact ⟨rfl, Below.refl _ _⟩
  have g3 : (a == 0) = false := by rw [beq_eq_false_iff_ne]; exact h3
  by_cases h4 : a = s.size
  · rw [if_pos (.inr h4)]
    have g4 : (a == (s.size : Int)) = true := by rw [beq_iff_eq]; exact h4
    clear hz hP hT hs h3 h4
    go_enter Tryz.func7, Tryz.ntmps7
    go_wp2
    go_ret
    exact ⟨rfl, Below.refl _ _⟩
  have g4 : (a == (s.size : Int)) = false := by rw [beq_eq_false_iff_ne]; exact h4
  rw [if_neg (by omega)]
  have CW := Lib.hid (cwithin s a w hT hs (by omega))
  have CB := Lib.hid (fun W (h : Below w.heap.size w W) => utfBefore_any s a W (CT.out W h) hs)
  have CN := Lib.hid (fun W (h : Below w.heap.size w W) b => cunit s b W (hP.below h) (CT.out W h) hs)
  have HH := Lib.hid (fun b => untP_han S s b)
  have CE := Lib.hid (fun (u v : CU) W hu hv => cedge u v W hu hv)
  have hbf := bef_in s a (by omega) (by omega)
  obtain ⟨hb0, hb5⟩ := hbf
  obtain ⟨r, hr⟩ : ∃ r, (befP s a).1 = r := ⟨_, rfl⟩
  obtain ⟨v, hv⟩ : ∃ r, (befP s a).2 = r := ⟨_, rfl⟩
  rw [hr, hv] at CB
  rw [hv] at hb0 hb5 ⊢
  have e3 : wrap64 (a - v) = a - v := by unfold wrap64; omega
  clear hr hv hP hT h1 h3 h4 hz
  cases hw : withP s a with
  | true =>
    rw [hw] at CW
    simp only [if_true]
    clear hw CB CN HH CE CT e3
    go_enter Tryz.func7, Tryz.ntmps7
    go_wp2_with fail
    refine CW.out.mono ?_
    rintro e w1 ⟨rfl, hb1⟩
    have HB1 := Lib.hid hb1
    clear hb1
    go_wp2
    go_ret
    exact ⟨rfl, HB1.out⟩
  | false =>
    rw [hw] at CW
    simp only [Bool.false_eq_true, if_false]
    clear hw CT
    go_enter Tryz.func7, Tryz.ntmps7
    go_wp2_with fail
    refine CW.out.mono ?_
    rintro e w1 ⟨rfl, hb1⟩
    have HB1 := Lib.hid hb1
    clear hb1
    go_wp2_with fail
    refine (CB.out w1 HB1.out).mono ?_
    rintro e w2 ⟨rfl, hb2⟩
    have HB2 := Lib.hid (HB1.out.trans (hb2.mono HB1.out.size))
    clear hb2
    go_wp2_with fail
    refine (CN.out w2 HB2.out (a - v)).mono ?_
    rintro e w3 ⟨rfl, hb3⟩
    have HB3 := Lib.hid (HB2.out.trans (hb3.mono HB2.out.size))
    clear hb3
    go_wp2_with fail
    refine (CN.out w3 HB3.out a).mono ?_
    rintro e w4 ⟨rfl, hb4⟩
    have HB4 := Lib.hid (HB3.out.trans (hb4.mono HB3.out.size))
    clear hb4
    go_wp2_with fail
    refine (CE.out _ _ w4 (HH.out _) (HH.out _)).mono ?_
    rintro e w5 ⟨rfl, hb5'⟩
    have HB5 := Lib.hid (HB4.out.trans (hb5'.mono HB4.out.size))
    clear hb5'
    go_wp2
    go_ret
    exact ⟨rfl, HB5.out⟩
end Go.Proofs.YthhepebkfokddaaGreatDoor
/- cells: the iterator of the cells of a text; how many there are. -/
namespace Go.Proofs.YthhepebkfokddaaGreatDoor
open Go Go.RowKit Go.Kt Go.Shelf
attribute [local go_sem] Oper.semAt_some

def encCP (p : Nat × Nat) : Array Value := #[.int .i64 p.1, .int .i64 p.2]
theorem PrW.heap {g : Nat} {S : RdS} {md : MdT} {w w' : World} (h : PrW g S md w) (hs : ∀ b, b < w.heap.size → w'.heap[b]? = w.heap[b]?) (hz : w.heap.size ≤ w'.heap.size) : PrW g S md w' := by
  have hb : Below w.heap.size w { w' with os := w.os, tape := w.tape, output := w.output } := ⟨rfl, rfl, rfl, hz, hs⟩
  obtain ⟨B, h⟩ := h.below hb
  obtain ⟨a1, a2, a3, a4, a5, a6, a7, a8⟩ := h
  exact ⟨B, ⟨a1, a2, a3, a4, a5, a6, a7, a8⟩⟩
theorem tabs_heap {w w' : World} (h : Lib.Utf8Tabs 3 4 w) (hs : ∀ b, b < w.heap.size → w'.heap[b]? = w.heap[b]?) : Lib.Utf8Tabs 3 4 w' :=
  ⟨fun c hc => (World.cell?_of_block (w := w) (a := ⟨3, c, none⟩) (hs _ (lt_of_cell (h.1 c hc)))).trans (h.1 c hc),
   fun i hi => ⟨(World.cell?_of_block (w := w) (a := ⟨4, _, none⟩) (hs _ (lt_of_cell (h.2 i hi).1))).trans (h.2 i hi).1, (World.cell?_of_block (w := w) (a := ⟨4, _, none⟩) (hs _ (lt_of_cell (h.2 i hi).2))).trans (h.2 i hi).2⟩⟩

theorem cAll_call (gp : Nat) (s : ByteArray) (w : World) :
    Calls Tryz.prog 11 #[.pointer (some ⟨gp, 0, none⟩), .string s] w fun e w' => e = .returned (.func (.func 30) #[] #[.pointer (some ⟨w.heap.size + 1, 0, none⟩), .pointer (some ⟨w.heap.size, 0, none⟩)]) ∧ (w.alloc (.cells #[.pointer (some ⟨gp, 0, none⟩)] 22)).alloc (.cells #[.string s] 9) = w' := by
  go_enter Tryz.func11, Tryz.ntmps11
  go_wp2
  go_ret
  exact ⟨by simp, rfl⟩
abbrev cuA (u : CU) : Array Value := #[.int .i32 u.num, .bool u.apart, .bool u.hangs, .bool u.holds, .int .i64 u.han]

theorem wpListIn_store_eq {P : Program} {F : Fence} {n : Nat} {ops : Array Oper} {rest : List Oper} {o : Oper} {a : Act} {Q : Exit → Act → World → Prop} {w w' : World} {p v : Value} (hgd : o.guard = none) {ty : TypeId} {x y : Operand}
    (ho : o.op = .store ty x y) (hd : o.dst = none) (hx : a.eval x = p) (hy : a.eval y = v) (hrun : (Instr.storeAt ty p v).run P w = .ok () w') (h : wpListIn F n P ops Q rest a w') : wpListIn F n P ops Q (o :: rest) a w := by
  refine wpListIn_plain hgd fun K hK => ?_
  unfold Oper.wpIn
  refine ⟨?_, ?_⟩
  · simp [Oper.about, ho]
  · rw [Oper.semAt_plain F _ _ (by rw [ho]; intro c hc'; cases hc')]
    rw [exec_store ho hx hy hrun]
    simp only [Oper.uponIn, hd]
    exact hK _ _ h
theorem cu_cellsA {V : World} {n : Nat} {u : CU} (h : V.heap[n]? = some (.cells (cuA u) 71 (0, 0))) :
    (V.cell? ⟨n, 0, none⟩ = some (.int .i32 u.num) ∧ V.cell? ⟨n, 1, none⟩ = some (.bool u.apart) ∧ V.cell? ⟨n, 2, none⟩ = some (.bool u.hangs) ∧ V.cell? ⟨n, 3, none⟩ = some (.bool u.holds) ∧ V.cell? ⟨n, 4, none⟩ = some (.int .i64 u.han)) ∧ ∀ i, V.frozen? ⟨n, i, none⟩ = false :=
  ⟨⟨by rw [Lib.cell_of_heap h]; rfl, by rw [Lib.cell_of_heap h]; rfl, by rw [Lib.cell_of_heap h]; rfl, by rw [Lib.cell_of_heap h]; rfl, by rw [Lib.cell_of_heap h]; rfl⟩, fun i => Lib.frozen_of_heap h _⟩
theorem cuSet_atA {V : World} {n : Nat} {u0 : CU} (u : CU) (h : V.heap[n]? = some (.cells (cuA u0) 71 (0, 0))) : (cuSet V n u).heap[n]? = some (.cells (cuA u) 71 (0, 0)) :=
  cu_setc (cu_setc (cu_setc (cu_setc (cu_setc h))))
theorem cuSet_keep {X : Nat → Prop} {V : World} {n : Nat} (hn : X n) (u : CU) : Keep X V (cuSet V n u) :=
  (((((Keep.refl X V).setCell (p := ⟨n, 0, none⟩) hn _).setCell (p := ⟨n, 1, none⟩) hn _).setCell (p := ⟨n, 2, none⟩) hn _).setCell (p := ⟨n, 3, none⟩) hn _).setCell (p := ⟨n, 4, none⟩) hn _
set_option maxRecDepth 100000 in
theorem cu_storeA (u u0 : CU) {V : World} {n : Nat} (h : V.heap[n]? = some (.cells (cuA u0) 71 (0, 0))) :
    (Instr.storeAt 71 (.pointer (some ⟨n, 0, none⟩)) (cuV u)).run Tryz.prog V = .ok () (cuSet V n u) := by
  have h1 := cu_setc (i := 0) (u := .int .i32 u.num) h
  have h2 := cu_setc (i := 1) (u := .bool u.apart) h1
  have h3 := cu_setc (i := 2) (u := .bool u.hangs) h2
  have h4 := cu_setc (i := 3) (u := .bool u.holds) h3
  have q0 : V.cell? ⟨n, 0, none⟩ = some (.int .i32 u0.num) := by rw [Lib.cell_of_heap h]; rfl
  have q1 : (V.setCell ⟨n, 0, none⟩ (.int .i32 u.num)).cell? ⟨n, 1, none⟩ = some (.bool u0.apart) := by rw [Lib.cell_of_heap h1]; rfl
  have q2 : ((V.setCell ⟨n, 0, none⟩ (.int .i32 u.num)).setCell ⟨n, 1, none⟩ (.bool u.apart)).cell? ⟨n, 2, none⟩ = some (.bool u0.hangs) := by rw [Lib.cell_of_heap h2]; rfl
  have q3 : (((V.setCell ⟨n, 0, none⟩ (.int .i32 u.num)).setCell ⟨n, 1, none⟩ (.bool u.apart)).setCell ⟨n, 2, none⟩ (.bool u.hangs)).cell? ⟨n, 3, none⟩ = some (.bool u0.holds) := by rw [Lib.cell_of_heap h3]; rfl
  have q4 : ((((V.setCell ⟨n, 0, none⟩ (.int .i32 u.num)).setCell ⟨n, 1, none⟩ (.bool u.apart)).setCell ⟨n, 2, none⟩ (.bool u.hangs)).setCell ⟨n, 3, none⟩ (.bool u.holds)).cell? ⟨n, 4, none⟩ = some (.int .i64 u0.han) := by rw [Lib.cell_of_heap h4]; rfl
  have f0 : V.frozen? ⟨n, 0, none⟩ = false := Lib.frozen_of_heap h _
  have f1 := Lib.frozen_of_heap h1 1
  have f2 := Lib.frozen_of_heap h2 2
  have f3 := Lib.frozen_of_heap h3 3
  have f4 := Lib.frozen_of_heap h4 4
  unfold cuSet cuV
  obtain ⟨a, b, c, d, e⟩ := u
  simp only at *
  clear h h1 h2 h3 h4
  go_simp

def ceI (S : RdS) (s : ByteArray) (n : Nat) (J : List (Nat × Nat) → (Nat → Prop) → World → Prop) (pre : List (Nat × Nat)) (Y : Nat → Prop) (V : World) : Prop :=
  J (celF S s pre).1 Y V ∧ V.heap[n + 1]? = some (.cells #[.int .i64 ((celF S s pre).2.1 : Nat)] 3 (0, 0)) ∧ V.heap[n + 2]? = some (.cells (cuA (celF S s pre).2.2) 71 (0, 0))
def ceX (S : RdS) (s : ByteArray) (Jx : List (Nat × Nat) → (Nat → Prop) → World → Prop) (c : Code) (pre : List (Nat × Nat)) (Y : Nat → Prop) (V : World) : Prop := c = .ret ∧ Jx (celF S s pre).1 Y V

set_option maxRecDepth 100000 in
set_option maxHeartbeats 2000000 in
theorem call_iter {gp : Nat} {S : RdS} {md : MdT} (s : ByteArray) (bp bs : Nat) (wp w0 : World) (hc : w0.cell? ⟨bs, 0, none⟩ = some (.string s)) (hq : w0.cell? ⟨bp, 0, none⟩ = some (.pointer (some ⟨gp, 0, none⟩))) (hP : PrW gp S md wp) (h9 : ∀ b, b < wp.heap.size → w0.heap[b]? = wp.heap[b]?) (hz9 : wp.heap.size ≤ w0.heap.size)
    (hT : Lib.Utf8Tabs 3 4 wp) (hs : s.size ≤ 4611686018427387904) :
    Iter2 Tryz.prog 30 #[.pointer (some ⟨bs, 0, none⟩), .pointer (some ⟨bp, 0, none⟩)] encCP (celL S s) (fun b => b < wp.heap.size ∨ b = bs ∨ b = bp) w0 := by
  intro l X J Jx W hNd hX hsame hsz hJ hJx hSl hY h0
  have hbs : bs < w0.heap.size := lt_of_cell hc
  have hbp : bp < w0.heap.size := lt_of_cell hq
  have SM : Hid (∀ V : World, Keep X W V → (∀ b, b < wp.heap.size → V.heap[b]? = wp.heap[b]?) ∧ wp.heap.size ≤ V.heap.size) := Lib.hid fun V hk =>
    ⟨fun b hb => ((hk.same b (by omega) (hNd b (.inl hb))).trans (hsame b (.inl hb))).trans (h9 b hb), Nat.le_trans (Nat.le_trans hz9 hsz) hk.size⟩
  have CN := Lib.hid (fun V (hk : Keep X W V) a => cunit s a V (hP.heap (SM.out V hk).1 (SM.out V hk).2) (tabs_heap hT (SM.out V hk).1) hs)
  have KS : Hid (∀ V : World, Keep X W V → V.cell? ⟨bs, 0, none⟩ = some (.string s) ∧ V.cell? ⟨bp, 0, none⟩ = some (.pointer (some ⟨gp, 0, none⟩))) := Lib.hid fun V hk =>
    ⟨(World.cell?_of_block (w := w0) (a := ⟨bs, 0, none⟩) ((hk.same bs (by omega) (hNd bs (.inr (.inl rfl)))).trans (hsame bs (.inr (.inl rfl))))).trans hc, (World.cell?_of_block (w := w0) (a := ⟨bp, 0, none⟩) ((hk.same bp (by omega) (hNd bp (.inr (.inr rfl)))).trans (hsame bp (.inr (.inr rfl))))).trans hq⟩
  have HK := Lib.hid (And.intro hX (And.intro hJ (And.intro hJx (And.intro hSl hY))))
  have CE := Lib.hid (fun (u v : CU) W hu hv => cedge u v W hu hv)
  have HH := Lib.hid (fun b => untP_han S s b)
  have HZ := Lib.hid (fun k => celF_han S s k)
  have HP := Lib.hid (fun k h hz => celL_pre S s k h hz)
  have HC0 := Lib.hid h0
  clear hNd hsame hc hq hP hT hJ hJx hSl hY h0 h9
  have hfn : ∀ k, Fence.wide.fn k := fun _ => trivial
  have hdep : Fence.wide.depth = none := rfl
  obtain ⟨n, hn⟩ : ∃ n, W.heap.size = n := ⟨_, rfl⟩
  refine (callsIn_wide (n := 0)).1 ?_
  refine callsIn_of_wp_marks Tryz.func30 rfl trivial ?_ rfl
  simp only [Tryz.ntmps30, List.size_toArray, List.length_cons, List.length_nil, Nat.reduceAdd, Nat.reduceSub, Array.replicate_succ, Array.replicate_zero, List.push_toArray, List.append_toArray, List.nil_append, List.cons_append]
  obtain ⟨V1, hV1⟩ : ∃ V1, ((W.alloc (.cells #[.func (.yield l) #[] #[]] 77)).alloc (.cells #[.int .i64 0] 3)).alloc cuZ = V1 := ⟨_, rfl⟩
  have hzV : V1.heap.size = n + 3 := by rw [← hV1]; simp [hn]
  have b0 : V1.heap[n]? = some (.cells #[.func (.yield l) #[] #[]] 77 (0, 0)) := by rw [← hV1]; exact alloc_old (alloc_old (alloc_at hn.symm))
  have b1 : V1.heap[n + 1]? = some (.cells #[.int .i64 0] 3 (0, 0)) := by rw [← hV1]; exact alloc_old (alloc_at (by simp [hn]))
  have b2 : V1.heap[n + 2]? = some (.cells (cuA ⟨0, false, false, false, 0⟩) 71 (0, 0)) := by rw [← hV1]; exact alloc_at (by simp [hn])
  have hkN : Keep (fun _ => False) W V1 := by rw [← hV1]; exact (((Keep.refl _ W).alloc _).alloc _).alloc _
  have hkV : Keep X W V1 := hkN.weaken fun _ _ h => h.elim
  have c0 : (((W.alloc (.cells #[.func (.yield l) #[] #[]] 77)).alloc (.cells #[.int .i64 0] 3)).alloc cuZ).cell? ⟨bs, 0, none⟩ = some (.string s) := by rw [hV1]; exact (KS.out V1 hkV).1
  have HV1 := Lib.hid hV1
  clear hV1
  gi_wp2_with fail
  rw [HV1.out]
  refine (callsIn_wide.2 (utfAll_call s _)).mono ?_
  rintro e w6 ⟨rfl, hw6⟩
  gi_wp2_with fail
  have hk6 : Keep (fun _ => False) V1 w6 := by rw [← hw6]; exact (Keep.refl _ _).alloc _
  have hz6 : w6.heap.size = n + 4 := by rw [← hw6]; simp [hzV]
  have b6 : w6.heap[n + 3]? = some (.cells #[.string s] 9 (0, 0)) := by rw [← hw6]; exact alloc_at hzV.symm
  have v0 := hk6.heap b0 (fun h => h)
  have v1 := hk6.heap b1 (fun h => h)
  have v2 := hk6.heap b2 (fun h => h)
  have hkW : Keep X W w6 := hkV.trans (hk6.weaken fun _ _ h => h.elim)
  have hJ6 : J [] (fun _ => False) w6 := HK.out.2.1 _ _ _ _ ((hkN.trans hk6).weaken fun _ _ h => h.elim) HC0.out
  have hXn : ∀ b, n ≤ b → ¬ X b := fun b hb h => by have := HK.out.1 b h; omega
  clear hw6 hk6 hkV hkN b0 b1 b2 c0 HC0
  refine loop_out (gf := 66) (lb := #[.pointer (some ⟨n + 3, 0, none⟩)]) (encs := enc2) rfl (enters_of Tryz.func66 (by kernel_rfl) rfl)
    (all_iter s (n + 3) w6 (cell_one b6) hs) (fun _ => rfl) (X := fun b => X b ∨ b = n + 1 ∨ b = n + 2)
    (fun b hb => by rcases hb with h | h | h; have := HK.out.1 b h; omega; omega; omega) (fun b hb => by subst hb; exact ⟨by rintro (h | h | h); exact hXn _ (by omega) h; omega; omega, by omega⟩) (fun _ _ => rfl) (Nat.le_refl _)
    (ceI S s n J) (ceX S s Jx)
    (fun pre Y V V' hk h => ⟨HK.out.2.1 _ _ _ _ (hk.weaken fun b _ h => ⟨by omega, h.2⟩) h.1, hk.heap h.2.1 (fun hx => by have := hx.1; omega), hk.heap h.2.2 (fun hx => by have := hx.1; omega)⟩)
    (fun c pre Y V V' hk h => ⟨h.1, HK.out.2.2.1 _ _ _ _ (hk.weaken fun b _ h => ⟨by omega, h.2⟩) h.2⟩) ⟨hJ6, v1, v2⟩ ?round ?done ?stop
  case round =>
    rintro l' hl' pre ⟨at', r⟩ Y V hpre hi hk hY hlt hr
    gi_wp2
    refine ⟨Keep.refl _ _, ?_⟩
    rintro V2 _ hk2 ⟨hJ2, hp1, hp2⟩ hr2
    have hkX : Keep X W V2 := Keep.plus hkW hk2 (fun b hb h => by rcases h with h | h | h; exact h; omega; omega)
    have hn2 : n + 4 ≤ V2.heap.size := by have := hk2.size; omega
    have hv0 := hk2.heap v0 (by rintro (h | h | h); exact hXn _ (by omega) h; omega; omega)
    have hmem : (at', r) ∈ units s := by obtain ⟨q, hq⟩ := hpre; rw [← hq]; simp
    have hat := (units_dec s s.size 0 (at', r) hmem).2
    simp only at hat
    have hpx := HP.out _ hpre (by omega)
    have hst : celF S s (pre ++ [(at', r)]) = celStep S s (celF S s pre) (at', r) := celF_snoc S s pre (at', r)
    have hh := HZ.out pre
    obtain ⟨Z, hZ⟩ : ∃ Z, Z = fun b => Y b ∧ b < V2.heap.size := ⟨_, rfl⟩
    have hZ1 : ∀ b, Z b → n + 4 ≤ b ∧ b < V2.heap.size ∧ Y b := fun b hb => by rw [hZ] at hb; have := (hY b hb.1).1; exact ⟨by omega, hb.2, hb.1⟩
    have hJZ : J (celF S s pre).1 Z V2 := by rw [hZ]; exact HK.out.2.2.2.1 _ _ _ hJ2
    obtain ⟨⟨out, fr, ah⟩, hF⟩ : ∃ z, celF S s pre = z := ⟨_, rfl⟩
    rw [hst, hF] at hpx
    rw [hF] at hJZ hp1 hp2 hst hh
    simp only at hJZ hp1 hp2 hh
    obtain ⟨uh, hu⟩ : ∃ u, untP S s at' = u := ⟨_, rfl⟩
    have hhu := HH.out (at' : Int)
    have CU1 := CN.out V2 hkX (at' : Int)
    unfold celStep at hst hpx
    simp only at hst hpx
    rw [hu] at hhu CU1 hst hpx
    have HCU1 := Lib.hid CU1
    obtain ⟨q1, q2⟩ := KS.out V2 hkX
    have HS := Lib.hid hst
    have HPX := Lib.hid hpx
    have HY := Lib.hid hY
    have HI := Lib.hid (And.intro hkX (And.intro hn2 (And.intro hv0 (And.intro hp1 (And.intro hp2 (And.intro hJZ hZ1))))))
    clear hst hpx hY hkX hn2 hv0 hp1 hp2 hJZ hZ1 hZ hF hJ2 hk2 hr2 hr hi hk hmem hpre CU1 hu v0 v1 v2 b6 hJ6 hkW
    gi_wp2_with fail
    refine (CallsIn.inRound l' (callsIn_wide.2 HCU1.out)).mono ?_
    rintro e V3 ⟨rfl, hb3⟩
    obtain ⟨kX, n2, i0, i1, i2, jZ, z1⟩ := HI.out
    obtain ⟨m, hm⟩ : ∃ m, V3.heap.size = m := ⟨_, rfl⟩
    have hz3 := hb3.size
    obtain ⟨V5, hV5⟩ : ∃ V, cuSet (V3.alloc cuZ) m uh = V := ⟨_, rfl⟩
    have ha4 : (V3.alloc cuZ).heap[m]? = some (.cells (cuA ⟨0, false, false, false, 0⟩) 71 (0, 0)) := alloc_at hm.symm
    have hb5 : Below m V3 V5 := by rw [← hV5]; exact ((Below.refl m V3).alloc (by omega) _).trans (cuSet_below (Nat.le_refl _) _)
    have hb25 : Below V2.heap.size V2 V5 := hb3.trans (hb5.mono (by omega))
    have a5 : V5.heap[m]? = some (.cells (cuA uh) 71 (0, 0)) := by rw [← hV5]; exact cuSet_atA uh ha4
    have ST : Hid ((Instr.storeAt 71 (.pointer (some ⟨V3.heap.size, 0, none⟩)) (cuV uh)).run Tryz.prog (V3.alloc cuZ) = .ok () V5) := Lib.hid (by rw [hm, ← hV5]; exact cu_storeA uh _ ha4)
    have e0 := (hb25.block n (by omega)).trans i0
    have e1 := (hb25.block (n + 1) (by omega)).trans i1
    have e2 := (hb25.block (n + 2) (by omega)).trans i2
    have k5 : Keep X W V5 := kX.trans (.of_all hb25)
    have j5 : J out Z V5 := HK.out.2.1 _ _ _ _ (.of_all hb25) jZ
    obtain ⟨⟨x0, x1, x2, x3, x4⟩, _⟩ := cu_cellsA e2
    obtain ⟨⟨y0, y1, y2, y3, y4⟩, _⟩ := cu_cellsA a5
    have CE1 := Lib.hid (CE.out ah uh V5 hh hhu)
    have H5 := Lib.hid (And.intro hb25 (And.intro e0 (And.intro e1 (And.intro e2 (And.intro k5 (And.intro j5 (And.intro a5 (And.intro n2 z1))))))))
    have hz5 : V2.heap.size ≤ m ∧ m < V5.heap.size := ⟨by omega, (Array.getElem?_eq_some_iff.1 a5).1⟩
    have HZ5 := Lib.hid hz5
    have FB : Hid (∀ V, Below V5.heap.size V5 V → celF S s (pre ++ [(at', r)]) = (out, fr, uh) → Kt.Left (fun b => X b ∨ b = n + 1 ∨ b = n + 2) Y (ceI S s n J) (pre ++ [(at', r)]) V2 (cuSet V (n + 2) uh)) := Lib.hid fun V hb hF => by
      have hs5 := hb25.size
      have hs6 := hb.size
      refine ⟨Z, (Keep.of_all (hb25.trans (hb.mono hs5))).trans (cuSet_keep (n := n + 2) (.inl (.inr (.inr rfl))) uh), fun b hb => .inl (z1 b hb).2.2, ?_⟩
      unfold ceI
      rw [hF]
      exact ⟨HK.out.2.1 _ _ _ _ (cuSet_keep (n := n + 2) ⟨by omega, fun h => by have := (z1 _ h).1; omega⟩ uh) (HK.out.2.1 _ _ _ _ (.of_all hb) j5), (cuSet_keep (X := fun b => b = n + 2) (n := n + 2) rfl uh).heap ((hb.block _ (by omega)).trans e1) (by omega), cuSet_atA uh ((hb.block _ (by omega)).trans e2)⟩
    have FA : Hid (∀ V6 V7 (Y' : Nat → Prop), Below V5.heap.size V5 V6 → celF S s (pre ++ [(at', r)]) = (out ++ [(fr, at')], at', uh) → Keep (fun b => X b ∨ Z b) V6 V7 → (∀ b, Y' b → Z b ∨ V6.heap.size ≤ b) →
        (J (out ++ [(fr, at')]) Y' V7 → Kt.Left (fun b => X b ∨ b = n + 1 ∨ b = n + 2) Y (ceI S s n J) (pre ++ [(at', r)]) V2 (cuSet (V7.setCell ⟨n + 1, 0, none⟩ (.int .i64 at')) (n + 2) uh)) ∧
        (Jx (out ++ [(fr, at')]) Y' V7 → Kt.Left (fun b => X b ∨ b = n + 1 ∨ b = n + 2) Y (ceX S s Jx .ret) (pre ++ [(at', r)]) V2 V7) ∧
        (V7.heap[n + 1]? = some (.cells #[.int .i64 fr] 3 (0, 0)) ∧ V7.heap[n + 2]? = some (.cells (cuA ah) 71 (0, 0)) ∧ V7.heap[m]? = some (.cells (cuA uh) 71 (0, 0)))) := Lib.hid fun V6 V7 Y' hb hF hk7 hY' => by
      have hs5 := hb25.size
      have hs6 := hb.size
      have hm5 : m < V5.heap.size := (Array.getElem?_eq_some_iff.1 a5).1
      have hno : ∀ b, n ≤ b → (b < n + 4 ∨ V2.heap.size ≤ b) → ¬ (X b ∨ Z b) := fun b h1 h2 h3 => by
        rcases h3 with h3 | h3
        · exact hXn b h1 h3
        · have := z1 b h3; omega
      have g1 := hk7.heap ((hb.block _ (by omega)).trans e1) (hno (n + 1) (by omega) (by omega))
      have g2 := hk7.heap ((hb.block _ (by omega)).trans e2) (hno (n + 2) (by omega) (by omega))
      have g3 := hk7.heap ((hb.block _ hm5).trans a5) (hno m (by omega) (by omega))
      have hK : Keep (fun b => (X b ∨ b = n + 1 ∨ b = n + 2) ∨ Y b) V2 V7 := (Keep.of_all (hb25.trans (hb.mono hs5))).trans (hk7.weaken fun b _ h => by rcases h with h | h; exact .inl (.inl h); exact .inr (z1 b h).2.2)
      have hS : ∀ b, Y' b → Y b ∨ V2.heap.size ≤ b := fun b h => by rcases hY' b h with h | h; exact .inl (z1 b h).2.2; exact .inr (by omega)
      have hn1 : ∀ b, b < n + 4 → ¬ Y' b := fun b hb h => by rcases hY' b h with h | h; have := (z1 b h).1; omega; omega
      refine ⟨fun hJ7 => ⟨Y', (hK.setCell (p := ⟨n + 1, 0, none⟩) (.inl (.inr (.inl rfl))) _).trans (cuSet_keep (n := n + 2) (.inl (.inr (.inr rfl))) uh), hS, ?_⟩, fun hJ7 => ⟨Y', hK, hS, rfl, by rw [hF]; exact hJ7⟩, g1, g2, g3⟩
      unfold ceI
      rw [hF]
      exact ⟨HK.out.2.1 _ _ _ _ (((Keep.refl _ V7).setCell (p := ⟨n + 1, 0, none⟩) ⟨by show W.heap.size ≤ n + 1; omega, hn1 (n + 1) (by omega)⟩ _).trans (cuSet_keep (n := n + 2) ⟨by omega, hn1 _ (by omega)⟩ uh)) hJ7,
        (cuSet_keep (X := fun b => b = n + 2) (n := n + 2) rfl uh).heap (set_at g1) (by omega), cuSet_atA uh (set_old g2 (by omega))⟩
    clear kX n2 i0 i1 i2 jZ z1 hz3 hV5 ha4 hb5 hb25 e0 e1 e2 k5 j5 a5 hz5 hb3 hh hhu
    rw [hm] at ST
    by_cases h0 : 0 < at'
    · have h0' : (0 : Int) < at' := by omega
      gi_wp2_with (first | (rw [hm]; fail) | (refine wpListIn_store_eq (o := ⟨none, _, _, _, _, _⟩) rfl rfl rfl rfl rfl ST.out ?_; clear ST))
      refine (CallsIn.inRound l' (callsIn_wide.2 CE1.out)).mono ?_
      rintro e V6 ⟨rfl, hb6⟩
      obtain ⟨_, f0, f1, f2, k5, j5, am, n2, z1⟩ := H5.out
      obtain ⟨hm2, hm5⟩ := HZ5.out
      clear x0 x1 x2 x3 x4 y0 y1 y2 y3 y4
      have hF := HS.out
      have hpx := HPX.out
      cases hE : edgU ah uh with
      | true =>
        rw [if_pos ⟨h0, hE⟩] at hF hpx
        have hs5 := hb6.size
        have g0 := cell_one ((hb6.block n (by omega)).trans f0)
        have g1 := cell_one ((hb6.block (n + 1) (by omega)).trans f1)
        have k6 : Keep X W V6 := k5.trans (.of_all hb6)
        have hk6s := k6.size
        have hyy : YieldAt Fence.wide 0 Tryz.prog l #[.int .i64 fr, .int .i64 at'] V6 _ := HK.out.2.2.2.2 out (fr, at') Z V6 hpx (HK.out.2.1 _ _ _ _ (.of_all hb6) j5) (by omega) (fun b hb => by have := (z1 b hb).1; omega)
        obtain ⟨fn, tmps, assign, body, hy, hR⟩ := hyy
        have HR := Lib.hid hR
        have HFA := Lib.hid (fun V7 Y' => FA.out V6 V7 Y' hb6 hF)
        clear f0 f1 f2 k5 j5 am z1 hF hpx k6 hb6 hE hR
        gi_wp2_with fail
        refine RoundIn.mono (F := Fence.wide.inRound l') HR.out ?_
        rintro e V7 ⟨Y', hk7, hY', hor⟩
        obtain ⟨q1, q2, p1, p2, p3⟩ := HFA.out V7 Y' hk7 hY'
        have HQ1 := Lib.hid q1
        have HQ2 := Lib.hid q2
        clear q1 q2 hk7 hY' g0 g1
        rcases hor with ⟨rfl, hJ7⟩ | ⟨rfl, hJx7⟩
        · have HQ := Lib.hid (HQ1.out hJ7)
          obtain ⟨V8, hV8⟩ : ∃ V, V7.setCell ⟨n + 1, 0, none⟩ (.int .i64 at') = V := ⟨_, rfl⟩
          have r2 : V8.heap[n + 2]? = some (.cells (cuA ah) 71 (0, 0)) := by rw [← hV8]; exact set_old p2 (by omega)
          have r3 : V8.heap[m]? = some (.cells (cuA uh) 71 (0, 0)) := by rw [← hV8]; exact set_old p3 (by omega)
          have ST2 : Hid ((Instr.storeAt 71 (.pointer (some ⟨n + 2, 0, none⟩)) (cuV uh)).run Tryz.prog (V7.setCell ⟨n + 1, 0, none⟩ (.int .i64 at')) = .ok () (cuSet V8 (n + 2) uh)) := Lib.hid (by rw [hV8]; exact cu_storeA uh _ r2)
          obtain ⟨⟨y0, y1, y2, y3, y4⟩, _⟩ := cu_cellsA r3
          rw [← hV8] at y0 y1 y2 y3 y4
          have HV8 := Lib.hid hV8
          have x1 := cell_one p1
          have x2 := frozen_one p1
          clear r2 r3 p1 p2 p3 hV8 hJ7 HQ1 HQ2
          gi_wp2_with (refine wpListIn_store_eq (o := ⟨none, _, _, _, _, _⟩) rfl rfl rfl rfl rfl ST2.out ?_; clear ST2)
          rw [← HV8.out]
          exact HQ.out
        · have HQ := Lib.hid (HQ2.out hJx7)
          clear hJx7 HQ1 HQ2 p1 p2 p3
          gi_wp2_with fail
          exact HQ.out
      | false =>
        rw [if_neg (fun h => by rw [hE] at h; cases h.2)] at hF
        have HQ := Lib.hid (FB.out V6 hb6 hF)
        have r2 := (hb6.block _ (by omega)).trans f2
        have ST2 := Lib.hid (cu_storeA uh ah (V := V6) (n := n + 2) r2)
        obtain ⟨⟨y0, y1, y2, y3, y4⟩, _⟩ := cu_cellsA ((hb6.block _ hm5).trans am)
        clear f0 f1 f2 k5 j5 am z1 hF hpx hb6 hE r2
        gi_wp2_with (refine wpListIn_store_eq (o := ⟨none, _, _, _, _, _⟩) rfl rfl rfl rfl rfl ST2.out ?_; clear ST2)
        exact HQ.out
    · have h0' : ¬ (0 : Int) < at' := by omega
      obtain ⟨_, f0, f1, f2, k5, j5, am, n2, z1⟩ := H5.out
      obtain ⟨hm2, hm5⟩ := HZ5.out
      have hF := HS.out
      rw [if_neg (fun h => h0 h.1)] at hF
      have HQ := Lib.hid (FB.out V5 (Below.refl _ _) hF)
      have ST2 := Lib.hid (cu_storeA uh ah (V := V5) (n := n + 2) f2)
      clear f0 f1 f2 k5 j5 am z1 hF x0 x1 x2 x3 x4
      gi_wp2_with (first | (refine wpListIn_store_eq (o := ⟨none, _, _, _, _, _⟩) rfl rfl rfl rfl rfl ST.out ?_; clear ST) | (refine wpListIn_store_eq (o := ⟨none, _, _, _, _, _⟩) rfl rfl rfl rfl rfl ST2.out ?_; clear ST2))
      exact HQ.out
  case done =>
    rintro D Y V hD hDd hI hY hk
    have hkX : Keep X W V := Keep.plus hkW hk (fun b hb h => by rcases h with h | h | h; exact h; omega; omega)
    have hv0 := hk.heap v0 (by rintro (h | h | h); exact hXn _ (by omega) h; omega; omega)
    obtain ⟨hJ, hp1, hp2⟩ := hI
    obtain ⟨q1, q2⟩ := KS.out V hkX
    have hsz := hk.size
    by_cases hz : s.size = 0
    · obtain rfl := cempty s hz
      have HF := Lib.hid (And.intro hJ (And.intro hkX hY))
      have HDD := Lib.hid hDd
      clear hkX hv0 hJ hp1 hp2 hk hY hDd v0 v1 v2 b6 hJ6 hkW
      gi_wp2_with fail
      refine leaves_marks (Ds := [D]) (by simp) (fun D' h => by simp at h; subst h; exact HDD.out) (fun V' hk' => ⟨_, results_none rfl _ _ _, ?_⟩)
      obtain ⟨hJ, hkX, hY⟩ := HF.out
      have hk' : Keep (fun b => b = D) V V' := hk'.weaken fun b _ hb => by simpa using hb
      exact ⟨⟨_, rfl⟩, hkX.plus hk' (fun b hb h => by have h : b = D := h; omega), .inl ⟨Y, fun b hb => by have := (hY b hb).1; omega, HK.out.2.1 _ _ _ _ (hk'.weaken fun b _ h => by have h : b = D := h; subst h; exact ⟨by omega, fun hy => (hY _ hy).2 rfl⟩) hJ⟩⟩
    · have hne := cfull s hz
      have hpx : (celF S s (units s)).1 ++ [((celF S s (units s)).2.1, s.size)] <+: celL S s := by unfold celL; rw [if_neg hz]; exact List.prefix_refl _
      have hcl : celL S s = (celF S s (units s)).1 ++ [((celF S s (units s)).2.1, s.size)] := by unfold celL; rw [if_neg hz]
      obtain ⟨⟨out, fr, ah⟩, hF⟩ : ∃ z, celF S s (units s) = z := ⟨_, rfl⟩
      rw [hF] at hpx hcl hJ hp1
      simp only at hpx hcl hJ hp1
      have g0 := cell_one hv0
      have g1 := cell_one hp1
      have hyy : YieldAt Fence.wide 0 Tryz.prog l #[.int .i64 fr, .int .i64 s.size] V _ := HK.out.2.2.2.2 out (fr, s.size) Y V hpx hJ (by omega) (fun b hb => by have := (hY b hb).1; omega)
      obtain ⟨fn, tmps, assign, body, hy, hR⟩ := hyy
      have HR := Lib.hid hR
      have HF := Lib.hid (And.intro hkX (And.intro hY (And.intro hcl hpx)))
      have HDD := Lib.hid hDd
      have hDX : ∀ b, b = D → ¬ (X b ∨ Y b) := fun b h hx => by
        subst h
        rcases hx with hx | hx
        · exact hXn b (by omega) hx
        · exact (hY b hx).2 rfl
      have HDX := Lib.hid hDX
      clear hkX hv0 hJ hp1 hp2 hk hY hDd v0 v1 v2 b6 hJ6 hkW hpx hcl hF hR hDX
      gi_wp2_with fail
      refine RoundIn.mono HR.out ?_
      rintro e V7 ⟨Y', hk7, hY', hor⟩
      have HH7 := Lib.hid (And.intro hk7 (And.intro hY' hor))
      obtain ⟨v7, hv7⟩ : ∃ v, e = .returned v := by
        rcases hor with ⟨h, _⟩ | ⟨h, _⟩
        · exact ⟨_, h⟩
        · exact ⟨_, h⟩
      subst hv7
      clear hk7 hY' hor g0 g1
      gi_wp2_with fail
      refine leaves_marks (Ds := [D]) (by simp) (fun D' h => by simp at h; subst h; exact HH7.out.1.heap HDD.out (HDX.out _ rfl)) (fun V' hk' => ⟨_, results_none rfl _ _ _, ?_⟩)
      obtain ⟨hkX, hY, hcl, hpx⟩ := HF.out
      obtain ⟨hk7, hY', hor⟩ := HH7.out
      have hk' : Keep (fun b => b = D) V7 V' := hk'.weaken fun b _ hb => by simpa using hb
      have hs7 := hk7.size
      have hDV : D < V.heap.size := (Array.getElem?_eq_some_iff.1 HDD.out).1
      have hYl : ∀ b, Y' b → W.heap.size ≤ b := fun b hb => by rcases hY' b hb with h | h; have := (hY b h).1; omega; omega
      have hYD : ∀ b, b = D → ¬ Y' b := fun b h hb => by subst h; rcases hY' b hb with h | h; exact (hY _ h).2 rfl; omega
      have hkW7 : Keep X W V7 := hkX.plus hk7 (fun b hb h => by rcases h with h | h; exact h; have := (hY b h).1; omega)
      refine ⟨⟨_, rfl⟩, hkW7.plus hk' (fun b hb h => by have h : b = D := h; omega), ?_⟩
      rcases hor with ⟨_, hJ7⟩ | ⟨_, hJ7⟩
      · refine .inl ⟨Y', hYl, ?_⟩
        rw [hcl]
        exact HK.out.2.1 _ _ _ _ (hk'.weaken fun b _ h => ⟨by have h : b = D := h; omega, hYD b h⟩) hJ7
      · exact .inr ⟨_, Y', hpx, hYl, HK.out.2.2.1 _ _ _ _ (hk'.weaken fun b _ h => ⟨by have h : b = D := h; omega, hYD b h⟩) hJ7⟩
  case stop =>
    rintro D c pre Y V hD hDd hpre ⟨rfl, hJ⟩ hY hk
    have hkX : Keep X W V := Keep.plus hkW hk (fun b hb h => by rcases h with h | h | h; exact h; omega; omega)
    have hsz := hk.size
    have hs0 : (celF S s pre).1 <+: celL S s := by
      by_cases hz : s.size = 0
      · have : pre = [] := by
          obtain ⟨q, hq⟩ := hpre
          have hu := units_len s
          rw [← hq] at hu
          simp at hu
          exact List.length_eq_zero_iff.1 (by omega)
        subst this
        exact List.nil_prefix
      · exact HP.out pre hpre hz
    have HF := Lib.hid (And.intro hJ (And.intro hkX (And.intro hY hs0)))
    have HDD := Lib.hid hDd
    clear hkX hJ hk hY hDd v0 v1 v2 b6 hJ6 hkW hs0 hpre
    gi_wp2_with fail
    refine leaves_marks (Ds := [D]) (by simp) (fun D' h => by simp at h; subst h; exact HDD.out) (fun V' hk' => ⟨_, results_none rfl _ _ _, ?_⟩)
    obtain ⟨hJ, hkX, hY, hs0⟩ := HF.out
    have hk' : Keep (fun b => b = D) V V' := hk'.weaken fun b _ hb => by simpa using hb
    exact ⟨⟨_, rfl⟩, hkX.plus hk' (fun b hb h => by have h : b = D := h; omega), .inr ⟨_, Y, hs0, fun b hb => by have := (hY b hb).1; omega, HK.out.2.2.1 _ _ _ _ (hk'.weaken fun b _ h => by have h : b = D := h; subst h; exact ⟨by omega, fun hy => (hY _ hy).2 rfl⟩) hJ⟩⟩
end Go.Proofs.YthhepebkfokddaaGreatDoor
/- CellsPlain's helpers: all that an iterator tells, gathered; two lists held side by side. -/
namespace Go.Proofs.YthhepebkfokddaaGreatDoor
open Go Go.RowKit Go.Kt
attribute [local go_sem] Oper.semAt_some

theorem tinfo2 : (Tryz.prog.info? 40).map (fun i => (i.zero, i.size, i.bytes)) = some (some (.agg #[.int .i64 0, .int .i64 0]), 2, 16) := by kernel_rfl
def encL2 (l : List (Nat × Nat)) : List Value := l.flatMap fun x => [.int .i64 x.1, .int .i64 x.2]
theorem encL2_snoc (l : List (Nat × Nat)) (x : Nat × Nat) : encL2 (l ++ [x]) = encL2 l ++ [.int .i64 x.1, .int .i64 x.2] := by simp [encL2]
theorem encL2_at : ∀ (l : List (Nat × Nat)) (i : Nat) (x : Nat × Nat), l[i]? = some x → (encL2 l)[i * 2]? = some (.int .i64 x.1) ∧ (encL2 l)[i * 2 + 1]? = some (.int .i64 x.2)
  | [], _, _, h => by simp at h
  | y :: t, 0, x, h => by
    simp at h
    subst h
    exact ⟨rfl, rfl⟩
  | y :: t, i + 1, x, h => by
    have ih := encL2_at t i x (by simpa using h)
    have e : encL2 (y :: t) = .int .i64 y.1 :: .int .i64 y.2 :: encL2 t := rfl
    rw [e, show (i + 1) * 2 = i * 2 + 1 + 1 by omega]
    exact ⟨by rw [List.getElem?_cons_succ, List.getElem?_cons_succ]; exact ih.1, by rw [List.getElem?_cons_succ, List.getElem?_cons_succ]; exact ih.2⟩
def PrR (W : World) (v : Value) (L : List (Nat × Nat)) : Prop := ∃ ao cp, v = .slice ao L.length cp ∧ (L = [] ∨ ∃ g, ao = some ⟨g, 0, none⟩ ∧ ∀ (i : Nat) (x : Nat × Nat), L[i]? = some x → W.cell? ⟨g, i * 2, none⟩ = some (.int .i64 x.1) ∧ W.cell? ⟨g, i * 2 + 1, none⟩ = some (.int .i64 x.2))
theorem PrR.below {W W' : World} {v : Value} {L : List (Nat × Nat)} (h : PrR W v L) (hb : Below W.heap.size W W') : PrR W' v L := by
  obtain ⟨ao, cp, rfl, h⟩ := h
  refine ⟨ao, cp, rfl, ?_⟩
  rcases h with h | ⟨g, e, h⟩
  · exact .inl h
  · exact .inr ⟨g, e, fun i x hx => ⟨(hb.cell (lt_of_cell (h i x hx).1)).trans (h i x hx).1, (hb.cell (lt_of_cell (h i x hx).2)).trans (h i x hx).2⟩⟩
theorem prr_own {Y : Nat → Prop} {v : Value} {n : Nat} {L : List (Nat × Nat)} {W : World} (h : OwnS Y 40 2 v n (encL2 L) W) (hn : n = L.length) : PrR W v L := by
  subst hn
  rcases h.1.2 with ⟨h1, h2⟩ | ⟨g, cap, cur, rfl, _, hg, _⟩
  · have : L = [] := List.length_eq_zero_iff.1 h2
    subst this
    exact ⟨none, 0, h1, .inl rfl⟩
  · refine ⟨_, _, rfl, .inr ⟨g, rfl, fun i x hx => ?_⟩⟩
    have c := h.1.cells (g := g) rfl
    have e := encL2_at L i x hx
    have c1 := c _ _ e.1
    have c2 := c _ _ e.2
    rw [Addr.add_lit, Nat.zero_add] at c1 c2
    exact ⟨c1, c2⟩

set_option maxRecDepth 100000 in
set_option maxHeartbeats 2000000 in
theorem cgathered (L : List (Nat × Nat)) (gf : Nat) (lb : Array Value) (Nd : Nat → Prop) (w w0 : World) (eg : ∀ args w, (callFunc gf args).run Tryz.prog w = .ok (.enter gf args) w)
    (hit : Iter2 Tryz.prog gf lb encCP L Nd w0) (hNd : ∀ b, Nd b → b < w.heap.size) (hNdw : ∀ b, Nd b → w.heap[b]? = w0.heap[b]?) (hw0 : w0.heap.size ≤ w.heap.size) (hL : L.length ≤ 1112192) :
    Calls Tryz.prog 10 #[.func (.func gf) #[] lb] w fun e w' => ∃ v, e = .returned v ∧ PrR w' v L ∧ Below w.heap.size w w' := by
  obtain ⟨n, hn⟩ : ∃ n, w.heap.size = n := ⟨_, rfl⟩
  have hfn : ∀ k, Fence.wide.fn k := fun _ => trivial
  have hdep : Fence.wide.depth = none := rfl
  refine (callsIn_wide (n := 0)).1 ?_
  refine callsIn_of_wp_marks Tryz.func10 rfl trivial ?_ rfl
  simp only [Tryz.ntmps10, List.size_toArray, List.length_cons, List.length_nil, Nat.reduceAdd, Nat.reduceSub, Array.replicate_succ, Array.replicate_zero, List.push_toArray, List.append_toArray, List.nil_append, List.cons_append]
  obtain ⟨w1, hw1⟩ : ∃ w1, w.alloc (.cells #[.slice none 0 0] 35) = w1 := ⟨_, rfl⟩
  have hz1 : w1.heap.size = n + 1 := by rw [← hw1]; simp [hn]
  have b0 : w1.heap[n]? = some (.cells #[.slice none 0 0] 35 (0, 0)) := by rw [← hw1]; exact alloc_at hn.symm
  have hb1 : Below n w w1 := by rw [← hw1]; exact (Below.refl _ _).alloc (by omega) _
  have ho1 : OwnS (fun _ => False) 40 2 (.slice none 0 0) 0 (encL2 []) w1 := ⟨⟨rfl, .inl ⟨rfl, rfl⟩⟩, fun g h => by cases h⟩
  have HW1 := Lib.hid hw1
  have HIT := Lib.hid hit
  have HN := Lib.hid hn
  clear hw1 hit
  gi_wp2_with fail
  rw [HW1.out]
  refine loop_out2 (gf := gf) (lb := lb) (encs := encCP) rfl eg
    HIT.out (fun _ => rfl) (X := fun b => b = n)
    (fun b hb => by omega) (fun b hb => by have := hNd b hb; rw [HN.out] at this; exact ⟨by omega, by omega⟩) (fun b hb => (hb1.block b (by have := hNd b hb; rw [HN.out] at this; omega)).trans (hNdw b hb)) (by rw [HN.out] at hw0; omega)
    (fun pre Y W => ∃ ao cv, W.heap[n]? = some (.cells #[.slice ao pre.length cv] 35 (0, 0)) ∧ OwnS Y 40 2 (.slice ao pre.length cv) pre.length (encL2 pre) W)
    (fun _ _ _ _ => False)
    (fun pre Y W W' hk h' => by
      obtain ⟨ao, cv, h1, h2⟩ := h'
      exact ⟨ao, cv, hk.heap h1 (fun hx => by have := hx.1; omega), h2.keep hk (fun b hx hy => hx.2 hy)⟩)
    (fun pre Y W h' => by
      obtain ⟨ao, cv, h1, h2⟩ := h'
      exact ⟨ao, cv, h1, ⟨h2.1, fun b hb => ⟨h2.2 b hb, (h2.1.lt b hb).2⟩⟩⟩)
    (fun _ _ _ _ _ _ h => h) ⟨_, _, b0, ho1⟩ ?round ?done ?stop
  case stop => intro D c pre Y W _ _ _ h; exact h.elim
  case round =>
    rintro l' hl' pre ⟨lo, hi⟩ Y W hpre hi' hk hY hlt hr
    simp only [encCP]
    have HPre := Lib.hid hpre
    have HY := Lib.hid hY
    have HK := Lib.hid hk
    clear eg hNd hNdw hi' hk hpre hY hr
    gi_wp2
    refine ⟨Keep.refl _ _, ?_⟩
    rintro W2 hk1 hk2 ⟨ao, cv, hv, hown⟩ hr2
    have hYY := HY.out
    have hlen : pre.length < L.length := by
      obtain ⟨rest, hrest⟩ := HPre.out
      rw [← hrest]; simp
    have hz2 : n < W2.heap.size := by have := hk2.size; omega
    have hYn : ∀ b, Y b → b ≠ n := fun b hb => by have := (hYY b hb).1; omega
    obtain ⟨v, hvv⟩ : ∃ v, Value.slice ao pre.length cv = v := ⟨_, rfl⟩
    rw [hvv] at hown hv
    obtain ⟨g, cap, w3, hrun, hown3, hk3, hg3, hz3⟩ := append_x (P := Tryz.prog) W2 35 40 Tryz.underlying35 tinfo2 rfl (by omega) hown [.int .i64 lo, .int .i64 hi] rfl
      (by intro u hu; simp at hu; rcases hu with rfl | rfl <;> rfl) (by unfold maxLen; omega) (by omega)
    have hvY : ∀ b, v.ownBlock = some b → Y b := hown.2
    have hg3Y : Y g ∨ W2.heap.size ≤ g := by
      rcases hg3 with hx | hx
      · exact .inl (hvY g hx)
      · exact .inr (by omega)
    have hgn : g ≠ n := by
      rcases hg3Y with hx | hx
      · exact hYn g hx
      · omega
    have k0 := cell_one hv
    have hvn : ∀ b, v.ownBlock = some b → b ≠ n := fun b hx => hYn b (hvY b hx)
    have hv3 : w3.heap[n]? = some (.cells #[v] 35 (0, 0)) := hk3.heap hv (fun hx => hvn n hx rfl)
    obtain ⟨w4, hw4⟩ : ∃ w4, w3.setCell ⟨n, 0, none⟩ (.slice (some ⟨g, 0, none⟩) (pre.length + 1) cap) = w4 := ⟨_, rfl⟩
    have hk4 : Keep (fun b => b = n) w3 w4 := by rw [← hw4]; exact Keep.setCell (X := fun b => b = n) (p := ⟨n, 0, none⟩) (Keep.refl _ _) rfl _
    have hv4 : w4.heap[n]? = some (.cells #[.slice (some ⟨g, 0, none⟩) (pre.length + 1) cap] 35 (0, 0)) := by rw [← hw4]; exact set_at hv3
    have hown4 := hown3.keep hk4 (fun b hb hy => hgn (by rw [← hy, hb]))
    have k3 := cell_one hv3
    have f3 := frozen_one hv3
    have hfin : Kt.Left (fun b => b = n) Y (fun pre Y W => ∃ ao cv, W.heap[n]? = some (.cells #[.slice ao pre.length cv] 35 (0, 0)) ∧ OwnS Y 40 2 (.slice ao pre.length cv) pre.length (encL2 pre) W) (pre ++ [(lo, hi)]) W2 w4 := by
      refine ⟨fun b => b = g, ?_, ?_, some ⟨g, 0, none⟩, cap, ?_, ?_⟩
      · exact (hk3.weaken (Y := fun b => b = n ∨ Y b) (fun b _ hx => .inr (hvY b hx))).trans (hk4.weaken fun b _ hx => .inl hx)
      · rintro b rfl
        exact hg3Y
      · have e1 : (pre ++ [(lo, hi)]).length = pre.length + 1 := by simp
        rw [e1]; exact hv4
      · have e1 : (pre ++ [(lo, hi)]).length = pre.length + 1 := by simp
        rw [e1, encL2_snoc]
        exact hown4
    have HF := Lib.hid hfin
    have H3 := Lib.hid hrun
    have HW4 := Lib.hid hw4
    clear hfin hrun hw4 hown hown3 hown4 hk3 hk4 hg3 hvY hvn hv hv3 hv4 hg3Y hYY hYn hk1 hk2 hr2 hgn hlen
    gi_wp2_with (first | (refine wpListIn_append_eq (o := ⟨some 14, _, _, _, _, _⟩) (by rfl) (by rfl) (by rfl) (by rfl) H3.out ?_))
    rw [HW4.out]
    exact HF.out
  case done =>
    rintro D Y W hD hDd ⟨ao, cv, hv, hown⟩ hY hkW
    have hk2 : Below n w W := hb1.trans (hkW.below (by omega) (fun b hb => by omega))
    have b2 := cell_one hv
    have HF := Lib.hid (And.intro hown (And.intro hk2 hY))
    have HDD := Lib.hid hDd
    clear hown hk2 hkW hY hDd eg hNd hNdw hw0
    gi_wp2
    refine leaves_marks (Ds := [D]) (by simp) (fun D' h => by simp at h; subst h; exact HDD.out) (fun W' hk' => ⟨_, results_tmp rfl _ _ _, ?_⟩)
    obtain ⟨ho, hkk, hY⟩ := HF.out
    have hk' : Keep (fun b => b = D) W W' := hk'.weaken fun b _ hb => by simpa using hb
    have ho2 := ho.keep hk' (fun b hb hy => (hY b hy).2 hb)
    refine ⟨_, rfl, prr_own ho2 rfl, ?_⟩
    rw [HN.out]
    exact hkk.trans (hk'.below (by have := hkk.size; omega) (fun b hb => by have hb : b = D := hb; omega))
end Go.Proofs.YthhepebkfokddaaGreatDoor
/- props: Decomp, Fold; slices.Clone of points. -/
namespace Go.Proofs.YthhepebkfokddaaGreatDoor
open Go Go.RowKit Go.Kt Go.Kt.Rg Go.Maps

def toZ (l : List Nat) : List Int := l.map fun x : Nat => (x : Int)
theorem toZ_len (l : List Nat) : (toZ l).length = l.length := by simp [toZ]
def encZ (l : List Int) : List Value := l.map fun x => .int .i32 x
def NewZ (H : Nat) (l : List Int) (e : Ending) (w' : World) : Prop :=
  ∃ ao cp, e = .returned (.slice ao l.length cp) ∧ OwnS (fun b => H ≤ b) 21 1 (.slice ao l.length cp) l.length (encZ l) w'

def dcpV (S : RdS) (r : Int) : List Nat := if sylP r then partsP (r - 44032).toNat else (atZ S.ds r).getD []
def fldV (S : RdS) (r : Int) : List Int := match atZ S.fs r with
  | some l => toZ l
  | none => [r]
set_option maxRecDepth 100000 in
theorem DecM.look1 {ρ : Nat → Nat} {k B n : Nat} {d : Nat → Option (List Nat)} {w : World} (h : DecM ρ k B n d w) {r : Int} (hr : I32 r) :
    ∃ v, (Instr.lookup 54 (.map (some B)) (.int .i32 r) false).run Tryz.prog w = .ok v w ∧ (Instr.lookup 54 (.map (some B)) (.int .i32 r) true).run Tryz.prog w = .ok (.tuple #[v, .bool (atZ d r).isSome]) w ∧
      ((atZ d r = none ∧ v = .slice none 0 0) ∨ ∃ l, atZ d r = some l ∧ PtV ρ v l w) := by
  obtain ⟨_, vs, h1, h2, h3⟩ := h
  have hkey : keyOf Tryz.prog 21 (.int .i32 r) = some (.int .i32 r) := keyOf_int_mk Tryz.underlying21 hr.wf
  have hl1 := h1.look1 (int_keyed Tryz.underlying21) Tryz.underlying54 (z := .slice none 0 0) rfl hkey
  have hl2 := h1.look (int_keyed Tryz.underlying21) Tryz.underlying54 (z := .slice none 0 0) rfl hkey
  rw [ptF_atZ] at hl1 hl2
  have hs : (atZ vs r).isSome = (atZ d r).isSome := by
    unfold atZ
    split
    · exact h2 _
    · rfl
  rw [hs] at hl2
  refine ⟨_, hl1, hl2, ?_⟩
  cases hv : atZ vs r with
  | none =>
    rw [hv] at hs
    refine .inl ⟨?_, rfl⟩
    cases hd : atZ d r with
    | none => rfl
    | some l => rw [hd] at hs; cases hs
  | some v =>
    rw [hv] at hs
    cases hd : atZ d r with
    | none => rw [hd] at hs; cases hs
    | some l =>
      refine .inr ⟨l, rfl, ?_⟩
      unfold atZ at hv hd
      by_cases h0 : 0 ≤ r
      · rw [if_pos h0] at hv hd
        exact h3 _ _ _ hv hd
      · rw [if_neg h0] at hv; cases hv

end Go.Proofs.YthhepebkfokddaaGreatDoor
