/- Parts of the proof of what the last text says. -/
import Derived.Test.YthhepebkfokddaaGreatDoorGy15
/- cells: which bytes lie within a unit; whether an edge lies at a byte; the cells of a text: mathematics. -/
namespace Go.Proofs.YthhepebkfokddaaGreatDoor
open Go Go.RowKit Go.Kt

def withP (s : ByteArray) (a : Int) : Bool := decide (1 < (decP s (a - 1)).2) || decide (2 < (decP s (a - 2)).2) || decide (3 < (decP s (a - 3)).2)
def edgP (S : RdS) (s : ByteArray) (a : Int) : Bool :=
  if s.size = 0 ∨ a < 0 ∨ s.size < a then false else if a = 0 ∨ a = s.size then true else if withP s a then false else edgU (untP S s (a - (befP s a).2)) (untP S s a)

theorem within_back (s : ByteArray) (i k : Nat) (hi : i < s.size) (h1 : 1 ≤ k) (h : (k : Int) < (decP s ((i : Int) - k)).2) : i ∉ PL s := by
  by_cases hk : k ≤ i
  · obtain ⟨p, rfl⟩ : ∃ p, i = p + k := ⟨i - k, by omega⟩
    rw [show ((p + k : Nat) : Int) - k = (p : Int) by omega, decP_in s p (by omega)] at h
    simp only at h
    rcases decode_wide s p (by omega) with ⟨_, h4⟩ | ⟨u, u1, u4, u5, h6, h7⟩
    · rw [h4] at h
      simp only at h
      omega
    · exact no_unit_within s p u (p + k) (by omega) u1 u4 h6 (by omega) (by omega) s.size 0 (Nat.zero_le _)
  · exfalso
    unfold decP at h
    rw [if_neg (by omega)] at h
    simp only at h
    omega
theorem withP_iff (s : ByteArray) (i : Nat) (hi : i < s.size) : withP s i = true ↔ i ∉ PL s := by
  constructor
  · intro h
    unfold withP at h
    simp only [Bool.or_eq_true, decide_eq_true_eq] at h
    rcases h with (h | h) | h
    · exact within_back s i 1 hi (by omega) (by simpa using h)
    · exact within_back s i 2 hi (by omega) (by simpa using h)
    · exact within_back s i 3 hi (by omega) (by simpa using h)
  · intro h
    obtain ⟨n, hn, h1, h2⟩ := unit_of s i hi
    have hne : pos s n ≠ i := fun e => h (e ▸ pos_mem s n hn)
    have hst := pos_step s n hn
    have hsu := pos_succ s n hn
    have hlt := pos_lt s n hn
    have key : ∀ k : Nat, i = pos s n + k → (k : Int) < (decP s ((i : Int) - k)).2 := fun k hk => by
      rw [show (i : Int) - k = (pos s n : Int) by omega, decP_in s _ hlt]
      simp only
      omega
    unfold withP
    simp only [Bool.or_eq_true, decide_eq_true_eq]
    rcases (by omega : i = pos s n + 1 ∨ i = pos s n + 2 ∨ i = pos s n + 3) with e | e | e
    · exact .inl (.inl (by simpa using key 1 e))
    · exact .inl (.inr (by simpa using key 2 e))
    · exact .inr (by simpa using key 3 e)
theorem edgP_unit (S : RdS) (s : ByteArray) (n : Nat) (hn : n + 1 < (units s).length) : edgP S s (pos s (n + 1)) = edgU (untP S s (pos s n)) (untP S s (pos s (n + 1))) := by
  have hlt := pos_lt s (n + 1) hn
  have hst := (pos_step s n (by omega)).1
  have hw : withP s (pos s (n + 1)) = false := by
    have := (withP_iff s (pos s (n + 1)) hlt)
    cases hb : withP s (pos s (n + 1)) with
    | false => rfl
    | true => exact absurd (pos_mem s (n + 1) hn) (this.1 hb)
  have hb := before_unit s (pos s n) (pos_lt s n (by omega)) (pos_mem s n (by omega))
  have hsu := pos_succ s n (by omega)
  unfold edgP
  rw [if_neg (by omega), if_neg (by omega), hw]
  simp only [Bool.false_eq_true, if_false]
  rw [show ((pos s (n + 1) : Nat) : Int) = (pos s n : Int) + (Utf8.decode s (pos s n)).2 by omega, hb]
  simp only
  rw [Int.add_sub_cancel]
def celStep (S : RdS) (s : ByteArray) (z : List (Nat × Nat) × Nat × CU) (p : Nat × Nat) : List (Nat × Nat) × Nat × CU :=
  if 0 < p.1 ∧ edgU z.2.2 (untP S s p.1) = true then (z.1 ++ [(z.2.1, p.1)], p.1, untP S s p.1) else (z.1, z.2.1, untP S s p.1)
def celF (S : RdS) (s : ByteArray) (l : List (Nat × Nat)) : List (Nat × Nat) × Nat × CU := l.foldl (celStep S s) ([], 0, ⟨0, false, false, false, 0⟩)
def celL (S : RdS) (s : ByteArray) : List (Nat × Nat) := if s.size = 0 then [] else (celF S s (units s)).1 ++ [((celF S s (units s)).2.1, s.size)]
theorem celF_snoc (S : RdS) (s : ByteArray) (l : List (Nat × Nat)) (p : Nat × Nat) : celF S s (l ++ [p]) = celStep S s (celF S s l) p := by simp [celF]
theorem celF_pre (S : RdS) (s : ByteArray) (l r : List (Nat × Nat)) : (celF S s l).1 <+: (celF S s (l ++ r)).1 := by
  induction r generalizing l with
  | nil => rw [List.append_nil]; exact List.prefix_refl _
  | cons p t ih =>
    have h1 : (celF S s l).1 <+: (celF S s (l ++ [p])).1 := by
      rw [celF_snoc]
      unfold celStep
      split
      · exact List.prefix_append _ _
      · exact List.prefix_refl _
    have h2 := ih (l ++ [p])
    rw [List.append_assoc, List.singleton_append] at h2
    exact h1.trans h2
theorem celL_pre (S : RdS) (s : ByteArray) (l : List (Nat × Nat)) (h : l <+: units s) (hs : s.size ≠ 0) : (celF S s l).1 <+: celL S s := by
  obtain ⟨r, hr⟩ := h
  unfold celL
  rw [if_neg hs, ← hr]
  exact (celF_pre S s l r).trans (List.prefix_append _ _)
theorem untP_han (S : RdS) (s : ByteArray) (a : Int) : 0 ≤ (untP S s a).han ∧ (untP S s a).han ≤ 5 := by
  unfold untP
  split
  · exact ⟨by decide, by decide⟩
  · exact hanK_in _
theorem celF_han (S : RdS) (s : ByteArray) (l : List (Nat × Nat)) : 0 ≤ (celF S s l).2.2.han ∧ (celF S s l).2.2.han ≤ 5 := by
  rcases List.eq_nil_or_concat l with rfl | ⟨r, p, rfl⟩
  · exact ⟨Int.le_refl 0, (by decide : (0 : Int) ≤ 5)⟩
  · rw [List.concat_eq_append, celF_snoc]
    unfold celStep
    split
    · exact untP_han S s _
    · exact untP_han S s _
end Go.Proofs.YthhepebkfokddaaGreatDoor
/- cells: the unit at a place of a text: 0A and 0D. -/
namespace Go.Proofs.YthhepebkfokddaaGreatDoor
open Go Go.RowKit Go.Kt

set_option maxRecDepth 100000 in
set_option maxHeartbeats 1000000 in
theorem ua3 (gp : Nat) (s : ByteArray) (a : Int) (w w0 : World) (v h : Int) (HW0 : Hid (w.alloc cuZ = w0))
    (H0 : Hid (Below w.heap.size w w0 ∧ w0.heap[w.heap.size]? = some (.cells #[.int .i32 0, .bool false, .bool false, .bool false, .int .i64 0] 71 (0, 0))))
    (CD : Hid (Calls Tryz.prog 55 #[.string s, .int .i64 a] w0 fun e w' => e = .returned (.tuple #[.int .i32 10, .int .i64 v]) ∧ Below w0.heap.size w0 w'))
    (CK : Hid (∀ W, Below w.heap.size w W → Calls Tryz.prog 58 #[.pointer (some ⟨gp, 0, none⟩), .int .i32 10] W fun e w' => e = .returned (.int .i64 3) ∧ Below W.heap.size W w'))
    (CH : Hid (∀ W, Calls Tryz.prog 59 #[.int .i32 10] W fun e w' => e = .returned (.int .i64 h) ∧ w' = W))  :
    Calls Tryz.prog 28 #[.pointer (some ⟨gp, 0, none⟩), .string s, .int .i64 a] w fun e w' => e = .returned (cuV ⟨10, true, true, false, h⟩) ∧ Below w.heap.size w w' := by
  go_enter Tryz.func28, Tryz.ntmps28
  go_wp2_with fail
  rw [HW0.out]
  refine CD.out.mono ?_
  rintro e w1 ⟨rfl, hb1⟩
  have hg1 : w1.heap[w.heap.size]? = some (.cells #[.int .i32 0, .bool false, .bool false, .bool false, .int .i64 0] 71 (0, 0)) := (hb1.block _ (Array.getElem?_eq_some_iff.1 H0.out.2).1).trans H0.out.2
  have H1 : Hid (Below w.heap.size w w1 ∧ w1.heap[w.heap.size]? = some (.cells #[.int .i32 0, .bool false, .bool false, .bool false, .int .i64 0] 71 (0, 0))) := Lib.hid ⟨H0.out.1.trans (hb1.mono H0.out.1.size), hg1⟩
  clear hb1 hg1
  go_wp2_with fail
  refine (CK.out w1 H1.out.1).mono ?_
  rintro e w2 ⟨rfl, hb2⟩
  have H2 := Lib.hid (cu_keep H1.out hb2)
  clear hb2
  go_wp2_with fail
  refine (CH.out w2).mono ?_
  rintro e w9 ⟨rfl, hw9⟩
  subst hw9
  have ST := Lib.hid (cu_store ⟨10, true, true, false, h⟩ H2.out.2)
  go_wp2_with (refine wpList_store_cu rfl rfl rfl rfl rfl ST.out ?_; clear ST)
  (try simp only [Exit.inBlock, Exit.then])
  refine bodyPost_ret (results_cell_row rfl _ _ w.heap.size 71 #[.int .i32 10, .bool true, .bool true, .bool false, .int .i64 h] (0, 0) _ rfl (cuSet_at ⟨10, true, true, false, h⟩ H2.out.2) Tryz.underlying71 rfl (by kernel_rfl)) rfl ?_
  exact ⟨by congr 1, H2.out.1.trans (cuSet_below (V := w9) (Nat.le_refl _) ⟨10, true, true, false, h⟩)⟩
set_option maxRecDepth 100000 in
set_option maxHeartbeats 1000000 in
theorem ua6 (gp : Nat) (s : ByteArray) (a : Int) (w w0 : World) (v h : Int) (HW0 : Hid (w.alloc cuZ = w0))
    (H0 : Hid (Below w.heap.size w w0 ∧ w0.heap[w.heap.size]? = some (.cells #[.int .i32 0, .bool false, .bool false, .bool false, .int .i64 0] 71 (0, 0))))
    (CD : Hid (Calls Tryz.prog 55 #[.string s, .int .i64 a] w0 fun e w' => e = .returned (.tuple #[.int .i32 10, .int .i64 v]) ∧ Below w0.heap.size w0 w'))
    (CK : Hid (∀ W, Below w.heap.size w W → Calls Tryz.prog 58 #[.pointer (some ⟨gp, 0, none⟩), .int .i32 10] W fun e w' => e = .returned (.int .i64 6) ∧ Below W.heap.size W w'))
    (CH : Hid (∀ W, Calls Tryz.prog 59 #[.int .i32 10] W fun e w' => e = .returned (.int .i64 h) ∧ w' = W))  :
    Calls Tryz.prog 28 #[.pointer (some ⟨gp, 0, none⟩), .string s, .int .i64 a] w fun e w' => e = .returned (cuV ⟨10, true, true, true, h⟩) ∧ Below w.heap.size w w' := by
  go_enter Tryz.func28, Tryz.ntmps28
  go_wp2_with fail
  rw [HW0.out]
  refine CD.out.mono ?_
  rintro e w1 ⟨rfl, hb1⟩
  have hg1 : w1.heap[w.heap.size]? = some (.cells #[.int .i32 0, .bool false, .bool false, .bool false, .int .i64 0] 71 (0, 0)) := (hb1.block _ (Array.getElem?_eq_some_iff.1 H0.out.2).1).trans H0.out.2
  have H1 : Hid (Below w.heap.size w w1 ∧ w1.heap[w.heap.size]? = some (.cells #[.int .i32 0, .bool false, .bool false, .bool false, .int .i64 0] 71 (0, 0))) := Lib.hid ⟨H0.out.1.trans (hb1.mono H0.out.1.size), hg1⟩
  clear hb1 hg1
  go_wp2_with fail
  refine (CK.out w1 H1.out.1).mono ?_
  rintro e w2 ⟨rfl, hb2⟩
  have H2 := Lib.hid (cu_keep H1.out hb2)
  clear hb2
  go_wp2_with fail
  refine (CH.out w2).mono ?_
  rintro e w9 ⟨rfl, hw9⟩
  subst hw9
  have ST := Lib.hid (cu_store ⟨10, true, true, true, h⟩ H2.out.2)
  go_wp2_with (refine wpList_store_cu rfl rfl rfl rfl rfl ST.out ?_; clear ST)
  (try simp only [Exit.inBlock, Exit.then])
  refine bodyPost_ret (results_cell_row rfl _ _ w.heap.size 71 #[.int .i32 10, .bool true, .bool true, .bool true, .int .i64 h] (0, 0) _ rfl (cuSet_at ⟨10, true, true, true, h⟩ H2.out.2) Tryz.underlying71 rfl (by kernel_rfl)) rfl ?_
  exact ⟨by congr 1, H2.out.1.trans (cuSet_below (V := w9) (Nat.le_refl _) ⟨10, true, true, true, h⟩)⟩
set_option maxRecDepth 100000 in
set_option maxHeartbeats 1000000 in
theorem uac (gp : Nat) (s : ByteArray) (a : Int) (w w0 : World) (k v c h : Int) (HW0 : Hid (w.alloc cuZ = w0))
    (H0 : Hid (Below w.heap.size w w0 ∧ w0.heap[w.heap.size]? = some (.cells #[.int .i32 0, .bool false, .bool false, .bool false, .int .i64 0] 71 (0, 0))))
    (CD : Hid (Calls Tryz.prog 55 #[.string s, .int .i64 a] w0 fun e w' => e = .returned (.tuple #[.int .i32 10, .int .i64 v]) ∧ Below w0.heap.size w0 w'))
    (CK : Hid (∀ W, Below w.heap.size w W → Calls Tryz.prog 58 #[.pointer (some ⟨gp, 0, none⟩), .int .i32 10] W fun e w' => e = .returned (.int .i64 k) ∧ Below W.heap.size W w'))
    (CC : Hid (∀ W, Below w.heap.size w W → Calls Tryz.prog 54 #[.pointer (some ⟨gp, 0, none⟩), .int .i32 10] W fun e w' => e = .returned (.int .i64 c) ∧ Below W.heap.size W w'))
    (CH : Hid (∀ W, Calls Tryz.prog 59 #[.int .i32 10] W fun e w' => e = .returned (.int .i64 h) ∧ w' = W)) (k3' : (k == 3) = false) (k6' : (k == 6) = false) (hc : 0 < c) :
    Calls Tryz.prog 28 #[.pointer (some ⟨gp, 0, none⟩), .string s, .int .i64 a] w fun e w' => e = .returned (cuV ⟨10, true, true, false, h⟩) ∧ Below w.heap.size w w' := by
  go_enter Tryz.func28, Tryz.ntmps28
  go_wp2_with fail
  rw [HW0.out]
  refine CD.out.mono ?_
  rintro e w1 ⟨rfl, hb1⟩
  have hg1 : w1.heap[w.heap.size]? = some (.cells #[.int .i32 0, .bool false, .bool false, .bool false, .int .i64 0] 71 (0, 0)) := (hb1.block _ (Array.getElem?_eq_some_iff.1 H0.out.2).1).trans H0.out.2
  have H1 : Hid (Below w.heap.size w w1 ∧ w1.heap[w.heap.size]? = some (.cells #[.int .i32 0, .bool false, .bool false, .bool false, .int .i64 0] 71 (0, 0))) := Lib.hid ⟨H0.out.1.trans (hb1.mono H0.out.1.size), hg1⟩
  clear hb1 hg1
  go_wp2_with fail
  refine (CK.out w1 H1.out.1).mono ?_
  rintro e w2 ⟨rfl, hb2⟩
  have H2 := Lib.hid (cu_keep H1.out hb2)
  clear hb2
  go_wp2_with fail
  refine (CC.out w2 H2.out.1).mono ?_
  rintro e w3 ⟨rfl, hb3⟩
  have H3 := Lib.hid (cu_keep H2.out hb3)
  clear hb3
  go_wp2_with fail
  refine (CH.out w3).mono ?_
  rintro e w9 ⟨rfl, hw9⟩
  subst hw9
  have ST := Lib.hid (cu_store ⟨10, true, true, false, h⟩ H3.out.2)
  go_wp2_with (refine wpList_store_cu rfl rfl rfl rfl rfl ST.out ?_; clear ST)
  (try simp only [Exit.inBlock, Exit.then])
  refine bodyPost_ret (results_cell_row rfl _ _ w.heap.size 71 #[.int .i32 10, .bool true, .bool true, .bool false, .int .i64 h] (0, 0) _ rfl (cuSet_at ⟨10, true, true, false, h⟩ H3.out.2) Tryz.underlying71 rfl (by kernel_rfl)) rfl ?_
  exact ⟨by congr 1, H3.out.1.trans (cuSet_below (V := w9) (Nat.le_refl _) ⟨10, true, true, false, h⟩)⟩
set_option maxRecDepth 100000 in
set_option maxHeartbeats 1000000 in
theorem uan (gp : Nat) (s : ByteArray) (a : Int) (w w0 : World) (k v c h : Int) (HW0 : Hid (w.alloc cuZ = w0))
    (H0 : Hid (Below w.heap.size w w0 ∧ w0.heap[w.heap.size]? = some (.cells #[.int .i32 0, .bool false, .bool false, .bool false, .int .i64 0] 71 (0, 0))))
    (CD : Hid (Calls Tryz.prog 55 #[.string s, .int .i64 a] w0 fun e w' => e = .returned (.tuple #[.int .i32 10, .int .i64 v]) ∧ Below w0.heap.size w0 w'))
    (CK : Hid (∀ W, Below w.heap.size w W → Calls Tryz.prog 58 #[.pointer (some ⟨gp, 0, none⟩), .int .i32 10] W fun e w' => e = .returned (.int .i64 k) ∧ Below W.heap.size W w'))
    (CC : Hid (∀ W, Below w.heap.size w W → Calls Tryz.prog 54 #[.pointer (some ⟨gp, 0, none⟩), .int .i32 10] W fun e w' => e = .returned (.int .i64 c) ∧ Below W.heap.size W w'))
    (CH : Hid (∀ W, Calls Tryz.prog 59 #[.int .i32 10] W fun e w' => e = .returned (.int .i64 h) ∧ w' = W)) (k3' : (k == 3) = false) (k6' : (k == 6) = false) (hc : ¬ 0 < c) :
    Calls Tryz.prog 28 #[.pointer (some ⟨gp, 0, none⟩), .string s, .int .i64 a] w fun e w' => e = .returned (cuV ⟨10, true, false, false, h⟩) ∧ Below w.heap.size w w' := by
  have hc2 : decide (0 < c) = false := decide_eq_false hc
  clear hc
  go_enter Tryz.func28, Tryz.ntmps28
  go_wp2_with fail
  rw [HW0.out]
  refine CD.out.mono ?_
  rintro e w1 ⟨rfl, hb1⟩
  have hg1 : w1.heap[w.heap.size]? = some (.cells #[.int .i32 0, .bool false, .bool false, .bool false, .int .i64 0] 71 (0, 0)) := (hb1.block _ (Array.getElem?_eq_some_iff.1 H0.out.2).1).trans H0.out.2
  have H1 : Hid (Below w.heap.size w w1 ∧ w1.heap[w.heap.size]? = some (.cells #[.int .i32 0, .bool false, .bool false, .bool false, .int .i64 0] 71 (0, 0))) := Lib.hid ⟨H0.out.1.trans (hb1.mono H0.out.1.size), hg1⟩
  clear hb1 hg1
  go_wp2_with fail
  refine (CK.out w1 H1.out.1).mono ?_
  rintro e w2 ⟨rfl, hb2⟩
  have H2 := Lib.hid (cu_keep H1.out hb2)
  clear hb2
  go_wp2_with fail
  refine (CC.out w2 H2.out.1).mono ?_
  rintro e w3 ⟨rfl, hb3⟩
  have H3 := Lib.hid (cu_keep H2.out hb3)
  clear hb3
  go_wp2_with fail
  refine (CH.out w3).mono ?_
  rintro e w9 ⟨rfl, hw9⟩
  subst hw9
  have ST := Lib.hid (cu_store ⟨10, true, false, false, h⟩ H3.out.2)
  go_wp2_with (refine wpList_store_cu rfl rfl rfl rfl rfl ST.out ?_; clear ST)
  (try simp only [Exit.inBlock, Exit.then])
  refine bodyPost_ret (results_cell_row rfl _ _ w.heap.size 71 #[.int .i32 10, .bool true, .bool false, .bool false, .int .i64 h] (0, 0) _ rfl (cuSet_at ⟨10, true, false, false, h⟩ H3.out.2) Tryz.underlying71 rfl (by kernel_rfl)) rfl ?_
  exact ⟨by congr 1, H3.out.1.trans (cuSet_below (V := w9) (Nat.le_refl _) ⟨10, true, false, false, h⟩)⟩
set_option maxRecDepth 100000 in
set_option maxHeartbeats 1000000 in
theorem ub3 (gp : Nat) (s : ByteArray) (a : Int) (w w0 : World) (v h : Int) (HW0 : Hid (w.alloc cuZ = w0))
    (H0 : Hid (Below w.heap.size w w0 ∧ w0.heap[w.heap.size]? = some (.cells #[.int .i32 0, .bool false, .bool false, .bool false, .int .i64 0] 71 (0, 0))))
    (CD : Hid (Calls Tryz.prog 55 #[.string s, .int .i64 a] w0 fun e w' => e = .returned (.tuple #[.int .i32 13, .int .i64 v]) ∧ Below w0.heap.size w0 w'))
    (CK : Hid (∀ W, Below w.heap.size w W → Calls Tryz.prog 58 #[.pointer (some ⟨gp, 0, none⟩), .int .i32 13] W fun e w' => e = .returned (.int .i64 3) ∧ Below W.heap.size W w'))
    (CH : Hid (∀ W, Calls Tryz.prog 59 #[.int .i32 13] W fun e w' => e = .returned (.int .i64 h) ∧ w' = W))  :
    Calls Tryz.prog 28 #[.pointer (some ⟨gp, 0, none⟩), .string s, .int .i64 a] w fun e w' => e = .returned (cuV ⟨13, true, true, false, h⟩) ∧ Below w.heap.size w w' := by
  go_enter Tryz.func28, Tryz.ntmps28
  go_wp2_with fail
  rw [HW0.out]
  refine CD.out.mono ?_
  rintro e w1 ⟨rfl, hb1⟩
  have hg1 : w1.heap[w.heap.size]? = some (.cells #[.int .i32 0, .bool false, .bool false, .bool false, .int .i64 0] 71 (0, 0)) := (hb1.block _ (Array.getElem?_eq_some_iff.1 H0.out.2).1).trans H0.out.2
  have H1 : Hid (Below w.heap.size w w1 ∧ w1.heap[w.heap.size]? = some (.cells #[.int .i32 0, .bool false, .bool false, .bool false, .int .i64 0] 71 (0, 0))) := Lib.hid ⟨H0.out.1.trans (hb1.mono H0.out.1.size), hg1⟩
  clear hb1 hg1
  go_wp2_with fail
  refine (CK.out w1 H1.out.1).mono ?_
  rintro e w2 ⟨rfl, hb2⟩
  have H2 := Lib.hid (cu_keep H1.out hb2)
  clear hb2
  go_wp2_with fail
  refine (CH.out w2).mono ?_
  rintro e w9 ⟨rfl, hw9⟩
  subst hw9
  have ST := Lib.hid (cu_store ⟨13, true, true, false, h⟩ H2.out.2)
  go_wp2_with (refine wpList_store_cu rfl rfl rfl rfl rfl ST.out ?_; clear ST)
  (try simp only [Exit.inBlock, Exit.then])
  refine bodyPost_ret (results_cell_row rfl _ _ w.heap.size 71 #[.int .i32 13, .bool true, .bool true, .bool false, .int .i64 h] (0, 0) _ rfl (cuSet_at ⟨13, true, true, false, h⟩ H2.out.2) Tryz.underlying71 rfl (by kernel_rfl)) rfl ?_
  exact ⟨by congr 1, H2.out.1.trans (cuSet_below (V := w9) (Nat.le_refl _) ⟨13, true, true, false, h⟩)⟩
set_option maxRecDepth 100000 in
set_option maxHeartbeats 1000000 in
theorem ub6 (gp : Nat) (s : ByteArray) (a : Int) (w w0 : World) (v h : Int) (HW0 : Hid (w.alloc cuZ = w0))
    (H0 : Hid (Below w.heap.size w w0 ∧ w0.heap[w.heap.size]? = some (.cells #[.int .i32 0, .bool false, .bool false, .bool false, .int .i64 0] 71 (0, 0))))
    (CD : Hid (Calls Tryz.prog 55 #[.string s, .int .i64 a] w0 fun e w' => e = .returned (.tuple #[.int .i32 13, .int .i64 v]) ∧ Below w0.heap.size w0 w'))
    (CK : Hid (∀ W, Below w.heap.size w W → Calls Tryz.prog 58 #[.pointer (some ⟨gp, 0, none⟩), .int .i32 13] W fun e w' => e = .returned (.int .i64 6) ∧ Below W.heap.size W w'))
    (CH : Hid (∀ W, Calls Tryz.prog 59 #[.int .i32 13] W fun e w' => e = .returned (.int .i64 h) ∧ w' = W))  :
    Calls Tryz.prog 28 #[.pointer (some ⟨gp, 0, none⟩), .string s, .int .i64 a] w fun e w' => e = .returned (cuV ⟨13, true, true, true, h⟩) ∧ Below w.heap.size w w' := by
  go_enter Tryz.func28, Tryz.ntmps28
  go_wp2_with fail
  rw [HW0.out]
  refine CD.out.mono ?_
  rintro e w1 ⟨rfl, hb1⟩
  have hg1 : w1.heap[w.heap.size]? = some (.cells #[.int .i32 0, .bool false, .bool false, .bool false, .int .i64 0] 71 (0, 0)) := (hb1.block _ (Array.getElem?_eq_some_iff.1 H0.out.2).1).trans H0.out.2
  have H1 : Hid (Below w.heap.size w w1 ∧ w1.heap[w.heap.size]? = some (.cells #[.int .i32 0, .bool false, .bool false, .bool false, .int .i64 0] 71 (0, 0))) := Lib.hid ⟨H0.out.1.trans (hb1.mono H0.out.1.size), hg1⟩
  clear hb1 hg1
  go_wp2_with fail
  refine (CK.out w1 H1.out.1).mono ?_
  rintro e w2 ⟨rfl, hb2⟩
  have H2 := Lib.hid (cu_keep H1.out hb2)
  clear hb2
  go_wp2_with fail
  refine (CH.out w2).mono ?_
  rintro e w9 ⟨rfl, hw9⟩
  subst hw9
  have ST := Lib.hid (cu_store ⟨13, true, true, true, h⟩ H2.out.2)
  go_wp2_with (refine wpList_store_cu rfl rfl rfl rfl rfl ST.out ?_; clear ST)
  (try simp only [Exit.inBlock, Exit.then])
  refine bodyPost_ret (results_cell_row rfl _ _ w.heap.size 71 #[.int .i32 13, .bool true, .bool true, .bool true, .int .i64 h] (0, 0) _ rfl (cuSet_at ⟨13, true, true, true, h⟩ H2.out.2) Tryz.underlying71 rfl (by kernel_rfl)) rfl ?_
  exact ⟨by congr 1, H2.out.1.trans (cuSet_below (V := w9) (Nat.le_refl _) ⟨13, true, true, true, h⟩)⟩
set_option maxRecDepth 100000 in
set_option maxHeartbeats 1000000 in
theorem ubc (gp : Nat) (s : ByteArray) (a : Int) (w w0 : World) (k v c h : Int) (HW0 : Hid (w.alloc cuZ = w0))
    (H0 : Hid (Below w.heap.size w w0 ∧ w0.heap[w.heap.size]? = some (.cells #[.int .i32 0, .bool false, .bool false, .bool false, .int .i64 0] 71 (0, 0))))
    (CD : Hid (Calls Tryz.prog 55 #[.string s, .int .i64 a] w0 fun e w' => e = .returned (.tuple #[.int .i32 13, .int .i64 v]) ∧ Below w0.heap.size w0 w'))
    (CK : Hid (∀ W, Below w.heap.size w W → Calls Tryz.prog 58 #[.pointer (some ⟨gp, 0, none⟩), .int .i32 13] W fun e w' => e = .returned (.int .i64 k) ∧ Below W.heap.size W w'))
    (CC : Hid (∀ W, Below w.heap.size w W → Calls Tryz.prog 54 #[.pointer (some ⟨gp, 0, none⟩), .int .i32 13] W fun e w' => e = .returned (.int .i64 c) ∧ Below W.heap.size W w'))
    (CH : Hid (∀ W, Calls Tryz.prog 59 #[.int .i32 13] W fun e w' => e = .returned (.int .i64 h) ∧ w' = W)) (k3' : (k == 3) = false) (k6' : (k == 6) = false) (hc : 0 < c) :
    Calls Tryz.prog 28 #[.pointer (some ⟨gp, 0, none⟩), .string s, .int .i64 a] w fun e w' => e = .returned (cuV ⟨13, true, true, false, h⟩) ∧ Below w.heap.size w w' := by
  go_enter Tryz.func28, Tryz.ntmps28
  go_wp2_with fail
  rw [HW0.out]
  refine CD.out.mono ?_
  rintro e w1 ⟨rfl, hb1⟩
  have hg1 : w1.heap[w.heap.size]? = some (.cells #[.int .i32 0, .bool false, .bool false, .bool false, .int .i64 0] 71 (0, 0)) := (hb1.block _ (Array.getElem?_eq_some_iff.1 H0.out.2).1).trans H0.out.2
  have H1 : Hid (Below w.heap.size w w1 ∧ w1.heap[w.heap.size]? = some (.cells #[.int .i32 0, .bool false, .bool false, .bool false, .int .i64 0] 71 (0, 0))) := Lib.hid ⟨H0.out.1.trans (hb1.mono H0.out.1.size), hg1⟩
  clear hb1 hg1
  go_wp2_with fail
  refine (CK.out w1 H1.out.1).mono ?_
  rintro e w2 ⟨rfl, hb2⟩
  have H2 := Lib.hid (cu_keep H1.out hb2)
  clear hb2
  go_wp2_with fail
  refine (CC.out w2 H2.out.1).mono ?_
  rintro e w3 ⟨rfl, hb3⟩
  have H3 := Lib.hid (cu_keep H2.out hb3)
  clear hb3
  go_wp2_with fail
  refine (CH.out w3).mono ?_
  rintro e w9 ⟨rfl, hw9⟩
  subst hw9
  have ST := Lib.hid (cu_store ⟨13, true, true, false, h⟩ H3.out.2)
  go_wp2_with (refine wpList_store_cu rfl rfl rfl rfl rfl ST.out ?_; clear ST)
  (try simp only [Exit.inBlock, Exit.then])
  refine bodyPost_ret (results_cell_row rfl _ _ w.heap.size 71 #[.int .i32 13, .bool true, .bool true, .bool false, .int .i64 h] (0, 0) _ rfl (cuSet_at ⟨13, true, true, false, h⟩ H3.out.2) Tryz.underlying71 rfl (by kernel_rfl)) rfl ?_
  exact ⟨by congr 1, H3.out.1.trans (cuSet_below (V := w9) (Nat.le_refl _) ⟨13, true, true, false, h⟩)⟩
set_option maxRecDepth 100000 in
set_option maxHeartbeats 1000000 in
theorem ubn (gp : Nat) (s : ByteArray) (a : Int) (w w0 : World) (k v c h : Int) (HW0 : Hid (w.alloc cuZ = w0))
    (H0 : Hid (Below w.heap.size w w0 ∧ w0.heap[w.heap.size]? = some (.cells #[.int .i32 0, .bool false, .bool false, .bool false, .int .i64 0] 71 (0, 0))))
    (CD : Hid (Calls Tryz.prog 55 #[.string s, .int .i64 a] w0 fun e w' => e = .returned (.tuple #[.int .i32 13, .int .i64 v]) ∧ Below w0.heap.size w0 w'))
    (CK : Hid (∀ W, Below w.heap.size w W → Calls Tryz.prog 58 #[.pointer (some ⟨gp, 0, none⟩), .int .i32 13] W fun e w' => e = .returned (.int .i64 k) ∧ Below W.heap.size W w'))
    (CC : Hid (∀ W, Below w.heap.size w W → Calls Tryz.prog 54 #[.pointer (some ⟨gp, 0, none⟩), .int .i32 13] W fun e w' => e = .returned (.int .i64 c) ∧ Below W.heap.size W w'))
    (CH : Hid (∀ W, Calls Tryz.prog 59 #[.int .i32 13] W fun e w' => e = .returned (.int .i64 h) ∧ w' = W)) (k3' : (k == 3) = false) (k6' : (k == 6) = false) (hc : ¬ 0 < c) :
    Calls Tryz.prog 28 #[.pointer (some ⟨gp, 0, none⟩), .string s, .int .i64 a] w fun e w' => e = .returned (cuV ⟨13, true, false, false, h⟩) ∧ Below w.heap.size w w' := by
  have hc2 : decide (0 < c) = false := decide_eq_false hc
  clear hc
  go_enter Tryz.func28, Tryz.ntmps28
  go_wp2_with fail
  rw [HW0.out]
  refine CD.out.mono ?_
  rintro e w1 ⟨rfl, hb1⟩
  have hg1 : w1.heap[w.heap.size]? = some (.cells #[.int .i32 0, .bool false, .bool false, .bool false, .int .i64 0] 71 (0, 0)) := (hb1.block _ (Array.getElem?_eq_some_iff.1 H0.out.2).1).trans H0.out.2
  have H1 : Hid (Below w.heap.size w w1 ∧ w1.heap[w.heap.size]? = some (.cells #[.int .i32 0, .bool false, .bool false, .bool false, .int .i64 0] 71 (0, 0))) := Lib.hid ⟨H0.out.1.trans (hb1.mono H0.out.1.size), hg1⟩
  clear hb1 hg1
  go_wp2_with fail
  refine (CK.out w1 H1.out.1).mono ?_
  rintro e w2 ⟨rfl, hb2⟩
  have H2 := Lib.hid (cu_keep H1.out hb2)
  clear hb2
  go_wp2_with fail
  refine (CC.out w2 H2.out.1).mono ?_
  rintro e w3 ⟨rfl, hb3⟩
  have H3 := Lib.hid (cu_keep H2.out hb3)
  clear hb3
  go_wp2_with fail
  refine (CH.out w3).mono ?_
  rintro e w9 ⟨rfl, hw9⟩
  subst hw9
  have ST := Lib.hid (cu_store ⟨13, true, false, false, h⟩ H3.out.2)
  go_wp2_with (refine wpList_store_cu rfl rfl rfl rfl rfl ST.out ?_; clear ST)
  (try simp only [Exit.inBlock, Exit.then])
  refine bodyPost_ret (results_cell_row rfl _ _ w.heap.size 71 #[.int .i32 13, .bool true, .bool false, .bool false, .int .i64 h] (0, 0) _ rfl (cuSet_at ⟨13, true, false, false, h⟩ H3.out.2) Tryz.underlying71 rfl (by kernel_rfl)) rfl ?_
  exact ⟨by congr 1, H3.out.1.trans (cuSet_below (V := w9) (Nat.le_refl _) ⟨13, true, false, false, h⟩)⟩
end Go.Proofs.YthhepebkfokddaaGreatDoor
/- cells: the unit at a place of a text: all others. -/
namespace Go.Proofs.YthhepebkfokddaaGreatDoor
open Go Go.RowKit Go.Kt

set_option maxRecDepth 100000 in
set_option maxHeartbeats 1000000 in
theorem uo3 (gp : Nat) (s : ByteArray) (a : Int) (w w0 : World) (r v h : Int) (HW0 : Hid (w.alloc cuZ = w0))
    (H0 : Hid (Below w.heap.size w w0 ∧ w0.heap[w.heap.size]? = some (.cells #[.int .i32 0, .bool false, .bool false, .bool false, .int .i64 0] 71 (0, 0))))
    (CD : Hid (Calls Tryz.prog 55 #[.string s, .int .i64 a] w0 fun e w' => e = .returned (.tuple #[.int .i32 r, .int .i64 v]) ∧ Below w0.heap.size w0 w'))
    (CK : Hid (∀ W, Below w.heap.size w W → Calls Tryz.prog 58 #[.pointer (some ⟨gp, 0, none⟩), .int .i32 r] W fun e w' => e = .returned (.int .i64 3) ∧ Below W.heap.size W w'))
    (CH : Hid (∀ W, Calls Tryz.prog 59 #[.int .i32 r] W fun e w' => e = .returned (.int .i64 h) ∧ w' = W)) (hg : (r == 65533) = false) (r10' : (r == 10) = false) (r13' : (r == 13) = false) :
    Calls Tryz.prog 28 #[.pointer (some ⟨gp, 0, none⟩), .string s, .int .i64 a] w fun e w' => e = .returned (cuV ⟨r, false, true, false, h⟩) ∧ Below w.heap.size w w' := by
  go_enter Tryz.func28, Tryz.ntmps28
  go_wp2_with fail
  rw [HW0.out]
  refine CD.out.mono ?_
  rintro e w1 ⟨rfl, hb1⟩
  have hg1 : w1.heap[w.heap.size]? = some (.cells #[.int .i32 0, .bool false, .bool false, .bool false, .int .i64 0] 71 (0, 0)) := (hb1.block _ (Array.getElem?_eq_some_iff.1 H0.out.2).1).trans H0.out.2
  have H1 : Hid (Below w.heap.size w w1 ∧ w1.heap[w.heap.size]? = some (.cells #[.int .i32 0, .bool false, .bool false, .bool false, .int .i64 0] 71 (0, 0))) := Lib.hid ⟨H0.out.1.trans (hb1.mono H0.out.1.size), hg1⟩
  clear hb1 hg1
  go_wp2_with fail
  refine (CK.out w1 H1.out.1).mono ?_
  rintro e w2 ⟨rfl, hb2⟩
  have H2 := Lib.hid (cu_keep H1.out hb2)
  clear hb2
  go_wp2_with fail
  refine (CH.out w2).mono ?_
  rintro e w9 ⟨rfl, hw9⟩
  subst hw9
  have ST := Lib.hid (cu_store ⟨r, false, true, false, h⟩ H2.out.2)
  go_wp2_with (refine wpList_store_cu rfl rfl rfl rfl rfl ST.out ?_; clear ST)
  (try simp only [Exit.inBlock, Exit.then])
  refine bodyPost_ret (results_cell_row rfl _ _ w.heap.size 71 #[.int .i32 r, .bool false, .bool true, .bool false, .int .i64 h] (0, 0) _ rfl (cuSet_at ⟨r, false, true, false, h⟩ H2.out.2) Tryz.underlying71 rfl (by kernel_rfl)) rfl ?_
  exact ⟨by congr 1, H2.out.1.trans (cuSet_below (V := w9) (Nat.le_refl _) ⟨r, false, true, false, h⟩)⟩
set_option maxRecDepth 100000 in
set_option maxHeartbeats 1000000 in
theorem uo6 (gp : Nat) (s : ByteArray) (a : Int) (w w0 : World) (r v h : Int) (HW0 : Hid (w.alloc cuZ = w0))
    (H0 : Hid (Below w.heap.size w w0 ∧ w0.heap[w.heap.size]? = some (.cells #[.int .i32 0, .bool false, .bool false, .bool false, .int .i64 0] 71 (0, 0))))
    (CD : Hid (Calls Tryz.prog 55 #[.string s, .int .i64 a] w0 fun e w' => e = .returned (.tuple #[.int .i32 r, .int .i64 v]) ∧ Below w0.heap.size w0 w'))
    (CK : Hid (∀ W, Below w.heap.size w W → Calls Tryz.prog 58 #[.pointer (some ⟨gp, 0, none⟩), .int .i32 r] W fun e w' => e = .returned (.int .i64 6) ∧ Below W.heap.size W w'))
    (CH : Hid (∀ W, Calls Tryz.prog 59 #[.int .i32 r] W fun e w' => e = .returned (.int .i64 h) ∧ w' = W)) (hg : (r == 65533) = false) (r10' : (r == 10) = false) (r13' : (r == 13) = false) :
    Calls Tryz.prog 28 #[.pointer (some ⟨gp, 0, none⟩), .string s, .int .i64 a] w fun e w' => e = .returned (cuV ⟨r, false, true, true, h⟩) ∧ Below w.heap.size w w' := by
  go_enter Tryz.func28, Tryz.ntmps28
  go_wp2_with fail
  rw [HW0.out]
  refine CD.out.mono ?_
  rintro e w1 ⟨rfl, hb1⟩
  have hg1 : w1.heap[w.heap.size]? = some (.cells #[.int .i32 0, .bool false, .bool false, .bool false, .int .i64 0] 71 (0, 0)) := (hb1.block _ (Array.getElem?_eq_some_iff.1 H0.out.2).1).trans H0.out.2
  have H1 : Hid (Below w.heap.size w w1 ∧ w1.heap[w.heap.size]? = some (.cells #[.int .i32 0, .bool false, .bool false, .bool false, .int .i64 0] 71 (0, 0))) := Lib.hid ⟨H0.out.1.trans (hb1.mono H0.out.1.size), hg1⟩
  clear hb1 hg1
  go_wp2_with fail
  refine (CK.out w1 H1.out.1).mono ?_
  rintro e w2 ⟨rfl, hb2⟩
  have H2 := Lib.hid (cu_keep H1.out hb2)
  clear hb2
  go_wp2_with fail
  refine (CH.out w2).mono ?_
  rintro e w9 ⟨rfl, hw9⟩
  subst hw9
  have ST := Lib.hid (cu_store ⟨r, false, true, true, h⟩ H2.out.2)
  go_wp2_with (refine wpList_store_cu rfl rfl rfl rfl rfl ST.out ?_; clear ST)
  (try simp only [Exit.inBlock, Exit.then])
  refine bodyPost_ret (results_cell_row rfl _ _ w.heap.size 71 #[.int .i32 r, .bool false, .bool true, .bool true, .int .i64 h] (0, 0) _ rfl (cuSet_at ⟨r, false, true, true, h⟩ H2.out.2) Tryz.underlying71 rfl (by kernel_rfl)) rfl ?_
  exact ⟨by congr 1, H2.out.1.trans (cuSet_below (V := w9) (Nat.le_refl _) ⟨r, false, true, true, h⟩)⟩
set_option maxRecDepth 100000 in
set_option maxHeartbeats 1000000 in
theorem uoc (gp : Nat) (s : ByteArray) (a : Int) (w w0 : World) (r k v c h : Int) (HW0 : Hid (w.alloc cuZ = w0))
    (H0 : Hid (Below w.heap.size w w0 ∧ w0.heap[w.heap.size]? = some (.cells #[.int .i32 0, .bool false, .bool false, .bool false, .int .i64 0] 71 (0, 0))))
    (CD : Hid (Calls Tryz.prog 55 #[.string s, .int .i64 a] w0 fun e w' => e = .returned (.tuple #[.int .i32 r, .int .i64 v]) ∧ Below w0.heap.size w0 w'))
    (CK : Hid (∀ W, Below w.heap.size w W → Calls Tryz.prog 58 #[.pointer (some ⟨gp, 0, none⟩), .int .i32 r] W fun e w' => e = .returned (.int .i64 k) ∧ Below W.heap.size W w'))
    (CC : Hid (∀ W, Below w.heap.size w W → Calls Tryz.prog 54 #[.pointer (some ⟨gp, 0, none⟩), .int .i32 r] W fun e w' => e = .returned (.int .i64 c) ∧ Below W.heap.size W w'))
    (CH : Hid (∀ W, Calls Tryz.prog 59 #[.int .i32 r] W fun e w' => e = .returned (.int .i64 h) ∧ w' = W)) (hg : (r == 65533) = false) (r10' : (r == 10) = false) (r13' : (r == 13) = false) (k3' : (k == 3) = false) (k6' : (k == 6) = false) (k5' : (k == 5) = false) (hc : 0 < c) :
    Calls Tryz.prog 28 #[.pointer (some ⟨gp, 0, none⟩), .string s, .int .i64 a] w fun e w' => e = .returned (cuV ⟨r, false, true, false, h⟩) ∧ Below w.heap.size w w' := by
  go_enter Tryz.func28, Tryz.ntmps28
  go_wp2_with fail
  rw [HW0.out]
  refine CD.out.mono ?_
  rintro e w1 ⟨rfl, hb1⟩
  have hg1 : w1.heap[w.heap.size]? = some (.cells #[.int .i32 0, .bool false, .bool false, .bool false, .int .i64 0] 71 (0, 0)) := (hb1.block _ (Array.getElem?_eq_some_iff.1 H0.out.2).1).trans H0.out.2
  have H1 : Hid (Below w.heap.size w w1 ∧ w1.heap[w.heap.size]? = some (.cells #[.int .i32 0, .bool false, .bool false, .bool false, .int .i64 0] 71 (0, 0))) := Lib.hid ⟨H0.out.1.trans (hb1.mono H0.out.1.size), hg1⟩
  clear hb1 hg1
  go_wp2_with fail
  refine (CK.out w1 H1.out.1).mono ?_
  rintro e w2 ⟨rfl, hb2⟩
  have H2 := Lib.hid (cu_keep H1.out hb2)
  clear hb2
  go_wp2_with fail
  refine (CC.out w2 H2.out.1).mono ?_
  rintro e w3 ⟨rfl, hb3⟩
  have H3 := Lib.hid (cu_keep H2.out hb3)
  clear hb3
  go_wp2_with fail
  refine (CH.out w3).mono ?_
  rintro e w9 ⟨rfl, hw9⟩
  subst hw9
  have ST := Lib.hid (cu_store ⟨r, false, true, false, h⟩ H3.out.2)
  go_wp2_with (refine wpList_store_cu rfl rfl rfl rfl rfl ST.out ?_; clear ST)
  (try simp only [Exit.inBlock, Exit.then])
  refine bodyPost_ret (results_cell_row rfl _ _ w.heap.size 71 #[.int .i32 r, .bool false, .bool true, .bool false, .int .i64 h] (0, 0) _ rfl (cuSet_at ⟨r, false, true, false, h⟩ H3.out.2) Tryz.underlying71 rfl (by kernel_rfl)) rfl ?_
  exact ⟨by congr 1, H3.out.1.trans (cuSet_below (V := w9) (Nat.le_refl _) ⟨r, false, true, false, h⟩)⟩
set_option maxRecDepth 100000 in
set_option maxHeartbeats 1000000 in
theorem uon (gp : Nat) (s : ByteArray) (a : Int) (w w0 : World) (r k v c h : Int) (HW0 : Hid (w.alloc cuZ = w0))
    (H0 : Hid (Below w.heap.size w w0 ∧ w0.heap[w.heap.size]? = some (.cells #[.int .i32 0, .bool false, .bool false, .bool false, .int .i64 0] 71 (0, 0))))
    (CD : Hid (Calls Tryz.prog 55 #[.string s, .int .i64 a] w0 fun e w' => e = .returned (.tuple #[.int .i32 r, .int .i64 v]) ∧ Below w0.heap.size w0 w'))
    (CK : Hid (∀ W, Below w.heap.size w W → Calls Tryz.prog 58 #[.pointer (some ⟨gp, 0, none⟩), .int .i32 r] W fun e w' => e = .returned (.int .i64 k) ∧ Below W.heap.size W w'))
    (CC : Hid (∀ W, Below w.heap.size w W → Calls Tryz.prog 54 #[.pointer (some ⟨gp, 0, none⟩), .int .i32 r] W fun e w' => e = .returned (.int .i64 c) ∧ Below W.heap.size W w'))
    (CH : Hid (∀ W, Calls Tryz.prog 59 #[.int .i32 r] W fun e w' => e = .returned (.int .i64 h) ∧ w' = W)) (hg : (r == 65533) = false) (r10' : (r == 10) = false) (r13' : (r == 13) = false) (k3' : (k == 3) = false) (k6' : (k == 6) = false) (k5' : (k == 5) = false) (hc : ¬ 0 < c) :
    Calls Tryz.prog 28 #[.pointer (some ⟨gp, 0, none⟩), .string s, .int .i64 a] w fun e w' => e = .returned (cuV ⟨r, false, false, false, h⟩) ∧ Below w.heap.size w w' := by
  have hc2 : decide (0 < c) = false := decide_eq_false hc
  clear hc
  go_enter Tryz.func28, Tryz.ntmps28
  go_wp2_with fail
  rw [HW0.out]
  refine CD.out.mono ?_
  rintro e w1 ⟨rfl, hb1⟩
  have hg1 : w1.heap[w.heap.size]? = some (.cells #[.int .i32 0, .bool false, .bool false, .bool false, .int .i64 0] 71 (0, 0)) := (hb1.block _ (Array.getElem?_eq_some_iff.1 H0.out.2).1).trans H0.out.2
  have H1 : Hid (Below w.heap.size w w1 ∧ w1.heap[w.heap.size]? = some (.cells #[.int .i32 0, .bool false, .bool false, .bool false, .int .i64 0] 71 (0, 0))) := Lib.hid ⟨H0.out.1.trans (hb1.mono H0.out.1.size), hg1⟩
  clear hb1 hg1
  go_wp2_with fail
  refine (CK.out w1 H1.out.1).mono ?_
  rintro e w2 ⟨rfl, hb2⟩
  have H2 := Lib.hid (cu_keep H1.out hb2)
  clear hb2
  go_wp2_with fail
  refine (CC.out w2 H2.out.1).mono ?_
  rintro e w3 ⟨rfl, hb3⟩
  have H3 := Lib.hid (cu_keep H2.out hb3)
  clear hb3
  go_wp2_with fail
  refine (CH.out w3).mono ?_
  rintro e w9 ⟨rfl, hw9⟩
  subst hw9
  have ST := Lib.hid (cu_store ⟨r, false, false, false, h⟩ H3.out.2)
  go_wp2_with (refine wpList_store_cu rfl rfl rfl rfl rfl ST.out ?_; clear ST)
  (try simp only [Exit.inBlock, Exit.then])
  refine bodyPost_ret (results_cell_row rfl _ _ w.heap.size 71 #[.int .i32 r, .bool false, .bool false, .bool false, .int .i64 h] (0, 0) _ rfl (cuSet_at ⟨r, false, false, false, h⟩ H3.out.2) Tryz.underlying71 rfl (by kernel_rfl)) rfl ?_
  exact ⟨by congr 1, H3.out.1.trans (cuSet_below (V := w9) (Nat.le_refl _) ⟨r, false, false, false, h⟩)⟩
set_option maxRecDepth 100000 in
set_option maxHeartbeats 1000000 in
theorem uo5c (gp : Nat) (s : ByteArray) (a : Int) (w w0 : World) (r v c h : Int) (HW0 : Hid (w.alloc cuZ = w0))
    (H0 : Hid (Below w.heap.size w w0 ∧ w0.heap[w.heap.size]? = some (.cells #[.int .i32 0, .bool false, .bool false, .bool false, .int .i64 0] 71 (0, 0))))
    (CD : Hid (Calls Tryz.prog 55 #[.string s, .int .i64 a] w0 fun e w' => e = .returned (.tuple #[.int .i32 r, .int .i64 v]) ∧ Below w0.heap.size w0 w'))
    (CK : Hid (∀ W, Below w.heap.size w W → Calls Tryz.prog 58 #[.pointer (some ⟨gp, 0, none⟩), .int .i32 r] W fun e w' => e = .returned (.int .i64 5) ∧ Below W.heap.size W w'))
    (CC : Hid (∀ W, Below w.heap.size w W → Calls Tryz.prog 54 #[.pointer (some ⟨gp, 0, none⟩), .int .i32 r] W fun e w' => e = .returned (.int .i64 c) ∧ Below W.heap.size W w'))
    (CH : Hid (∀ W, Calls Tryz.prog 59 #[.int .i32 r] W fun e w' => e = .returned (.int .i64 h) ∧ w' = W)) (hg : (r == 65533) = false) (r10' : (r == 10) = false) (r13' : (r == 13) = false) (hc : 0 < c) :
    Calls Tryz.prog 28 #[.pointer (some ⟨gp, 0, none⟩), .string s, .int .i64 a] w fun e w' => e = .returned (cuV ⟨r, true, true, false, h⟩) ∧ Below w.heap.size w w' := by
  go_enter Tryz.func28, Tryz.ntmps28
  go_wp2_with fail
  rw [HW0.out]
  refine CD.out.mono ?_
  rintro e w1 ⟨rfl, hb1⟩
  have hg1 : w1.heap[w.heap.size]? = some (.cells #[.int .i32 0, .bool false, .bool false, .bool false, .int .i64 0] 71 (0, 0)) := (hb1.block _ (Array.getElem?_eq_some_iff.1 H0.out.2).1).trans H0.out.2
  have H1 : Hid (Below w.heap.size w w1 ∧ w1.heap[w.heap.size]? = some (.cells #[.int .i32 0, .bool false, .bool false, .bool false, .int .i64 0] 71 (0, 0))) := Lib.hid ⟨H0.out.1.trans (hb1.mono H0.out.1.size), hg1⟩
  clear hb1 hg1
  go_wp2_with fail
  refine (CK.out w1 H1.out.1).mono ?_
  rintro e w2 ⟨rfl, hb2⟩
  have H2 := Lib.hid (cu_keep H1.out hb2)
  clear hb2
  go_wp2_with fail
  refine (CC.out w2 H2.out.1).mono ?_
  rintro e w3 ⟨rfl, hb3⟩
  have H3 := Lib.hid (cu_keep H2.out hb3)
  clear hb3
  go_wp2_with fail
  refine (CH.out w3).mono ?_
  rintro e w9 ⟨rfl, hw9⟩
  subst hw9
  have ST := Lib.hid (cu_store ⟨r, true, true, false, h⟩ H3.out.2)
  go_wp2_with (refine wpList_store_cu rfl rfl rfl rfl rfl ST.out ?_; clear ST)
  (try simp only [Exit.inBlock, Exit.then])
  refine bodyPost_ret (results_cell_row rfl _ _ w.heap.size 71 #[.int .i32 r, .bool true, .bool true, .bool false, .int .i64 h] (0, 0) _ rfl (cuSet_at ⟨r, true, true, false, h⟩ H3.out.2) Tryz.underlying71 rfl (by kernel_rfl)) rfl ?_
  exact ⟨by congr 1, H3.out.1.trans (cuSet_below (V := w9) (Nat.le_refl _) ⟨r, true, true, false, h⟩)⟩
set_option maxRecDepth 100000 in
set_option maxHeartbeats 1000000 in
theorem uo5n (gp : Nat) (s : ByteArray) (a : Int) (w w0 : World) (r v c h : Int) (HW0 : Hid (w.alloc cuZ = w0))
    (H0 : Hid (Below w.heap.size w w0 ∧ w0.heap[w.heap.size]? = some (.cells #[.int .i32 0, .bool false, .bool false, .bool false, .int .i64 0] 71 (0, 0))))
    (CD : Hid (Calls Tryz.prog 55 #[.string s, .int .i64 a] w0 fun e w' => e = .returned (.tuple #[.int .i32 r, .int .i64 v]) ∧ Below w0.heap.size w0 w'))
    (CK : Hid (∀ W, Below w.heap.size w W → Calls Tryz.prog 58 #[.pointer (some ⟨gp, 0, none⟩), .int .i32 r] W fun e w' => e = .returned (.int .i64 5) ∧ Below W.heap.size W w'))
    (CC : Hid (∀ W, Below w.heap.size w W → Calls Tryz.prog 54 #[.pointer (some ⟨gp, 0, none⟩), .int .i32 r] W fun e w' => e = .returned (.int .i64 c) ∧ Below W.heap.size W w'))
    (CH : Hid (∀ W, Calls Tryz.prog 59 #[.int .i32 r] W fun e w' => e = .returned (.int .i64 h) ∧ w' = W)) (hg : (r == 65533) = false) (r10' : (r == 10) = false) (r13' : (r == 13) = false) (hc : ¬ 0 < c) :
    Calls Tryz.prog 28 #[.pointer (some ⟨gp, 0, none⟩), .string s, .int .i64 a] w fun e w' => e = .returned (cuV ⟨r, true, false, false, h⟩) ∧ Below w.heap.size w w' := by
  have hc2 : decide (0 < c) = false := decide_eq_false hc
  clear hc
  go_enter Tryz.func28, Tryz.ntmps28
  go_wp2_with fail
  rw [HW0.out]
  refine CD.out.mono ?_
  rintro e w1 ⟨rfl, hb1⟩
  have hg1 : w1.heap[w.heap.size]? = some (.cells #[.int .i32 0, .bool false, .bool false, .bool false, .int .i64 0] 71 (0, 0)) := (hb1.block _ (Array.getElem?_eq_some_iff.1 H0.out.2).1).trans H0.out.2
  have H1 : Hid (Below w.heap.size w w1 ∧ w1.heap[w.heap.size]? = some (.cells #[.int .i32 0, .bool false, .bool false, .bool false, .int .i64 0] 71 (0, 0))) := Lib.hid ⟨H0.out.1.trans (hb1.mono H0.out.1.size), hg1⟩
  clear hb1 hg1
  go_wp2_with fail
  refine (CK.out w1 H1.out.1).mono ?_
  rintro e w2 ⟨rfl, hb2⟩
  have H2 := Lib.hid (cu_keep H1.out hb2)
  clear hb2
  go_wp2_with fail
  refine (CC.out w2 H2.out.1).mono ?_
  rintro e w3 ⟨rfl, hb3⟩
  have H3 := Lib.hid (cu_keep H2.out hb3)
  clear hb3
  go_wp2_with fail
  refine (CH.out w3).mono ?_
  rintro e w9 ⟨rfl, hw9⟩
  subst hw9
  have ST := Lib.hid (cu_store ⟨r, true, false, false, h⟩ H3.out.2)
  go_wp2_with (refine wpList_store_cu rfl rfl rfl rfl rfl ST.out ?_; clear ST)
  (try simp only [Exit.inBlock, Exit.then])
  refine bodyPost_ret (results_cell_row rfl _ _ w.heap.size 71 #[.int .i32 r, .bool true, .bool false, .bool false, .int .i64 h] (0, 0) _ rfl (cuSet_at ⟨r, true, false, false, h⟩ H3.out.2) Tryz.underlying71 rfl (by kernel_rfl)) rfl ?_
  exact ⟨by congr 1, H3.out.1.trans (cuSet_below (V := w9) (Nat.le_refl _) ⟨r, true, false, false, h⟩)⟩
end Go.Proofs.YthhepebkfokddaaGreatDoor
/- cells: the unit at a place of a text: U+FFFD. -/
namespace Go.Proofs.YthhepebkfokddaaGreatDoor
open Go Go.RowKit Go.Kt

set_option maxRecDepth 100000 in
set_option maxHeartbeats 1000000 in
theorem uf3 (gp : Nat) (s : ByteArray) (a : Int) (w w0 : World) (v h : Int) (HW0 : Hid (w.alloc cuZ = w0))
    (H0 : Hid (Below w.heap.size w w0 ∧ w0.heap[w.heap.size]? = some (.cells #[.int .i32 0, .bool false, .bool false, .bool false, .int .i64 0] 71 (0, 0))))
    (CD : Hid (Calls Tryz.prog 55 #[.string s, .int .i64 a] w0 fun e w' => e = .returned (.tuple #[.int .i32 65533, .int .i64 v]) ∧ Below w0.heap.size w0 w'))
    (CK : Hid (∀ W, Below w.heap.size w W → Calls Tryz.prog 58 #[.pointer (some ⟨gp, 0, none⟩), .int .i32 65533] W fun e w' => e = .returned (.int .i64 3) ∧ Below W.heap.size W w'))
    (CH : Hid (∀ W, Calls Tryz.prog 59 #[.int .i32 65533] W fun e w' => e = .returned (.int .i64 h) ∧ w' = W)) (hg2 : (v == 1) = false) :
    Calls Tryz.prog 28 #[.pointer (some ⟨gp, 0, none⟩), .string s, .int .i64 a] w fun e w' => e = .returned (cuV ⟨65533, false, true, false, h⟩) ∧ Below w.heap.size w w' := by
  go_enter Tryz.func28, Tryz.ntmps28
  go_wp2_with fail
  rw [HW0.out]
  refine CD.out.mono ?_
  rintro e w1 ⟨rfl, hb1⟩
  have hg1 : w1.heap[w.heap.size]? = some (.cells #[.int .i32 0, .bool false, .bool false, .bool false, .int .i64 0] 71 (0, 0)) := (hb1.block _ (Array.getElem?_eq_some_iff.1 H0.out.2).1).trans H0.out.2
  have H1 : Hid (Below w.heap.size w w1 ∧ w1.heap[w.heap.size]? = some (.cells #[.int .i32 0, .bool false, .bool false, .bool false, .int .i64 0] 71 (0, 0))) := Lib.hid ⟨H0.out.1.trans (hb1.mono H0.out.1.size), hg1⟩
  clear hb1 hg1
  go_wp2_with fail
  refine (CK.out w1 H1.out.1).mono ?_
  rintro e w2 ⟨rfl, hb2⟩
  have H2 := Lib.hid (cu_keep H1.out hb2)
  clear hb2
  go_wp2_with fail
  refine (CH.out w2).mono ?_
  rintro e w9 ⟨rfl, hw9⟩
  subst hw9
  have ST := Lib.hid (cu_store ⟨65533, false, true, false, h⟩ H2.out.2)
  go_wp2_with (refine wpList_store_cu rfl rfl rfl rfl rfl ST.out ?_; clear ST)
  (try simp only [Exit.inBlock, Exit.then])
  refine bodyPost_ret (results_cell_row rfl _ _ w.heap.size 71 #[.int .i32 65533, .bool false, .bool true, .bool false, .int .i64 h] (0, 0) _ rfl (cuSet_at ⟨65533, false, true, false, h⟩ H2.out.2) Tryz.underlying71 rfl (by kernel_rfl)) rfl ?_
  exact ⟨by congr 1, H2.out.1.trans (cuSet_below (V := w9) (Nat.le_refl _) ⟨65533, false, true, false, h⟩)⟩
set_option maxRecDepth 100000 in
set_option maxHeartbeats 1000000 in
theorem uf6 (gp : Nat) (s : ByteArray) (a : Int) (w w0 : World) (v h : Int) (HW0 : Hid (w.alloc cuZ = w0))
    (H0 : Hid (Below w.heap.size w w0 ∧ w0.heap[w.heap.size]? = some (.cells #[.int .i32 0, .bool false, .bool false, .bool false, .int .i64 0] 71 (0, 0))))
    (CD : Hid (Calls Tryz.prog 55 #[.string s, .int .i64 a] w0 fun e w' => e = .returned (.tuple #[.int .i32 65533, .int .i64 v]) ∧ Below w0.heap.size w0 w'))
    (CK : Hid (∀ W, Below w.heap.size w W → Calls Tryz.prog 58 #[.pointer (some ⟨gp, 0, none⟩), .int .i32 65533] W fun e w' => e = .returned (.int .i64 6) ∧ Below W.heap.size W w'))
    (CH : Hid (∀ W, Calls Tryz.prog 59 #[.int .i32 65533] W fun e w' => e = .returned (.int .i64 h) ∧ w' = W)) (hg2 : (v == 1) = false) :
    Calls Tryz.prog 28 #[.pointer (some ⟨gp, 0, none⟩), .string s, .int .i64 a] w fun e w' => e = .returned (cuV ⟨65533, false, true, true, h⟩) ∧ Below w.heap.size w w' := by
  go_enter Tryz.func28, Tryz.ntmps28
  go_wp2_with fail
  rw [HW0.out]
  refine CD.out.mono ?_
  rintro e w1 ⟨rfl, hb1⟩
  have hg1 : w1.heap[w.heap.size]? = some (.cells #[.int .i32 0, .bool false, .bool false, .bool false, .int .i64 0] 71 (0, 0)) := (hb1.block _ (Array.getElem?_eq_some_iff.1 H0.out.2).1).trans H0.out.2
  have H1 : Hid (Below w.heap.size w w1 ∧ w1.heap[w.heap.size]? = some (.cells #[.int .i32 0, .bool false, .bool false, .bool false, .int .i64 0] 71 (0, 0))) := Lib.hid ⟨H0.out.1.trans (hb1.mono H0.out.1.size), hg1⟩
  clear hb1 hg1
  go_wp2_with fail
  refine (CK.out w1 H1.out.1).mono ?_
  rintro e w2 ⟨rfl, hb2⟩
  have H2 := Lib.hid (cu_keep H1.out hb2)
  clear hb2
  go_wp2_with fail
  refine (CH.out w2).mono ?_
  rintro e w9 ⟨rfl, hw9⟩
  subst hw9
  have ST := Lib.hid (cu_store ⟨65533, false, true, true, h⟩ H2.out.2)
  go_wp2_with (refine wpList_store_cu rfl rfl rfl rfl rfl ST.out ?_; clear ST)
  (try simp only [Exit.inBlock, Exit.then])
  refine bodyPost_ret (results_cell_row rfl _ _ w.heap.size 71 #[.int .i32 65533, .bool false, .bool true, .bool true, .int .i64 h] (0, 0) _ rfl (cuSet_at ⟨65533, false, true, true, h⟩ H2.out.2) Tryz.underlying71 rfl (by kernel_rfl)) rfl ?_
  exact ⟨by congr 1, H2.out.1.trans (cuSet_below (V := w9) (Nat.le_refl _) ⟨65533, false, true, true, h⟩)⟩
set_option maxRecDepth 100000 in
set_option maxHeartbeats 1000000 in
theorem ufc (gp : Nat) (s : ByteArray) (a : Int) (w w0 : World) (k v c h : Int) (HW0 : Hid (w.alloc cuZ = w0))
    (H0 : Hid (Below w.heap.size w w0 ∧ w0.heap[w.heap.size]? = some (.cells #[.int .i32 0, .bool false, .bool false, .bool false, .int .i64 0] 71 (0, 0))))
    (CD : Hid (Calls Tryz.prog 55 #[.string s, .int .i64 a] w0 fun e w' => e = .returned (.tuple #[.int .i32 65533, .int .i64 v]) ∧ Below w0.heap.size w0 w'))
    (CK : Hid (∀ W, Below w.heap.size w W → Calls Tryz.prog 58 #[.pointer (some ⟨gp, 0, none⟩), .int .i32 65533] W fun e w' => e = .returned (.int .i64 k) ∧ Below W.heap.size W w'))
    (CC : Hid (∀ W, Below w.heap.size w W → Calls Tryz.prog 54 #[.pointer (some ⟨gp, 0, none⟩), .int .i32 65533] W fun e w' => e = .returned (.int .i64 c) ∧ Below W.heap.size W w'))
    (CH : Hid (∀ W, Calls Tryz.prog 59 #[.int .i32 65533] W fun e w' => e = .returned (.int .i64 h) ∧ w' = W)) (hg2 : (v == 1) = false) (k3' : (k == 3) = false) (k6' : (k == 6) = false) (k5' : (k == 5) = false) (hc : 0 < c) :
    Calls Tryz.prog 28 #[.pointer (some ⟨gp, 0, none⟩), .string s, .int .i64 a] w fun e w' => e = .returned (cuV ⟨65533, false, true, false, h⟩) ∧ Below w.heap.size w w' := by
  go_enter Tryz.func28, Tryz.ntmps28
  go_wp2_with fail
  rw [HW0.out]
  refine CD.out.mono ?_
  rintro e w1 ⟨rfl, hb1⟩
  have hg1 : w1.heap[w.heap.size]? = some (.cells #[.int .i32 0, .bool false, .bool false, .bool false, .int .i64 0] 71 (0, 0)) := (hb1.block _ (Array.getElem?_eq_some_iff.1 H0.out.2).1).trans H0.out.2
  have H1 : Hid (Below w.heap.size w w1 ∧ w1.heap[w.heap.size]? = some (.cells #[.int .i32 0, .bool false, .bool false, .bool false, .int .i64 0] 71 (0, 0))) := Lib.hid ⟨H0.out.1.trans (hb1.mono H0.out.1.size), hg1⟩
  clear hb1 hg1
  go_wp2_with fail
  refine (CK.out w1 H1.out.1).mono ?_
  rintro e w2 ⟨rfl, hb2⟩
  have H2 := Lib.hid (cu_keep H1.out hb2)
  clear hb2
  go_wp2_with fail
  refine (CC.out w2 H2.out.1).mono ?_
  rintro e w3 ⟨rfl, hb3⟩
  have H3 := Lib.hid (cu_keep H2.out hb3)
  clear hb3
  go_wp2_with fail
  refine (CH.out w3).mono ?_
  rintro e w9 ⟨rfl, hw9⟩
  subst hw9
  have ST := Lib.hid (cu_store ⟨65533, false, true, false, h⟩ H3.out.2)
  go_wp2_with (refine wpList_store_cu rfl rfl rfl rfl rfl ST.out ?_; clear ST)
  (try simp only [Exit.inBlock, Exit.then])
  refine bodyPost_ret (results_cell_row rfl _ _ w.heap.size 71 #[.int .i32 65533, .bool false, .bool true, .bool false, .int .i64 h] (0, 0) _ rfl (cuSet_at ⟨65533, false, true, false, h⟩ H3.out.2) Tryz.underlying71 rfl (by kernel_rfl)) rfl ?_
  exact ⟨by congr 1, H3.out.1.trans (cuSet_below (V := w9) (Nat.le_refl _) ⟨65533, false, true, false, h⟩)⟩
set_option maxRecDepth 100000 in
set_option maxHeartbeats 1000000 in
theorem ufn (gp : Nat) (s : ByteArray) (a : Int) (w w0 : World) (k v c h : Int) (HW0 : Hid (w.alloc cuZ = w0))
    (H0 : Hid (Below w.heap.size w w0 ∧ w0.heap[w.heap.size]? = some (.cells #[.int .i32 0, .bool false, .bool false, .bool false, .int .i64 0] 71 (0, 0))))
    (CD : Hid (Calls Tryz.prog 55 #[.string s, .int .i64 a] w0 fun e w' => e = .returned (.tuple #[.int .i32 65533, .int .i64 v]) ∧ Below w0.heap.size w0 w'))
    (CK : Hid (∀ W, Below w.heap.size w W → Calls Tryz.prog 58 #[.pointer (some ⟨gp, 0, none⟩), .int .i32 65533] W fun e w' => e = .returned (.int .i64 k) ∧ Below W.heap.size W w'))
    (CC : Hid (∀ W, Below w.heap.size w W → Calls Tryz.prog 54 #[.pointer (some ⟨gp, 0, none⟩), .int .i32 65533] W fun e w' => e = .returned (.int .i64 c) ∧ Below W.heap.size W w'))
    (CH : Hid (∀ W, Calls Tryz.prog 59 #[.int .i32 65533] W fun e w' => e = .returned (.int .i64 h) ∧ w' = W)) (hg2 : (v == 1) = false) (k3' : (k == 3) = false) (k6' : (k == 6) = false) (k5' : (k == 5) = false) (hc : ¬ 0 < c) :
    Calls Tryz.prog 28 #[.pointer (some ⟨gp, 0, none⟩), .string s, .int .i64 a] w fun e w' => e = .returned (cuV ⟨65533, false, false, false, h⟩) ∧ Below w.heap.size w w' := by
  have hc2 : decide (0 < c) = false := decide_eq_false hc
  clear hc
  go_enter Tryz.func28, Tryz.ntmps28
  go_wp2_with fail
  rw [HW0.out]
  refine CD.out.mono ?_
  rintro e w1 ⟨rfl, hb1⟩
  have hg1 : w1.heap[w.heap.size]? = some (.cells #[.int .i32 0, .bool false, .bool false, .bool false, .int .i64 0] 71 (0, 0)) := (hb1.block _ (Array.getElem?_eq_some_iff.1 H0.out.2).1).trans H0.out.2
  have H1 : Hid (Below w.heap.size w w1 ∧ w1.heap[w.heap.size]? = some (.cells #[.int .i32 0, .bool false, .bool false, .bool false, .int .i64 0] 71 (0, 0))) := Lib.hid ⟨H0.out.1.trans (hb1.mono H0.out.1.size), hg1⟩
  clear hb1 hg1
  go_wp2_with fail
  refine (CK.out w1 H1.out.1).mono ?_
  rintro e w2 ⟨rfl, hb2⟩
  have H2 := Lib.hid (cu_keep H1.out hb2)
  clear hb2
  go_wp2_with fail
  refine (CC.out w2 H2.out.1).mono ?_
  rintro e w3 ⟨rfl, hb3⟩
  have H3 := Lib.hid (cu_keep H2.out hb3)
  clear hb3
  go_wp2_with fail
  refine (CH.out w3).mono ?_
  rintro e w9 ⟨rfl, hw9⟩
  subst hw9
  have ST := Lib.hid (cu_store ⟨65533, false, false, false, h⟩ H3.out.2)
  go_wp2_with (refine wpList_store_cu rfl rfl rfl rfl rfl ST.out ?_; clear ST)
  (try simp only [Exit.inBlock, Exit.then])
  refine bodyPost_ret (results_cell_row rfl _ _ w.heap.size 71 #[.int .i32 65533, .bool false, .bool false, .bool false, .int .i64 h] (0, 0) _ rfl (cuSet_at ⟨65533, false, false, false, h⟩ H3.out.2) Tryz.underlying71 rfl (by kernel_rfl)) rfl ?_
  exact ⟨by congr 1, H3.out.1.trans (cuSet_below (V := w9) (Nat.le_refl _) ⟨65533, false, false, false, h⟩)⟩
set_option maxRecDepth 100000 in
set_option maxHeartbeats 1000000 in
theorem uf5c (gp : Nat) (s : ByteArray) (a : Int) (w w0 : World) (v c h : Int) (HW0 : Hid (w.alloc cuZ = w0))
    (H0 : Hid (Below w.heap.size w w0 ∧ w0.heap[w.heap.size]? = some (.cells #[.int .i32 0, .bool false, .bool false, .bool false, .int .i64 0] 71 (0, 0))))
    (CD : Hid (Calls Tryz.prog 55 #[.string s, .int .i64 a] w0 fun e w' => e = .returned (.tuple #[.int .i32 65533, .int .i64 v]) ∧ Below w0.heap.size w0 w'))
    (CK : Hid (∀ W, Below w.heap.size w W → Calls Tryz.prog 58 #[.pointer (some ⟨gp, 0, none⟩), .int .i32 65533] W fun e w' => e = .returned (.int .i64 5) ∧ Below W.heap.size W w'))
    (CC : Hid (∀ W, Below w.heap.size w W → Calls Tryz.prog 54 #[.pointer (some ⟨gp, 0, none⟩), .int .i32 65533] W fun e w' => e = .returned (.int .i64 c) ∧ Below W.heap.size W w'))
    (CH : Hid (∀ W, Calls Tryz.prog 59 #[.int .i32 65533] W fun e w' => e = .returned (.int .i64 h) ∧ w' = W)) (hg2 : (v == 1) = false) (hc : 0 < c) :
    Calls Tryz.prog 28 #[.pointer (some ⟨gp, 0, none⟩), .string s, .int .i64 a] w fun e w' => e = .returned (cuV ⟨65533, true, true, false, h⟩) ∧ Below w.heap.size w w' := by
  go_enter Tryz.func28, Tryz.ntmps28
  go_wp2_with fail
  rw [HW0.out]
  refine CD.out.mono ?_
  rintro e w1 ⟨rfl, hb1⟩
  have hg1 : w1.heap[w.heap.size]? = some (.cells #[.int .i32 0, .bool false, .bool false, .bool false, .int .i64 0] 71 (0, 0)) := (hb1.block _ (Array.getElem?_eq_some_iff.1 H0.out.2).1).trans H0.out.2
  have H1 : Hid (Below w.heap.size w w1 ∧ w1.heap[w.heap.size]? = some (.cells #[.int .i32 0, .bool false, .bool false, .bool false, .int .i64 0] 71 (0, 0))) := Lib.hid ⟨H0.out.1.trans (hb1.mono H0.out.1.size), hg1⟩
  clear hb1 hg1
  go_wp2_with fail
  refine (CK.out w1 H1.out.1).mono ?_
  rintro e w2 ⟨rfl, hb2⟩
  have H2 := Lib.hid (cu_keep H1.out hb2)
  clear hb2
  go_wp2_with fail
  refine (CC.out w2 H2.out.1).mono ?_
  rintro e w3 ⟨rfl, hb3⟩
  have H3 := Lib.hid (cu_keep H2.out hb3)
  clear hb3
  go_wp2_with fail
  refine (CH.out w3).mono ?_
  rintro e w9 ⟨rfl, hw9⟩
  subst hw9
  have ST := Lib.hid (cu_store ⟨65533, true, true, false, h⟩ H3.out.2)
  go_wp2_with (refine wpList_store_cu rfl rfl rfl rfl rfl ST.out ?_; clear ST)
  (try simp only [Exit.inBlock, Exit.then])
  refine bodyPost_ret (results_cell_row rfl _ _ w.heap.size 71 #[.int .i32 65533, .bool true, .bool true, .bool false, .int .i64 h] (0, 0) _ rfl (cuSet_at ⟨65533, true, true, false, h⟩ H3.out.2) Tryz.underlying71 rfl (by kernel_rfl)) rfl ?_
  exact ⟨by congr 1, H3.out.1.trans (cuSet_below (V := w9) (Nat.le_refl _) ⟨65533, true, true, false, h⟩)⟩
set_option maxRecDepth 100000 in
set_option maxHeartbeats 1000000 in
theorem uf5n (gp : Nat) (s : ByteArray) (a : Int) (w w0 : World) (v c h : Int) (HW0 : Hid (w.alloc cuZ = w0))
    (H0 : Hid (Below w.heap.size w w0 ∧ w0.heap[w.heap.size]? = some (.cells #[.int .i32 0, .bool false, .bool false, .bool false, .int .i64 0] 71 (0, 0))))
    (CD : Hid (Calls Tryz.prog 55 #[.string s, .int .i64 a] w0 fun e w' => e = .returned (.tuple #[.int .i32 65533, .int .i64 v]) ∧ Below w0.heap.size w0 w'))
    (CK : Hid (∀ W, Below w.heap.size w W → Calls Tryz.prog 58 #[.pointer (some ⟨gp, 0, none⟩), .int .i32 65533] W fun e w' => e = .returned (.int .i64 5) ∧ Below W.heap.size W w'))
    (CC : Hid (∀ W, Below w.heap.size w W → Calls Tryz.prog 54 #[.pointer (some ⟨gp, 0, none⟩), .int .i32 65533] W fun e w' => e = .returned (.int .i64 c) ∧ Below W.heap.size W w'))
    (CH : Hid (∀ W, Calls Tryz.prog 59 #[.int .i32 65533] W fun e w' => e = .returned (.int .i64 h) ∧ w' = W)) (hg2 : (v == 1) = false) (hc : ¬ 0 < c) :
    Calls Tryz.prog 28 #[.pointer (some ⟨gp, 0, none⟩), .string s, .int .i64 a] w fun e w' => e = .returned (cuV ⟨65533, true, false, false, h⟩) ∧ Below w.heap.size w w' := by
  have hc2 : decide (0 < c) = false := decide_eq_false hc
  clear hc
  go_enter Tryz.func28, Tryz.ntmps28
  go_wp2_with fail
  rw [HW0.out]
  refine CD.out.mono ?_
  rintro e w1 ⟨rfl, hb1⟩
  have hg1 : w1.heap[w.heap.size]? = some (.cells #[.int .i32 0, .bool false, .bool false, .bool false, .int .i64 0] 71 (0, 0)) := (hb1.block _ (Array.getElem?_eq_some_iff.1 H0.out.2).1).trans H0.out.2
  have H1 : Hid (Below w.heap.size w w1 ∧ w1.heap[w.heap.size]? = some (.cells #[.int .i32 0, .bool false, .bool false, .bool false, .int .i64 0] 71 (0, 0))) := Lib.hid ⟨H0.out.1.trans (hb1.mono H0.out.1.size), hg1⟩
  clear hb1 hg1
  go_wp2_with fail
  refine (CK.out w1 H1.out.1).mono ?_
  rintro e w2 ⟨rfl, hb2⟩
  have H2 := Lib.hid (cu_keep H1.out hb2)
  clear hb2
  go_wp2_with fail
  refine (CC.out w2 H2.out.1).mono ?_
  rintro e w3 ⟨rfl, hb3⟩
  have H3 := Lib.hid (cu_keep H2.out hb3)
  clear hb3
  go_wp2_with fail
  refine (CH.out w3).mono ?_
  rintro e w9 ⟨rfl, hw9⟩
  subst hw9
  have ST := Lib.hid (cu_store ⟨65533, true, false, false, h⟩ H3.out.2)
  go_wp2_with (refine wpList_store_cu rfl rfl rfl rfl rfl ST.out ?_; clear ST)
  (try simp only [Exit.inBlock, Exit.then])
  refine bodyPost_ret (results_cell_row rfl _ _ w.heap.size 71 #[.int .i32 65533, .bool true, .bool false, .bool false, .int .i64 h] (0, 0) _ rfl (cuSet_at ⟨65533, true, false, false, h⟩ H3.out.2) Tryz.underlying71 rfl (by kernel_rfl)) rfl ?_
  exact ⟨by congr 1, H3.out.1.trans (cuSet_below (V := w9) (Nat.le_refl _) ⟨65533, true, false, false, h⟩)⟩
end Go.Proofs.YthhepebkfokddaaGreatDoor
