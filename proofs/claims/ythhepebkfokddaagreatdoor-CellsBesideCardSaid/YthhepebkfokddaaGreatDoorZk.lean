/- The document's answer for props: a line of fold or decomp: what the walk stands on. -/
import Derived.Test.YthhepebkfokddaaGreatDoorZe
import Derived.Test.YthhepebkfokddaaGreatDoorZj
namespace Go.Proofs.YthhepebkfokddaaGreatDoor
open Go Go.RowKit Go.Kt Go.Kt.Rg Go.Maps

theorem pnt_ok {u : List UInt8} (h : (pntP u).2 = 0) : ∃ n : Nat, pntP u = ((n : Int), 0) ∧ numP u = some n ∧ Lib.validRune (n : Int) = true := by
  unfold pntP at h ⊢
  cases hn : numP u with
  | none => rw [hn] at h; cases h
  | some n =>
    rw [hn] at h
    simp only at h ⊢
    cases hv : Lib.validRune (n : Int) with
    | false => rw [if_pos hv] at h; cases h
    | true => exact ⟨n, by rw [if_neg (by decide)], rfl, hv⟩
theorem pnt_bad {u : List UInt8} (h : (pntP u).2 ≠ 0) (acc : List Nat) (r : List (List UInt8)) : ptsA acc (u :: r) = ((pntP u).2, []) := by
  unfold pntP at h ⊢
  cases hn : numP u with
  | none => rw [ptsA_no hn]
  | some n =>
    rw [hn] at h
    simp only at h ⊢
    cases hv : Lib.validRune (n : Int) with
    | false => rw [ptsA_bad hn hv, if_pos rfl]
    | true => rw [hv, if_neg (by decide)] at h; exact absurd rfl h
def PtI (t : List (List UInt8)) (j : Nat) (acc : List Nat) : Prop := ptsA [] t = ptsA acc (t.drop j) ∧ acc.length = j ∧ ∀ z ∈ acc, z ≤ 1114111
theorem ptI0 (t : List (List UInt8)) : PtI t 0 [] := ⟨by rw [List.drop_zero], rfl, fun z h => by cases h⟩
theorem PtI.step {t : List (List UInt8)} {j n : Nat} {acc : List Nat} {u : List UInt8} (h : PtI t j acc) (hu : t[j]? = some u) (hn : numP u = some n) (hv : Lib.validRune (n : Int) = true) : PtI t (j + 1) (acc ++ [n]) := by
  obtain ⟨h1, h2, h3⟩ := h
  obtain ⟨q1, q2⟩ := List.getElem?_eq_some_iff.1 hu
  refine ⟨?_, by simp [h2], fun z hz => ?_⟩
  · rw [h1, List.drop_eq_getElem_cons q1, q2, ptsA_go hn hv]
  · rcases List.mem_append.1 hz with hz | hz
    · exact h3 z hz
    · rw [List.mem_singleton.1 hz]; exact valid_le hv
theorem PtI.bad {t : List (List UInt8)} {j : Nat} {acc : List Nat} {u : List UInt8} (h : PtI t j acc) (hu : t[j]? = some u) (hb : (pntP u).2 ≠ 0) (h9 : t.length ≤ 9) : ptsP t = ((pntP u).2, []) := by
  obtain ⟨q1, q2⟩ := List.getElem?_eq_some_iff.1 hu
  unfold ptsP
  rw [if_neg (by omega), h.1, List.drop_eq_getElem_cons q1, q2, pnt_bad hb]
theorem PtI.done {t : List (List UInt8)} {acc : List Nat} (h : PtI t t.length acc) (h9 : t.length ≤ 9) : ptsP t = (0, acc) := by
  unfold ptsP
  rw [if_neg (by omega), h.1, List.drop_eq_nil_of_le (Nat.le_refl _)]
  rfl
theorem fold_take (line : Nat) (S : RdS) {t : List (List UInt8)} (h2 : 2 ≤ t.length) : takeP line S (wFld :: t) = foldP S t := by
  rw [takeP, if_neg (by simp), if_neg (by omega), if_neg (by decide), if_neg (by decide), if_pos rfl]
theorem dec_take (line : Nat) (S : RdS) {t : List (List UInt8)} (h2 : 2 ≤ t.length) : takeP line S (wDcp :: t) = dcmP line S t := by
  rw [takeP, if_neg (by simp), if_neg (by omega), if_neg (by decide), if_neg (by decide), if_neg (by decide)]
theorem one_take (line : Nat) (S : RdS) {x : List UInt8} {t : List (List UInt8)} (hx : x = wFld ∨ x = wDcp) (h2 : t.length < 2) : takeP line S (x :: t) = (2, S) := by
  rw [takeP, if_neg (by rcases hx with rfl | rfl <;> simp), if_pos h2]
theorem bad_take (line : Nat) (S : RdS) {x : List UInt8} {t : List (List UInt8)} {no : Nat} {l : List Nat} (hx : x = wFld ∨ x = wDcp) (h2 : 2 ≤ t.length) (hp : ptsP t = (no, l)) (h0 : no ≠ 0) : takeP line S (x :: t) = (no, S) := by
  rcases hx with rfl | rfl
  · rw [fold_take line S h2, foldP_no hp h0]
  · rw [dec_take line S h2, dcmP_no hp h0]
theorem foldP_yes {S : RdS} {t : List (List UInt8)} {h : Nat} {u : List Nat} (hp : ptsP t = (0, h :: u)) : foldP S t = if (S.fs h).isSome then (13, S) else (0, { S with fs := updN S.fs h u }) := by
  unfold foldP; rw [hp]; rfl
theorem dcmP_yes {line : Nat} {S : RdS} {t : List (List UInt8)} {h : Nat} {u : List Nat} (hp : ptsP t = (0, h :: u)) : dcmP line S t = if (S.ds h).isSome then (13, S) else if hanP (h : Int) then (1, S) else (0, { S with ds := updN S.ds h u, ls := updN S.ls h line }) := by
  unfold dcmP; rw [hp]; rfl

def XlW (xb at_ : Nat) (acc : List Nat) (W : World) : Prop :=
  ∃ ao n cp, W.heap[xb]? = some (.cells #[.int .i64 ((acc.headD 0 : Nat) : Int), .slice ao n cp, .int .i64 (at_ : Nat)] 120 (0, 0)) ∧ ZnO (xb + 1) (.slice ao n cp) (toZ acc.tail) W ∧ n = acc.tail.length ∧ xb + 1 ≤ W.heap.size
theorem xlW0 (w : World) (at_ : Nat) : XlW w.heap.size at_ [] (w.alloc (.cells #[.int .i64 0, .slice none 0 0, .int .i64 (at_ : Nat)] 120)) :=
  ⟨none, 0, 0, heap_alloc_new _ _, zno_nil _ _, rfl, by rw [World.size_alloc]; exact Nat.le_refl _⟩
theorem XlW.below {xb at_ : Nat} {acc : List Nat} {A B : World} (h : XlW xb at_ acc A) (hb : Below A.heap.size A B) : XlW xb at_ acc B := by
  obtain ⟨ao, n, cp, h1, h2, h3, h4⟩ := h
  exact ⟨ao, n, cp, (hb.block xb (Array.getElem?_eq_some_iff.1 h1).1).trans h1, h2.below hb, h3, Nat.le_trans h4 hb.size⟩
theorem XlW.first {xb at_ n : Nat} {W : World} (h : XlW xb at_ [] W) : (∃ u, W.cell? ⟨xb, 0, none⟩ = some u) ∧ W.frozen? ⟨xb, 0, none⟩ = false ∧ XlW xb at_ [n] (W.setCell ⟨xb, 0, none⟩ (.int .i64 (n : Nat))) ∧ Below xb W (W.setCell ⟨xb, 0, none⟩ (.int .i64 (n : Nat))) := by
  obtain ⟨ao, m, cp, h1, h2, h3, h4⟩ := h
  have hk : Keep (fun b => b = xb) W (W.setCell ⟨xb, 0, none⟩ (.int .i64 (n : Nat))) := Keep.setCell (X := fun b => b = xb) (Keep.refl _ W) (p := ⟨xb, 0, none⟩) rfl _
  refine ⟨⟨_, by rw [Lib.cell_of_heap h1]; rfl⟩, Lib.frozen_of_heap h1 _, ⟨ao, m, cp, ?_, h2.keep hk (fun b hb e => by have e : xb + 1 ≤ b := e; omega), h3, Nat.le_trans h4 hk.size⟩, hk.below (by omega) (fun b hb => by omega)⟩
  have := heap_setCell_same W xb 0 _ _ (.int .i64 (n : Nat)) h1
  simpa using this
theorem XlW.more {xb at_ n : Nat} {acc : List Nat} {W : World} (h : XlW xb at_ acc W) (ha : acc ≠ []) (hl : acc.length ≤ 9) : ∃ ao m cp v' W', W.cell? ⟨xb, 1, none⟩ = some (.slice ao m cp) ∧ (∀ ty, (Builtin.append_ #[62, 62] ty #[.slice ao m cp, .slice (some ⟨W.heap.size, 0, none⟩) 1 1]).run Tryz.prog (W.alloc (.cells #[.int .i32 (n : Nat)] 21)) = .ok v' W') ∧
    W'.cell? ⟨xb, 1, none⟩ = some (.slice ao m cp) ∧ W'.frozen? ⟨xb, 1, none⟩ = false ∧ (∃ a b c, v' = .slice a b c) ∧ XlW xb at_ (acc ++ [n]) (W'.setCell ⟨xb, 1, none⟩ v') ∧ Below xb W (W'.setCell ⟨xb, 1, none⟩ v') := by
  obtain ⟨ao, m, cp, h1, h2, h3, h4⟩ := h
  obtain ⟨v', W', hrun, hz, hb⟩ := h2.app h4 (by rw [toZ_len, List.length_tail]; omega) (n : Int)
  have hc := (hb.block xb (Nat.lt_succ_self xb)).trans h1
  obtain ⟨a, c, rfl⟩ := own_slc hz
  have hk : Keep (fun b => b = xb) W' (W'.setCell ⟨xb, 1, none⟩ (.slice a (toZ acc.tail ++ [(n : Int)]).length c)) := Keep.setCell (X := fun b => b = xb) (Keep.refl _ W') (p := ⟨xb, 1, none⟩) rfl _
  have e1 : toZ (acc ++ [n]).tail = toZ acc.tail ++ [(n : Int)] := by
    cases acc with
    | nil => exact absurd rfl ha
    | cons x t => simp [toZ]
  have e2 : (acc ++ [n]).headD 0 = acc.headD 0 := by
    cases acc with
    | nil => exact absurd rfl ha
    | cons x t => rfl
  have hbx : Below xb W W' := hb.mono (Nat.le_succ xb)
  refine ⟨ao, m, cp, _, W', by rw [Lib.cell_of_heap h1]; rfl, hrun, by rw [Lib.cell_of_heap hc]; rfl, Lib.frozen_of_heap hc _, ⟨_, _, _, rfl⟩, ⟨a, (toZ acc.tail ++ [(n : Int)]).length, c, ?_, ?_, ?_, Nat.le_trans (Nat.le_trans h4 hb.size) hk.size⟩, hbx.trans (hk.below (by have := hb.size; omega) (fun b hb => by omega))⟩
  · have := heap_setCell_same W' xb 1 _ _ (.slice a (toZ acc.tail ++ [(n : Int)]).length c) hc
    rw [e2]
    simpa using this
  · rw [e1]
    exact hz.keep hk (fun b hb e => by have e : xb + 1 ≤ b := e; omega)
  · rw [← toZ_len (acc ++ [n]).tail, e1]
theorem XlW.to {xb at_ : Nat} {h : Nat} {u : List Nat} {W : World} {ρ : Nat → Nat} (hX : XlW xb at_ (h :: u) W) (hr : ∀ b, xb ≤ b → ρ b = 0) : ∃ ao n cp, W.heap[xb]? = some (.cells #[.int .i64 (h : Nat), .slice ao n cp, .int .i64 (at_ : Nat)] 120 (0, 0)) ∧ n = u.length ∧ ToV ρ (.slice ao n cp) u W := by
  obtain ⟨ao, n, cp, h1, h2, h3, h4⟩ := hX
  refine ⟨ao, n, cp, h1, h3, ao, cp, by rw [h3]; rfl, ?_⟩
  rcases OwnS.shape h2 with ⟨e, h0⟩ | ⟨g, cap, e, hg, hgl⟩
  · exact .inl (List.length_eq_zero_iff.1 (by rw [toZ_len] at h0; exact h0))
  · injection e with e1 e2 e3
    subst e1
    refine .inr ⟨g, rfl, hr g (by have hg : xb + 1 ≤ g := hg; omega), hgl, fun i x hx => ?_⟩
    have h2' : OwnS (fun b => xb + 1 ≤ b) 21 1 (.slice (some ⟨g, 0, none⟩) n cp) (toZ u).length (encZ (toZ u)) W := h2
    have : (encZ (toZ u))[i]? = some (.int .i32 (x : Nat)) := by simp [encZ, toZ, hx]
    have h3' : n = u.length := h3
    rw [toZ_len, ← h3'] at h2'
    exact OwnS.at0 h2' this

set_option maxRecDepth 100000 in
set_option maxHeartbeats 4000000 in
theorem yspokenQ (l : List Ln3) (sv : Value) (n : Int) (w : World) (hS : LfW w sv l) (hn : l.length ≤ 1000000) :
    Calls Tryz.prog 99 #[sv, .int .i64 n] w fun e w' => e = .returned (.bool (spkL l n)) ∧ w' = w := by
  obtain ⟨ao, cp, rfl, hc⟩ := hS
  obtain ⟨m, hln⟩ : ∃ m, l.length = m := ⟨_, rfl⟩
  rw [hln] at hn ⊢
  have HC := Lib.hid (And.intro hc hln)
  clear hc hln
  go_enter Tryz.func99, Tryz.ntmps99
  go_wp2_with fail
  go_loopw [5] (fun x wr => ∃ k : Nat, x = .int .i64 (k : Nat) ∧ k ≤ m ∧ Hid (spkL l n = spkL (l.drop k) n) ∧ wr = w) (fun x _ => m - (RowKit.intOf x).toNat)
  case atStart => exact ⟨0, rfl, Nat.zero_le _, Lib.hid (by rw [List.drop_zero]), rfl⟩
  case round =>
    obtain ⟨k, rfl, hk, H, rfl⟩ := hrel
    by_cases hlt : k < m
    · have e1 : (k : Int) < m := by omega
      have hk0 : (0 : Int) ≤ (k : Int) := by omega
      have hk1 : IntKind.i64.wrap ((k : Int) + 1) = ((k + 1 : Nat) : Int) := by rw [IntWalk.i64_in _ (by omega)]; omega
      obtain ⟨⟨x1, x2, xv⟩, hx⟩ : ∃ x, l[k]? = some x := ⟨_, List.getElem?_eq_getElem (by rw [HC.out.2]; omega)⟩
      obtain ⟨g, rfl, c0⟩ : ∃ g, ao = some ⟨g, 0, none⟩ ∧ wr.cell? ⟨g, k * 3, none⟩ = some (.int .i64 (x1 : Nat)) := by
        rcases HC.out.1 with h | ⟨g, e, h⟩
        · rw [h] at hx; cases hx
        · exact ⟨g, e, (h k _ hx).1⟩
      have d0 := c0
      have hst := H.out
      have hdr : l.drop k = (x1, x2, xv) :: l.drop (k + 1) := by
        obtain ⟨h1, h2⟩ := List.getElem?_eq_some_iff.1 hx
        rw [List.drop_eq_getElem_cons h1, h2]
      rw [hdr] at hst
      unfold spkL at hst
      rw [List.any_cons] at hst
      obtain ⟨y, hy⟩ : ∃ y : Int, (x1 : Int) = y := ⟨_, rfl⟩
      rw [hy] at d0
      simp only [hy] at hst
      have HB : Hid True := Lib.hid trivial
      clear hdr hx c0 hy H
      by_cases h1 : y = n
      · subst h1
        have hst2 : spkL l y = true := by
          unfold spkL
          rw [hst, beq_self_eq_true, Bool.true_or]
        have HST := Lib.hid hst2
        clear hst2
        clear hst hlt
        go_wp2
        go_ret
        exact ⟨by rw [HST.out]; rfl, rfl⟩
      · have q1 : (y == n) = false := beq_eq_false_iff_ne.2 h1
        rw [q1, Bool.false_or] at hst
        have HST := Lib.hid hst
        clear hst hlt
        go_wp2
        go_roundw
        case rel => exact ⟨k + 1, by go_num, by omega, HST, by trivial⟩
        case measure => simp [RowKit.intOf]; omega
    · have e1 : ¬ (k : Int) < m := by omega
      have HST : Hid (spkL l n = false) := Lib.hid (by rw [H.out, List.drop_eq_nil_of_le (by rw [HC.out.2]; omega)]; rfl)
      clear hlt
      go_wp2
      go_ret
      exact ⟨by rw [HST.out]; rfl, rfl⟩
end Go.Proofs.YthhepebkfokddaaGreatDoor
