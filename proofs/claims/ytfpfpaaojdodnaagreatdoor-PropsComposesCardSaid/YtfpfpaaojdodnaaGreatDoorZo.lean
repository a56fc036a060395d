/- props' laws: the errors' numbers and lines; told; a list more in the book. -/
import Derived.Test.YtfpfpaaojdodnaaGreatDoorZm
import Derived.Test.YtfpfpaaojdodnaaGreatDoorZc
import Derived.Test.YtfpfpaaojdodnaaGreatDoorK31
import Derived.Test.YtfpfpaaojdodnaaGreatDoorEd
import Derived.Test.YtfpfpaaojdodnaaGreatDoorGz18
namespace Go.Proofs.YtfpfpaaojdodnaaGreatDoor
open Go Go.RowKit Go.Kt Go.Kt.Rg Go.Maps

theorem spn_no (l : List UInt8) : (spnP l).1 ≤ 25 := by
  unfold spnP
  generalize numP (Lib.cut l [46, 46]).1 = o1
  generalize numP (if (Lib.cut l [46, 46]).2.2 = true then (Lib.cut l [46, 46]).2.1 else (Lib.cut l [46, 46]).1) = o2
  cases o1 with
  | none => simp [spnO]
  | some lo =>
    cases o2 with
    | none => simp [spnO]
    | some hi =>
      rw [spnO_some]
      split
      · simp
      · split <;> simp
theorem row_no (V : List UInt8 → Nat × Int) (hV : ∀ l, (V l).1 ≤ 25) (ws : List (List UInt8)) : (rowP V ws).1 ≤ 25 := by
  unfold rowP
  split
  · simp
  split
  · exact spn_no _
  split
  · exact hV _
  · simp
theorem pts_no (ws : List (List UInt8)) : (ptsP ws).1 ≤ 25 := by
  have key : ∀ (ws : List (List UInt8)) (acc : List Nat), (ptsA acc ws).1 ≤ 25 := by
    intro ws
    induction ws with
    | nil => intro acc; simp [ptsA]
    | cons x t ih =>
      intro acc
      cases hn : numP x with
      | none => rw [ptsA_no hn]; simp
      | some n =>
        cases hv : Lib.validRune (n : Int) with
        | false => rw [ptsA_bad hn hv]; simp
        | true => rw [ptsA_go hn hv]; exact ih _
  unfold ptsP
  split
  · simp
  · exact key _ _
theorem take_no (line : Nat) (S : RdS) (ws : List (List UInt8)) : (takeP line S ws).1 ≤ 25 := by
  cases ws with
  | nil => simp [takeP]
  | cons x t =>
    rw [takeP]
    split
    · simp
    split
    · simp
    split
    · exact row_no _ (fun l => by unfold clsP; split; simp; split; split <;> simp; simp) _
    split
    · exact row_no _ (fun l => by unfold kndZ kndP; split <;> simp) _
    split
    · have := pts_no t
      unfold foldP
      generalize ptsP t = q at this
      rcases q with ⟨no, _ | ⟨x, r⟩⟩
      · cases no with
        | zero => exact Nat.zero_le _
        | succ no => exact this
      · cases no with
        | zero => show (if _ then _ else _ : Nat × RdS).1 ≤ 25; split <;> simp
        | succ no => exact this
    · have := pts_no t
      unfold decP
      generalize ptsP t = q at this
      rcases q with ⟨no, _ | ⟨x, r⟩⟩
      · cases no with
        | zero => exact Nat.zero_le _
        | succ no => exact this
      · cases no with
        | zero => show (if _ then _ else if _ then _ else _ : Nat × RdS).1 ≤ 25; split; simp; split <;> simp
        | succ no => exact this
theorem read_no (a : List (List UInt8)) : ∀ (line : Nat) (S : RdS), (readP line S a).1 ≤ 25 ∧ ((readP line S a).1 ≠ 0 → 1 ≤ (readP line S a).2.1 ∧ (readP line S a).2.1 ≤ line + a.length) := by
  induction a with
  | nil => intro line S; exact ⟨by simp [readP], fun h => by simp [readP] at h⟩
  | cons x t ih =>
    intro line S
    rw [readP]
    split
    · exact ⟨take_no _ _ _, fun _ => ⟨by simp, by simp⟩⟩
    · obtain ⟨h1, h2⟩ := ih (line + 1) (takeP (line + 1) S (wrdP x)).2
      exact ⟨h1, fun h => by have := h2 h; simp only [List.length_cons]; omega⟩
theorem ParseR.rng {l : List UInt8} {no line : Nat} {S : RdS} {L : List Nat} (h : ParseR l no line S L) (hz : l.length ≤ 65536) (h0 : no ≠ 0) : 1 ≤ no ∧ no ≤ 25 ∧ 1 ≤ line := by
  rcases h with ⟨hb, _⟩ | ⟨_, h1, h2, h3⟩ | ⟨_, h1, h2, h3, h4, h5, h6⟩
  · have := lnC_le l
    omega
  · have := read_no (linesP l) 0 rd0
    subst h2 h3
    exact ⟨by omega, this.1, (this.2 h1).1⟩
  · have hok := readP_ok (linesP l) 0 0 rd0 rd0_ok h1
    rw [← h2] at hok
    rcases ringP_spec S L (L.length + 1) (fun y hy => (h4 y).2 hy) (Nat.lt_succ_self _) L _ (leInv_none _) leOk_none with ⟨q1, _⟩ | ⟨a, x, b, k, hL, q2, q3, q4⟩
    · rw [q1] at h5; exact absurd h5 h0
    · rw [q4] at h5 h6
      subst h5 h6
      obtain ⟨m, hm⟩ := hok.ls x ((h4 x).1 (by rw [hL]; simp))
      refine ⟨by omega, ?_, by simp [hm]⟩
      rcases q3 with ⟨_, e⟩ | ⟨_, e⟩ <;> simp [e]

theorem told_okX (w : World) : Calls Tryz.prog 11 #[.nilIface, .agg #[.int .i64 0, .int .i64 0]] w fun e w' => e = .returned (.bool true) ∧ Below w.heap.size w w' := by
  go_enter Tryz.func11, Tryz.ntmps11
  go_wp2
  go_ret
  exact ⟨rfl, Below.alloc (Below.alloc (Below.refl _ w) (Nat.le_refl _) _) (Below.alloc (Below.refl _ w) (Nat.le_refl _) _).size _⟩
theorem told_faultX (no line : Nat) (w : World) (h1 : 1 ≤ no) (h25 : no ≤ 25) (hl : 1 ≤ line) (hE : ErrT w) (he : 1 < w.heap.size) : Calls Tryz.prog 11 #[errP no line, .agg #[.int .i64 (no : Nat), .int .i64 (line : Nat)]] w fun e w' => e = .returned (.bool true) ∧ Below w.heap.size w w' := by
  have e1 : errP no line = .iface 150 (fv no line 0) := by
    unfold errP
    rw [if_neg (by omega)]
  rw [e1]
  obtain ⟨N, hN⟩ : ∃ N : Int, (no : Int) = N := ⟨_, rfl⟩
  obtain ⟨K, hK⟩ : ∃ K : Int, (line : Int) = K := ⟨_, rfl⟩
  rw [hN, hK]
  have n0 : (N == 0) = false := by rw [beq_eq_false_iff_ne]; omega
  have k0 : (K == 0) = false := by rw [beq_eq_false_iff_ne]; omega
  obtain ⟨W1, hW1⟩ : ∃ W1, w.alloc (.cells #[.int .i64 N, .int .i64 K] 30) = W1 := ⟨_, rfl⟩
  have hb1 : Below w.heap.size w W1 := by rw [← hW1]; exact (Below.refl _ w).alloc (Nat.le_refl _) _
  have c0 : W1.cell? ⟨w.heap.size, 0, none⟩ = some (.int .i64 N) := by rw [← hW1, Lib.cell_of_heap (World.alloc_heap_new _ _)]; rfl
  have c1 : W1.cell? ⟨w.heap.size, 1, none⟩ = some (.int .i64 K) := by rw [← hW1, Lib.cell_of_heap (World.alloc_heap_new _ _)]; rfl
  have HW1 := Lib.hid hW1
  have C := Lib.hid (at_fault N K 0 W1 (by omega) (by omega) (hE.below he hb1))
  have HB := Lib.hid hb1
  clear hE h1 h25 hl hN hK hb1 he e1 hW1
  go_enter Tryz.func11, Tryz.ntmps11
  go_wp2_with fail
  rw [HW1.out]
  go_wp2_with fail
  refine C.out.mono ?_
  rintro e w' ⟨rfl, hb⟩
  have HB2 := Lib.hid (HB.out.trans (hb.mono HB.out.size))
  clear hb
  go_wp2
  go_ret
  exact ⟨rfl, HB2.out⟩

abbrev PendZ (W0 : World) (gb : Nat) (sv : Value) (vs : List Value) (v : Value) (n : Nat) (xs : List Value) (X : World) : Prop := Bl.Pend 21 1 W0 gb sv vs v n xs X
def PutZ (W0 : World) (gb : Nat) (sv : Value) (vs : List Value) (v : Value) (w : World) (e : Ending) (w' : World) : Prop :=
  e = .returned (.tuple #[]) ∧ ∃ sv', BkZ W0 gb sv' (vs ++ [v]) w' ∧ ∀ {u : Value} {m : Nat} {ys : List Value}, PendZ W0 gb sv vs u m ys w → (∀ b, u.ownBlock = some b → v.ownBlock ≠ some b) → PendZ W0 gb sv' (vs ++ [v]) u m ys w'
set_option maxRecDepth 100000 in
theorem bookPut_any (W0 w : World) (gb n vc : Nat) (ao : Option Addr) (sv : Value) (vs xs : List Value) (h : BkZ W0 gb sv vs w) (hv : PendZ W0 gb sv vs (.slice ao n vc) n xs w) (hn : n ≤ 2097152) (hf : vs.length ≤ 1900) :
    Calls Tryz.prog 53 #[.pointer (some ⟨gb, 0, none⟩), .slice ao n vc] w fun e w' => PutZ W0 gb sv vs (.slice ao n vc) w e w' := by
  have q := h.cell (by decide)
  obtain ⟨sl, cs, rfl⟩ := own_slcB h.list
  obtain ⟨g, cap, w2, hrun, hown2, hk2, hg2, hz2⟩ := append_x (P := Tryz.prog) w 97 22 Tryz.underlying97 tinfoSlZ rfl (by decide) h.list [.slice ao n vc] rfl
    (by intro u hu; simp at hu; subst hu; rfl) (by unfold maxLen; omega) (by omega)
  have hbk : w2.heap[gb]? = some (.cells (Bl.bookC 4 (.slice sl vs.length cs)) 118 (0, 0)) := hk2.heap h.book (fun hh => (h.list.2 gb hh).2 rfl)
  have q2 : w2.cell? ⟨gb, 4, none⟩ = some (.slice sl vs.length cs) := by rw [Lib.cell_of_heap hbk]; rfl
  have f2 : w2.frozen? ⟨gb, 4, none⟩ = false := Lib.frozen_of_heap hbk _
  obtain ⟨a1, a2⟩ := h.put hv hn hown2 hk2 hg2
  have HO : Hid (PutZ W0 gb (.slice sl vs.length cs) vs (.slice ao n vc) w (.returned (.tuple #[])) (w2.setCell ⟨gb, 4, none⟩ (.slice (some ⟨g, 0, none⟩) (vs.length + 1) cap))) := Lib.hid ⟨rfl, _, a1, a2⟩
  have HRun := Lib.hid hrun
  obtain ⟨m, hm⟩ : ∃ m, vs.length = m := ⟨_, rfl⟩
  rw [hm] at q q2 HO HRun
  rw [hm]
  clear h hv hrun hown2 hk2 hg2 hz2 hbk hm hf a1 a2
  go_enter Tryz.func53, Tryz.ntmps53
  go_wp2_with (at_builtin; refine wpList_append_eq rfl rfl rfl rfl HRun.out ?_)
  go_end0
  exact HO.out
end Go.Proofs.YtfpfpaaojdodnaaGreatDoor
