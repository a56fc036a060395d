/- Parts of the proof of what the last text says. -/
import Derived.Test.YtcfhblbmpbfoaaaGreatDoorGv3
import Derived.Lib.AppendZeros
import Derived.Test.YtcfhblbmpbfoaaaGreatDoorJix
import Derived.Test.YtcfhblbmpbfoaaaGreatDoorGv12
import Derived.Test.YtcfhblbmpbfoaaaGreatDoorGv16
namespace Go.Proofs.YtcfhblbmpbfoaaaGreatDoor
open Go Go.RowKit Go.Kt Go.Kt.Rg

def SlW (w : World) (v : Value) (l : List (Nat × Nat × Int)) : Prop :=
  ∃ ao cp, v = .slice ao l.length cp ∧ (l = [] ∨ ∃ g, ao = some ⟨g, 0, none⟩ ∧ ∀ (i : Nat) (r : Nat × Nat × Int), l[i]? = some r → w.cell? ⟨g, i * 3, none⟩ = some (.int .i32 r.1) ∧ w.cell? ⟨g, i * 3 + 1, none⟩ = some (.int .i32 r.2.1) ∧ w.cell? ⟨g, i * 3 + 2, none⟩ = some (.int .i64 r.2.2))
theorem SlW.below {v : Value} {l : List (Nat × Nat × Int)} {A B : World} (h : SlW A v l) (hb : Below A.heap.size A B) : SlW B v l := by
  obtain ⟨ao, cp, rfl, h⟩ := h
  refine ⟨ao, cp, rfl, ?_⟩
  rcases h with h | ⟨g, e, h⟩
  · exact .inl h
  · exact .inr ⟨g, e, fun i r hr => ⟨(hb.cell (lt_of_cell (h i r hr).1)).trans (h i r hr).1, (hb.cell (lt_of_cell (h i r hr).2.1)).trans (h i r hr).2.1, (hb.cell (lt_of_cell (h i r hr).2.2)).trans (h i r hr).2.2⟩⟩
theorem rwE_len (l : List (Nat × Nat × Int)) : (rwE l).length = l.length * 3 := by
  induction l with
  | nil => rfl
  | cons x t ih => simp [rwE] at ih ⊢; omega
theorem rwE_append (l m : List (Nat × Nat × Int)) : rwE (l ++ m) = rwE l ++ rwE m := by simp [rwE]
theorem rwE_get (l : List (Nat × Nat × Int)) (i : Nat) (x : Nat × Nat × Int) (h : l[i]? = some x) : (rwE l)[i * 3]? = some (.int .i32 x.1) ∧ (rwE l)[i * 3 + 1]? = some (.int .i32 x.2.1) ∧ (rwE l)[i * 3 + 2]? = some (.int .i64 x.2.2) := by
  induction l generalizing i with
  | nil => cases h
  | cons y t ih =>
    have e : rwE (y :: t) = [.int .i32 y.1, .int .i32 y.2.1, .int .i64 y.2.2] ++ rwE t := by simp [rwE]
    cases i with
    | zero =>
      simp at h
      subst h
      rw [e]
      simp
    | succ i =>
      simp at h
      have h9 := ih i h
      rw [e, show (i + 1) * 3 = i * 3 + 3 by omega]
      refine ⟨?_, ?_, ?_⟩
      · rw [List.getElem?_append_right (by simp)]
        simpa using h9.1
      · rw [List.getElem?_append_right (by simp)]
        rw [show i * 3 + 3 + 1 - [Value.int .i32 y.1, .int .i32 y.2.1, .int .i64 y.2.2].length = i * 3 + 1 by simp]
        exact h9.2.1
      · rw [List.getElem?_append_right (by simp)]
        rw [show i * 3 + 3 + 2 - [Value.int .i32 y.1, .int .i32 y.2.1, .int .i64 y.2.2].length = i * 3 + 2 by simp]
        exact h9.2.2
theorem own_slw {Y : Nat → Prop} {v : Value} {l : List (Nat × Nat × Int)} {w : World} (h : OwnS Y 160 3 v l.length (rwE l) w) : SlW w v l := by
  rcases h.shape with ⟨hv, h0⟩ | ⟨gb, cap, hv, hg, hgl⟩
  · exact ⟨none, 0, by rw [hv, h0], .inl (List.length_eq_zero_iff.1 h0)⟩
  · refine ⟨_, cap, hv, .inr ⟨gb, rfl, fun i r hr => ?_⟩⟩
    subst hv
    obtain ⟨e1, e2, e3⟩ := rwE_get l i r hr
    exact ⟨h.atN e1, h.atN e2, h.atN e3⟩
theorem SlW.rows {w : World} {v : Value} {l : List (Nat × Nat × Int)} (h : OwnS (fun _ => True) 160 3 v l.length (rwE l) w) (hne : l ≠ []) : RowsV v l w := by
  rcases h.shape with ⟨_, h0⟩ | ⟨gb, cap, hv, hg, hgl⟩
  · exact absurd (List.length_eq_zero_iff.1 h0) hne
  · subst hv
    have hc : l.length ≤ cap := by
      rcases h.1.2 with ⟨hv, _⟩ | ⟨g', cap', cur, hv, _, hgg, hnc, hcm, _⟩
      · cases hv
      · cases hv; exact hnc
    refine ⟨gb, cap, rfl, hc, fun i r hr => ?_⟩
    obtain ⟨e1, e2, e3⟩ := rwE_get l i r hr
    exact ⟨h.atN e1, h.atN e2, h.atN e3⟩

theorem append_slw {B : Nat} {v x : Value} {l m : List (Nat × Nat × Int)} {W : World} (hown : OwnS (fun b => B ≤ b) 160 3 v l.length (rwE l) W) (hBW : B ≤ W.heap.size) (hS : SlW W x m) (hn : l.length + m.length ≤ 2199023255552) :
    ∃ v' w', (∀ ty, (Builtin.append_ #[88, 88] ty #[v, x]).run Tryz.prog W = .ok v' w') ∧ OwnS (fun b => B ≤ b) 160 3 v' (l ++ m).length (rwE (l ++ m)) w' ∧ Keep (fun b => v.ownBlock = some b) W w' := by
  obtain ⟨i, hi, hz, hs1, hb1⟩ := info_parts tinfoRow
  obtain ⟨ao, cap, rfl, h⟩ := hS
  cases ao with
  | none =>
    have hm : m = [] := by
      rcases h with h | ⟨g, e, _⟩
      · exact h
      · cases e
    subst hm
    refine ⟨v, W, fun ty => append_no_more _ ty _ i 3 Tryz.underlying88 hi v _ _ hown.1 cap, ?_, Keep.refl _ _⟩
    rw [List.append_nil]; exact hown
  | some a =>
    have hcell : ∀ j u, (rwE m)[j]? = some u → W.cell? (a.add j) = some u := by
      intro j u hj
      rcases h with h | ⟨g, e, h⟩
      · subst h; simp [rwE] at hj
      · obtain rfl := Option.some.inj e
        have hjl : j < m.length * 3 := by rw [← rwE_len]; exact (List.getElem?_eq_some_iff.1 hj).1
        obtain ⟨y, hy⟩ : ∃ y, m[j / 3]? = some y := ⟨_, List.getElem?_eq_getElem (by omega)⟩
        have e := rwE_get m _ y hy
        have c := h _ y hy
        rw [Addr.add_lit, Nat.zero_add]
        rcases (by omega : j % 3 = 0 ∨ j % 3 = 1 ∨ j % 3 = 2) with k | k | k
        · rw [show j / 3 * 3 = j by omega] at e c
          rw [e.1] at hj
          rw [c.1]; exact hj
        · rw [show j / 3 * 3 + 1 = j by omega] at e c
          rw [e.2.1] at hj
          rw [c.2.1]; exact hj
        · rw [show j / 3 * 3 + 2 = j by omega] at e c
          rw [e.2.2] at hj
          rw [c.2.2]; exact hj
    have h1 : ∀ u ∈ rwE m, u.oneCell' = true := by
      intro u hu
      simp only [rwE, List.mem_flatMap] at hu
      obtain ⟨y, _, hy⟩ := hu
      simp at hy
      rcases hy with rfl | rfl | rfl <;> rfl
    obtain ⟨v', w', hrun, r1, r2, _⟩ := run_append_own (P := Tryz.prog) W B 88 0 160 i _ 3 16 Tryz.underlying88 hi hz hs1 hb1 rfl (by omega) v l.length (rwE l) (own_to_base hown (fun _ h => h)) a m.length cap (rwE m) (rwE_len m) hcell h1
      (by unfold maxLen; omega) (by omega) hBW
    refine ⟨v', w', fun ty => hrun, ?_, keep_grown r2⟩
    rw [List.length_append, rwE_append]
    exact own_from_base r1

set_option maxRecDepth 100000 in
theorem pgrow_any (n : Nat) (w : World) (hn : n ≤ 2199023255552) :
    Calls Tryz.prog 154 #[.slice none 0 0, .int .i64 n] w fun e w' => ∃ v, e = .returned v ∧ OwnS (fun b => w.heap.size ≤ b) 160 3 v 0 (rwE []) w' ∧ Below w.heap.size w w' := by
  obtain ⟨i, hi, hz, hs1, hb1⟩ := info_parts tinfoRow
  by_cases h0 : n = 0
  · subst h0
    go_enter Tryz.func154, Tryz.ntmps154
    go_wp2
    go_ret
    exact ⟨_, rfl, own_nil _ _ _ _, Below.refl _ _⟩
  · have hn0 : 0 < (n : Int) := by omega
    have happ := Lib.run_append_nil_zeros (P := Tryz.prog) w 88 3 0 160 i _ .i64 .i64 Tryz.underlying88 Tryz.underlying3 hi hz n (by omega) (by rw [hs1]; omega) (by omega) (by rw [hb1]; omega)
    have hge := grownCap_ge w n 0 160
    have hcm : grownCap w n 0 160 ≤ maxLen := grownCap_le_maxLen w n 0 160 (by unfold maxLen; omega)
    have hml : maxLen ≤ 9223372036854775807 := by unfold maxLen; omega
    generalize grownCap w n 0 160 = C at *
    have HR : Hid (∀ ty, (Builtin.append_ #[88, 3] ty #[.slice none 0 0, .int .i64 n]).run Tryz.prog w = _) := Lib.hid fun ty => happ
    obtain ⟨V, hV⟩ : ∃ V, w.drew.alloc (.cells (Builtin.zeroCells (Value.agg #[.int .i32 0, .int .i32 0, .int .i64 0]).cells n ++ Builtin.zeroCells (Value.agg #[.int .i32 0, .int .i32 0, .int .i64 0]).cells (C - n)) 160) = V := ⟨_, rfl⟩
    rw [hV] at HR
    have ho : OwnS (fun b => w.heap.size ≤ b) 160 3 (.slice (some ⟨w.heap.size, 0, none⟩) 0 C) 0 (rwE []) V := by
      refine ⟨⟨rfl, .inr ⟨w.heap.size, C, _, rfl, Nat.zero_le _, by rw [← hV]; exact heap_alloc_new w.drew _, Nat.zero_le _, hcm, ?_, rfl⟩⟩, fun g hg => by cases hg; exact Nat.le_refl _⟩
      rw [Array.size_append, size_zeroCells, size_zeroCells]
      show n * 3 + (C - n) * 3 = C * 3
      omega
    have hb : Below w.heap.size w V := by rw [← hV]; exact (show Below w.heap.size w w.drew from below_drewN (Below.refl _ w) 1).alloc (Nat.le_refl _) _
    have HO := Lib.hid (And.intro ho hb)
    have hC : (C : Int) ≤ 9223372036854775807 := by omega
    clear happ hV ho hb hcm hml
    go_enter Tryz.func154, Tryz.ntmps154
    go_wp2_with (at_builtin; refine wpList_append_eq rfl rfl rfl rfl HR.out ?_)
    go_ret
    exact ⟨_, rfl, HO.out.1, HO.out.2⟩

def catW (l1 l2 l3 : List (Nat × Nat × Int)) : Nat → List (Nat × Nat × Int)
  | 0 => []
  | 1 => l1
  | 2 => l1 ++ l2
  | _ => l1 ++ l2 ++ l3
set_option maxRecDepth 100000 in
set_option maxHeartbeats 2000000 in
theorem pconcat_any (l1 l2 l3 : List (Nat × Nat × Int)) (v1 v2 v3 : Value) (h : Nat) (w : World) (c1 : w.cell? ⟨h, 0, none⟩ = some v1) (c2 : w.cell? ⟨h, 1, none⟩ = some v2) (c3 : w.cell? ⟨h, 2, none⟩ = some v3) (h1 : SlW w v1 l1) (h2 : SlW w v2 l2) (h3 : SlW w v3 l3) (m1 : l1.length ≤ 1112192) (m2 : l2.length ≤ 1112192) (m3 : l3.length ≤ 1112192) :
    Calls Tryz.prog 106 #[.slice (some ⟨h, 0, none⟩) 3 3] w fun e w' => ∃ v, e = .returned v ∧ OwnS (fun b => w.heap.size ≤ b) 160 3 v (l1 ++ l2 ++ l3).length (rwE (l1 ++ l2 ++ l3)) w' ∧ Below w.heap.size w w' := by
  have H1 := Lib.hid h1
  have H2 := Lib.hid h2
  have H3 := Lib.hid h3
  obtain ⟨a1, cp1, rfl, _⟩ := h1
  obtain ⟨a2, cp2, rfl, _⟩ := h2
  obtain ⟨a3, cp3, rfl, _⟩ := h3
  obtain ⟨n1, hn1⟩ : ∃ n, l1.length = n := ⟨_, rfl⟩
  obtain ⟨n2, hn2⟩ : ∃ n, l2.length = n := ⟨_, rfl⟩
  obtain ⟨n3, hn3⟩ : ∃ n, l3.length = n := ⟨_, rfl⟩
  rw [hn1] at c1 m1 H1
  rw [hn2] at c2 m2 H2
  rw [hn3] at c3 m3 H3
  have HN := Lib.hid (And.intro hn1 (And.intro hn2 hn3))
  have CG0 := pgrow_any (n1 + n2 + n3) w (by omega)
  rw [Int.natCast_add, Int.natCast_add] at CG0
  have CG := Lib.hid CG0
  clear CG0
  have lh := lt_of_cell c1
  clear hn1 hn2 hn3
  go_enter Tryz.func106, Tryz.ntmps106
  go_wp2
  go_loop [3, 11] (fun a x => ∃ k : Nat, x = .int .i64 k ∧ ((k = 0 ∧ a = .int .i64 0) ∨ (k = 1 ∧ a = .int .i64 n1) ∨ (k = 2 ∧ a = .int .i64 ((n1 : Int) + n2)) ∨ (k = 3 ∧ a = .int .i64 ((n1 : Int) + n2 + n3)))) (fun _ x => 3 - (RowKit.intOf x).toNat)
  case atStart => exact ⟨0, rfl, .inl ⟨rfl, rfl⟩⟩
  case round =>
    obtain ⟨k, rfl, hk⟩ := hrel
    rcases hk with ⟨rfl, rfl⟩ | ⟨rfl, rfl⟩ | ⟨rfl, rfl⟩ | ⟨rfl, rfl⟩
    · go_wp2
      go_round
      case rel => exact ⟨1, by go_num, .inr (.inl ⟨rfl, by go_num⟩)⟩
      case measure => simp [RowKit.intOf]
    · go_wp2
      go_round
      case rel => exact ⟨2, by go_num, .inr (.inr (.inl ⟨rfl, by go_num⟩))⟩
      case measure => simp [RowKit.intOf]
    · go_wp2
      go_round
      case rel => exact ⟨3, by go_num, .inr (.inr (.inr ⟨rfl, by go_num⟩))⟩
      case measure => simp [RowKit.intOf]
    · go_wp2_with fail
      refine CG.out.mono ?_
      rintro e w1 ⟨v0, rfl, ho, hb⟩
      have q1 := (hb.cell lh).trans c1
      have q2 := (hb.cell lh).trans c2
      have q3 := (hb.cell lh).trans c3
      have HO := Lib.hid (And.intro ho hb)
      clear ho hb
      go_wp2_with fail
      go_loopw [6, 27] (fun s x wr => ∃ k : Nat, x = .int .i64 k ∧ k ≤ 3 ∧ OwnS (fun b => w.heap.size ≤ b) 160 3 s (catW l1 l2 l3 k).length (rwE (catW l1 l2 l3 k)) wr ∧ Below w.heap.size w wr) (fun _ x _ => 3 - (RowKit.intOf x).toNat)
      case atStart => exact ⟨0, rfl, by omega, HO.out.1, HO.out.2⟩
      case round =>
        obtain ⟨k, rfl, hk, ho2, hb2⟩ := hrel
        have HI := Lib.hid (And.intro ho2 hb2)
        have z1 := (hb2.cell lh).trans c1
        have z2 := (hb2.cell lh).trans c2
        have z3 := (hb2.cell lh).trans c3
        clear ho2 hb2 q1 q2 q3
        rcases (by omega : k = 0 ∨ k = 1 ∨ k = 2 ∨ k = 3) with rfl | rfl | rfl | rfl
        · obtain ⟨v', w', hrun, hown, hkp⟩ := append_slw HI.out.1 HI.out.2.size (H1.out.below HI.out.2) (by show 0 + l1.length ≤ _; rw [HN.out.1]; omega)
          have hbb := HI.out.2.trans (hkp.below HI.out.2.size fun b h => HI.out.1.2 b h)
          have HRun := Lib.hid hrun
          have HG := Lib.hid (And.intro hown hbb)
          clear hrun hown hkp hbb
          go_wp2_with (at_builtin; refine wpList_append_eq rfl rfl rfl rfl HRun.out ?_)
          go_roundw
          case rel => exact ⟨1, by go_num, by omega, HG.out.1, HG.out.2⟩
          case measure => simp [RowKit.intOf]
        · obtain ⟨v', w', hrun, hown, hkp⟩ := append_slw HI.out.1 HI.out.2.size (H2.out.below HI.out.2) (by show l1.length + l2.length ≤ _; rw [HN.out.1, HN.out.2.1]; omega)
          have hbb := HI.out.2.trans (hkp.below HI.out.2.size fun b h => HI.out.1.2 b h)
          have HRun := Lib.hid hrun
          have HG := Lib.hid (And.intro hown hbb)
          clear hrun hown hkp hbb
          go_wp2_with (at_builtin; refine wpList_append_eq rfl rfl rfl rfl HRun.out ?_)
          go_roundw
          case rel => exact ⟨2, by go_num, by omega, HG.out.1, HG.out.2⟩
          case measure => simp [RowKit.intOf]
        · obtain ⟨v', w', hrun, hown, hkp⟩ := append_slw HI.out.1 HI.out.2.size (H3.out.below HI.out.2) (by show (l1 ++ l2).length + l3.length ≤ _; rw [List.length_append, HN.out.1, HN.out.2.1, HN.out.2.2]; omega)
          have hbb := HI.out.2.trans (hkp.below HI.out.2.size fun b h => HI.out.1.2 b h)
          have HRun := Lib.hid hrun
          have HG := Lib.hid (And.intro hown hbb)
          clear hrun hown hkp hbb
          go_wp2_with (at_builtin; refine wpList_append_eq rfl rfl rfl rfl HRun.out ?_)
          go_roundw
          case rel => exact ⟨3, by go_num, by omega, HG.out.1, HG.out.2⟩
          case measure => simp [RowKit.intOf]
        · go_wp2
          go_ret
          exact ⟨_, rfl, HI.out.1, HI.out.2⟩
end Go.Proofs.YtcfhblbmpbfoaaaGreatDoor
namespace Go.Proofs.YtcfhblbmpbfoaaaGreatDoor
open Go Go.RowKit Go.Kt Go.Kt.Rg Go.Maps

abbrev DsT := Nat → Option (List Nat)
def sumO (g : Nat → Option Nat) : List Nat → Option Nat
  | [] => some 0
  | y :: t => match g y, sumO g t with
    | some a, some b => some (a + b)
    | _, _ => none
theorem sumO_some {g : Nat → Option Nat} : ∀ {l : List Nat} {n : Nat}, sumO g l = some n → ∀ y ∈ l, ∃ a, g y = some a
  | [], _, _, y, hy => by cases hy
  | z :: t, n, h, y, hy => by
    rw [sumO] at h
    cases hz : g z with
    | none => rw [hz] at h; cases h
    | some a =>
      cases ht : sumO g t with
      | none => rw [hz, ht] at h; cases h
      | some b =>
        rcases List.mem_cons.1 hy with rfl | hy
        · exact ⟨a, hz⟩
        · exact sumO_some ht y hy
theorem sumO_mono {g h : Nat → Option Nat} (hgh : ∀ y a, g y = some a → h y = some a) : ∀ {l : List Nat} {n : Nat}, sumO g l = some n → sumO h l = some n
  | [], _, e => e
  | z :: t, n, e => by
    rw [sumO] at e ⊢
    cases hz : g z with
    | none => rw [hz] at e; cases e
    | some a =>
      cases ht : sumO g t with
      | none => rw [hz, ht] at e; cases e
      | some b =>
        rw [hz, ht] at e
        rw [hgh z a hz, sumO_mono hgh ht]; exact e
def fullN (ds : DsT) : Nat → Nat → Option Nat
  | 0, _ => none
  | f + 1, x => if sylP x then some (partsP (x - 44032)).length else match ds x with
    | none => some 1
    | some l => sumO (fullN ds f) l
theorem fullN_step (ds : DsT) : ∀ (f x n : Nat), fullN ds f x = some n → fullN ds (f + 1) x = some n
  | 0, x, n, h => by cases h
  | f + 1, x, n, h => by
    rw [fullN] at h ⊢
    split
    · rename_i hs; rw [if_pos hs] at h; exact h
    · rename_i hs
      rw [if_neg hs] at h
      cases hd : ds x with
      | none => rw [hd] at h; exact h
      | some l => rw [hd] at h; exact sumO_mono (fun y a => fullN_step ds f y a) h
theorem fullN_mono (ds : DsT) {f g x n : Nat} (hfg : f ≤ g) (h : fullN ds f x = some n) : fullN ds g x = some n := by
  obtain ⟨k, rfl⟩ : ∃ k, g = f + k := ⟨g - f, by omega⟩
  clear hfg
  induction k with
  | zero => exact h
  | succ k ih => exact fullN_step ds _ _ _ ih
def EndA (ds : DsT) (x n : Nat) : Prop := ∃ f, fullN ds f x = some n
def NoEnd (ds : DsT) (x : Nat) : Prop := ∀ f, fullN ds f x = none
def EndS (ds : DsT) (l : List Nat) (n : Nat) : Prop := ∃ f, sumO (fullN ds f) l = some n
theorem ends_nil (ds : DsT) : EndS ds [] 0 := ⟨0, rfl⟩
theorem EndS.cons {ds : DsT} {y a b : Nat} {t : List Nat} (h : EndA ds y a) (ht : EndS ds t b) : EndS ds (y :: t) (a + b) := by
  obtain ⟨f, h⟩ := h
  obtain ⟨g, ht⟩ := ht
  refine ⟨max f g, ?_⟩
  rw [sumO, fullN_mono ds (Nat.le_max_left f g) h, sumO_mono (fun y a => fullN_mono ds (Nat.le_max_right f g)) ht]
theorem EndA.ofL {ds : DsT} {x n : Nat} {l : List Nat} (hs : sylP (x : Int) = false) (hd : ds x = some l) (h : EndS ds l n) : EndA ds x n := by
  obtain ⟨f, h⟩ := h
  exact ⟨f + 1, by rw [fullN, if_neg (by rw [hs]; decide), hd]; exact h⟩
theorem EndA.ofN {ds : DsT} {x : Nat} (hs : sylP (x : Int) = false) (hd : ds x = none) : EndA ds x 1 := ⟨1, by rw [fullN, if_neg (by rw [hs]; decide), hd]⟩
theorem EndA.syl {ds : DsT} {x : Nat} (hs : sylP (x : Int) = true) : EndA ds x (partsP (x - 44032)).length := ⟨1, by rw [fullN, if_pos hs]⟩
theorem NoEnd.up {ds : DsT} {x y : Nat} {l : List Nat} (hs : sylP (x : Int) = false) (hd : ds x = some l) (hy : y ∈ l) (h : NoEnd ds y) : NoEnd ds x := fun f => by
  cases f with
  | zero => rfl
  | succ f =>
    rw [fullN, if_neg (by rw [hs]; decide), hd]
    cases hq : sumO (fullN ds f) l with
    | none => exact hq
    | some n =>
      obtain ⟨a, ha⟩ := sumO_some hq y hy
      rw [h f] at ha; cases ha
inductive Leads (ds : DsT) : Nat → Nat → Prop
  | one {p y : Nat} {l : List Nat} (hs : sylP (p : Int) = false) (hd : ds p = some l) (hy : y ∈ l) : Leads ds p y
  | more {p y z : Nat} {l : List Nat} (h : Leads ds p y) (hs : sylP (y : Int) = false) (hd : ds y = some l) (hz : z ∈ l) : Leads ds p z
theorem one_less {ds : DsT} {p y f n : Nat} {l : List Nat} (hs : sylP (p : Int) = false) (hd : ds p = some l) (hy : y ∈ l) (h : fullN ds f p = some n) : ∃ g, g < f ∧ ∃ m, fullN ds g y = some m := by
  cases f with
  | zero => cases h
  | succ f =>
    rw [fullN, if_neg (by rw [hs]; decide), hd] at h
    exact ⟨f, Nat.lt_succ_self f, sumO_some h y hy⟩
theorem Leads.less {ds : DsT} {p y f n : Nat} (h : Leads ds p y) (hf : fullN ds f p = some n) : ∃ g, g < f ∧ ∃ m, fullN ds g y = some m := by
  induction h with
  | one hs hd hy => exact one_less hs hd hy hf
  | more _ hs hd hz ih =>
    obtain ⟨g, hg, m, hm⟩ := ih
    obtain ⟨g2, hg2, m2, hm2⟩ := one_less hs hd hz hm
    exact ⟨g2, by omega, m2, hm2⟩
theorem Leads.ring {ds : DsT} {x : Nat} (h : Leads ds x x) : NoEnd ds x := by
  have key : ∀ (k f : Nat), f ≤ k → fullN ds f x = none := by
    intro k
    induction k with
    | zero =>
      intro f hf
      obtain rfl : f = 0 := by omega
      rfl
    | succ k ih =>
      intro f hf
      cases hq : fullN ds f x with
      | none => rfl
      | some n =>
        obtain ⟨g, hg, m, hm⟩ := h.less hq
        rw [ih g (by omega)] at hm; cases hm
  exact fun f => key f f (Nat.le_refl _)

/-! ### The program's lengths -/
def LeInv (ds : DsT) (P : List Nat) (le : LeT) : Prop := ∀ x v, le x = some v → (v = -1 ∧ x ∈ P) ∨ (v = -1 ∧ NoEnd ds x) ∨ ∃ n, EndA ds x n ∧ v = (min n 9 : Nat)
def LenR (ds : DsT) (x : Nat) (r : Int) : Prop := (r = -1 ∧ NoEnd ds x) ∨ ∃ n, EndA ds x n ∧ r = (min n 9 : Nat)
theorem LeInv.upd {ds : DsT} {P : List Nat} {le : LeT} (h : LeInv ds P le) (x : Nat) : LeInv ds (x :: P) (updN le x (-1)) := fun y v hv => by
  unfold updN at hv
  by_cases e : y = x
  · rw [if_pos e] at hv
    exact .inl ⟨(Option.some.inj hv).symm, by rw [e]; exact List.mem_cons_self⟩
  · rw [if_neg e] at hv
    rcases h y v hv with ⟨h1, h2⟩ | h
    · exact .inl ⟨h1, List.mem_cons_of_mem _ h2⟩
    · exact .inr h
theorem LeInv.done {ds : DsT} {P : List Nat} {le : LeT} {x n : Nat} (h : LeInv ds (x :: P) le) (hx : EndA ds x n) {v : Int} (hv : v = (min n 9 : Nat)) : LeInv ds P (updN le x v) := fun y u hu => by
  unfold updN at hu
  by_cases e : y = x
  · rw [if_pos e] at hu
    exact .inr (.inr ⟨n, by rw [e]; exact hx, by rw [← Option.some.inj hu]; exact hv⟩)
  · rw [if_neg e] at hu
    rcases h y u hu with ⟨h1, h2⟩ | h
    · rcases List.mem_cons.1 h2 with h2 | h2
      · exact absurd h2 e
      · exact .inl ⟨h1, h2⟩
    · exact .inr h
theorem LeInv.ring {ds : DsT} {P : List Nat} {le : LeT} {x : Nat} (h : LeInv ds (x :: P) le) (hx : NoEnd ds x) : LeInv ds P le := fun y u hu => by
  rcases h y u hu with ⟨h1, h2⟩ | h
  · rcases List.mem_cons.1 h2 with h2 | h2
    · exact .inr (.inl ⟨h1, by rw [h2]; exact hx⟩)
    · exact .inl ⟨h1, h2⟩
  · exact .inr h
theorem lenL_spec {ds : DsT} {L : List Nat} {f x : Nat} {P : List Nat}
    (hg : ∀ le y, LeInv ds P le → LeOk le → (∀ p ∈ P, Leads ds p y) → unk L le < f → LeInv ds P (lenF ds f le y).2 ∧ LenR ds y (lenF ds f le y).1) :
    ∀ (l : List Nat) (k : Nat) (sum : Int) (le : LeT), sum = (min k 9 : Nat) → LeInv ds P le → LeOk le → (∀ y ∈ l, ∀ p ∈ P, Leads ds p y) → unk L le < f →
      ((lenL (lenF ds f) x l sum le).1 = -1 ∧ LeInv ds P (lenL (lenF ds f) x l sum le).2 ∧ ∃ y ∈ l, NoEnd ds y) ∨
      ∃ n le', EndS ds l n ∧ (lenL (lenF ds f) x l sum le) = (((min (k + n) 9 : Nat) : Int), updN le' x ((min (k + n) 9 : Nat) : Int)) ∧ LeInv ds P le'
  | [], k, sum, le, hk, hI, _, _, _ => .inr ⟨0, le, ends_nil ds, by rw [lenL, hk]; rfl, hI⟩
  | y :: t, k, sum, le, hk, hI, hO, hr, hu => by
    obtain ⟨h1, h2⟩ := hg le y hI hO (hr y List.mem_cons_self) hu
    have h3 := lenF_ok ds f le y hO
    rw [lenL]
    rcases h2 with ⟨h2, h4⟩ | ⟨n, h4, h5⟩
    · rw [if_pos h2]
      exact .inl ⟨rfl, h1, y, List.mem_cons_self, h4⟩
    · rw [if_neg (by omega)]
      have hu2 := unk_mono L h3.2.2
      have hs : min (sum + (lenF ds f le y).1) 9 = ((min (k + n) 9 : Nat) : Int) := by rw [hk, h5]; omega
      rcases lenL_spec hg t (k + n) _ _ hs h1 h3.2.1 (fun z hz => hr z (List.mem_cons_of_mem _ hz)) (by omega) with ⟨q1, q2, z, hz, q3⟩ | ⟨m, le', q1, q2, q3⟩
      · exact .inl ⟨q1, q2, z, List.mem_cons_of_mem _ hz, q3⟩
      · refine .inr ⟨n + m, le', EndS.cons h4 q1, ?_, q3⟩
        rw [q2, show k + n + m = k + (n + m) by omega]
theorem lenF_spec (ds : DsT) (L : List Nat) (hL : ∀ y, (ds y).isSome = true → y ∈ L) : ∀ (f : Nat) (P : List Nat) (le : LeT) (x : Nat), LeInv ds P le → LeOk le → (∀ p ∈ P, Leads ds p x) → unk L le < f → LeInv ds P (lenF ds f le x).2 ∧ LenR ds x (lenF ds f le x).1
  | 0, P, le, x, _, _, _, hu => absurd hu (by omega)
  | f + 1, P, le, x, hI, hO, hP, hu => by
    rw [lenF]
    by_cases hs : sylP (x : Int) = true
    · rw [if_pos hs]
      refine ⟨hI, .inr ⟨_, EndA.syl hs, ?_⟩⟩
      have : (partsP (x - 44032)).length ≤ 3 := by unfold partsP; split <;> simp
      simp only
      omega
    · have hs' : sylP (x : Int) = false := by simpa using hs
      rw [if_neg hs]
      cases hd : ds x with
      | none => exact ⟨hI, .inr ⟨1, EndA.ofN hs' hd, rfl⟩⟩
      | some own =>
        simp only
        cases hl : le x with
        | some v =>
          simp only
          refine ⟨hI, ?_⟩
          rcases hI x v hl with ⟨h1, h2⟩ | h | h
          · exact .inl ⟨h1, (hP x h2).ring⟩
          · exact .inl h
          · exact .inr h
        | none =>
          simp only
          have hu2 := unk_upd L (hL x (by rw [hd]; rfl)) hl (-1)
          have key := lenL_spec (ds := ds) (L := L) (f := f) (x := x) (P := x :: P) (fun le y a b c d => lenF_spec ds L hL f (x :: P) le y a b c d) own 0 0 (updN le x (-1)) rfl (hI.upd x) (hO.upd (by omega) (by omega))
            (fun y hy p hp => by
              rcases List.mem_cons.1 hp with rfl | hp
              · exact .one hs' hd hy
              · exact .more (hP p hp) hs' hd hy) (by omega)
          rcases key with ⟨q1, q2, y, hy, q3⟩ | ⟨n, le', q1, q2, q3⟩
          · have := NoEnd.up hs' hd hy q3
            exact ⟨q2.ring this, .inl ⟨q1, this⟩⟩
          · have := EndA.ofL hs' hd q1
            rw [q2, Nat.zero_add]
            exact ⟨q3.done this rfl, .inr ⟨n, this, rfl⟩⟩
def FineD (ds : DsT) (x : Nat) : Prop := ∃ n, EndA ds x n ∧ n ≤ 8
def BadN (ds : DsT) (x no : Nat) : Prop := (NoEnd ds x ∧ no = 14) ∨ ((∃ n, EndA ds x n ∧ 8 < n) ∧ no = 5)
theorem BadN.ne {ds : DsT} {x a : Nat} (h : BadN ds x a) : a ≠ 0 := by
  rcases h with ⟨_, h⟩ | ⟨_, h⟩ <;> omega
theorem ringP_spec (S : RdS) (L0 : List Nat) (f : Nat) (hL : ∀ y, (S.ds y).isSome = true → y ∈ L0) (hf : L0.length < f) : ∀ (L : List Nat) (le : LeT), LeInv S.ds [] le → LeOk le →
    (ringP S f L le = (0, 0) ∧ ∀ x ∈ L, FineD S.ds x) ∨ ∃ a x b no, L = a ++ x :: b ∧ (∀ y ∈ a, FineD S.ds y) ∧ BadN S.ds x no ∧ ringP S f L le = (no, (S.ls x).getD 0)
  | [], le, _, _ => .inl ⟨rfl, fun x h => by cases h⟩
  | x :: t, le, hI, hO => by
    have hu : unk L0 le < f := Nat.lt_of_le_of_lt (List.length_filter_le _ _) hf
    obtain ⟨h1, h2⟩ := lenF_spec S.ds L0 hL f [] le x hI hO (fun p hp => by cases hp) hu
    have h3 := (lenF_ok S.ds f le x hO).2.1
    rw [ringP]
    rcases h2 with ⟨h2, h4⟩ | ⟨n, h4, h5⟩
    · have e : endN (lenF S.ds f le x).1 = 14 := by rw [h2]; rfl
      rw [e, if_pos (by decide)]
      exact .inr ⟨[], x, t, 14, rfl, fun y h => (by cases h), .inl ⟨h4, rfl⟩, rfl⟩
    · by_cases h8 : 8 < n
      · have e : endN (lenF S.ds f le x).1 = 5 := by rw [h5]; unfold endN; rw [if_neg (by omega), if_pos (by omega)]
        rw [e, if_pos (by decide)]
        exact .inr ⟨[], x, t, 5, rfl, fun y h => (by cases h), .inr ⟨⟨n, h4, h8⟩, rfl⟩, rfl⟩
      · have e : endN (lenF S.ds f le x).1 = 0 := by rw [h5]; unfold endN; rw [if_neg (by omega), if_neg (by omega)]
        rw [e, if_neg (by decide)]
        have hx : FineD S.ds x := ⟨n, h4, by omega⟩
        rcases ringP_spec S L0 f hL hf t _ h1 h3 with ⟨q1, q2⟩ | ⟨a, y, b, no, rfl, q2, q3, q4⟩
        · refine .inl ⟨q1, fun y hy => ?_⟩
          rcases List.mem_cons.1 hy with rfl | hy
          · exact hx
          · exact q2 y hy
        · refine .inr ⟨x :: a, y, b, no, rfl, fun z hz => ?_, q3, q4⟩
          rcases List.mem_cons.1 hz with rfl | hz
          · exact hx
          · exact q2 z hz
theorem leInv_none (ds : DsT) : LeInv ds [] fun _ => none := fun _ _ h => by cases h
theorem leOk_none : LeOk fun _ => none := fun _ _ h => by cases h
end Go.Proofs.YtcfhblbmpbfoaaaGreatDoor
namespace Go.Proofs.YtcfhblbmpbfoaaaGreatDoor
open Go Go.RowKit Go.Kt Go.Kt.Rg Go.Maps

def yAt (s : ByteArray) (i : Nat) : UInt8 := s.data.toList.getD i 0
/-! ### Digits -/
def lowD : ByteArray := ⟨#[48, 49, 50, 51, 52, 53, 54, 55, 56, 57, 97, 98, 99, 100, 101, 102]⟩
def uppD : ByteArray := ⟨#[48, 49, 50, 51, 52, 53, 54, 55, 56, 57, 65, 66, 67, 68, 69, 70]⟩
def digB (base : Nat) (b : UInt8) : Option Nat := match digV b.toNat with
  | some d => if d < base then some d else none
  | none => none
def dK (b : UInt8) (k : Nat) : Int := match digV b.toNat with
  | some d => if d < k then (d : Int) else -1
  | none => -1
def numF (base : Nat) : Nat → List UInt8 → Option Nat
  | n, [] => some n
  | n, b :: t => match digB base b with
    | some d => numF base (base * n + d) t
    | none => none
def numG (base least most : Nat) (l : List UInt8) : Int := if l.length < least ∨ most < l.length then -1 else match numF base 0 l with
  | some n => (n : Int)
  | none => -1

end Go.Proofs.YtcfhblbmpbfoaaaGreatDoor
namespace Go.Proofs.YtcfhblbmpbfoaaaGreatDoor
open Go Go.RowKit Go.Kt Go.Kt.Rg Go.Maps

def wordsB : List UInt8 → List UInt8 → List (List UInt8)
  | cur, [] => if cur = [] then [] else [cur]
  | cur, b :: t => if blkP b.toNat then (if cur = [] then wordsB [] t else cur :: wordsB [] t) else wordsB (cur ++ [b]) t
def curB (l : List UInt8) (p : Nat) : Option Nat → List UInt8
  | some a => (l.take p).drop a
  | none => []
def wordsH : List UInt8 → List UInt8 → List (List UInt8)
  | cur, [] => if cur = [] then [] else [cur]
  | cur, b :: t => if b = 35 then (if cur = [] then [] else [cur]) else if blkP b.toNat then (if cur = [] then wordsH [] t else cur :: wordsH [] t) else wordsH (cur ++ [b]) t
end Go.Proofs.YtcfhblbmpbfoaaaGreatDoor
namespace Go.Proofs.YtcfhblbmpbfoaaaGreatDoor
open Go Go.RowKit Go.Kt Go.Kt.Rg Go.Maps

/-! ### Lines of bytes -/
def FW (l : List UInt8) : List (List (List UInt8)) := ((linesP l).map wrdP).filter (fun w => !w.isEmpty)
def oneW (w : List (List UInt8)) : List (List (List UInt8)) := if w = [] then [] else [w]
/-! ### What PropsPlain writes -/
def trB : Bool → List UInt8 → List UInt8
  | _, [] => []
  | r, b :: t => if b = 32 ∧ r = false then 9 :: 32 :: 32 :: trB r t else b :: trB (r || b == 35) t
def endB : List UInt8 := [32, 35, 32, 120, 13, 10, 32, 10]
def trG : Bool → List UInt8 → List UInt8
  | _, [] => []
  | r, b :: t => if b = 13 ∧ (t = [] ∨ t.head? = some 10) then trG r t
      else if b = 32 ∧ r = false then 9 :: 32 :: 32 :: trG r t
      else if b = 10 then endB ++ trG false t
      else b :: trG (r || b == 35) t
def oneF (cur : List UInt8) : List (List UInt8) := if cur = [] then [] else [cur]
end Go.Proofs.YtcfhblbmpbfoaaaGreatDoor
