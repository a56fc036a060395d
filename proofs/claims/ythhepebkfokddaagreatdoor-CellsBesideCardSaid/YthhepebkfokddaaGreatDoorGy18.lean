/- Parts of the proof of what the last text says. -/
import Derived.Test.YthhepebkfokddaaGreatDoorGy10
import Derived.Lib.AppendZeros
import Derived.Test.YthhepebkfokddaaGreatDoorGy6
import Derived.Test.YthhepebkfokddaaGreatDoorGy5
/- props: slices.Concat of rows of rows. -/
namespace Go.Proofs.YthhepebkfokddaaGreatDoor
open Go Go.RowKit Go.Kt Go.Kt.Rg

def SlW (w : World) (v : Value) (l : List (Nat × Nat × Int)) : Prop :=
  ∃ ao cp, v = .slice ao l.length cp ∧ (l = [] ∨ ∃ g, ao = some ⟨g, 0, none⟩ ∧ ∀ (i : Nat) (r : Nat × Nat × Int), l[i]? = some r → w.cell? ⟨g, i * 3, none⟩ = some (.int .i32 r.1) ∧ w.cell? ⟨g, i * 3 + 1, none⟩ = some (.int .i32 r.2.1) ∧ w.cell? ⟨g, i * 3 + 2, none⟩ = some (.int .i64 r.2.2))
theorem SlW.below {v : Value} {l : List (Nat × Nat × Int)} {A B : World} (h : SlW A v l) (hb : Below A.heap.size A B) : SlW B v l := by
  obtain ⟨ao, cp, rfl, h⟩ := h
  refine ⟨ao, cp, rfl, ?_⟩
  rcases h with h | ⟨g, e, h⟩
  · exact .inl h
  · exact .inr ⟨g, e, fun i r hr => ⟨(hb.cell (lt_of_cell (h i r hr).1)).trans (h i r hr).1, (hb.cell (lt_of_cell (h i r hr).2.1)).trans (h i r hr).2.1, (hb.cell (lt_of_cell (h i r hr).2.2)).trans (h i r hr).2.2⟩⟩
theorem rwE_len (l : List (Nat × Nat × Int)) : (rwE l).length = l.length * 3 := by
  induction l with
  | nil => rfl
  | cons x t ih => simp [rwE] at ih ⊢; omega
theorem rwE_append (l m : List (Nat × Nat × Int)) : rwE (l ++ m) = rwE l ++ rwE m := by simp [rwE]
theorem rwE_get (l : List (Nat × Nat × Int)) (i : Nat) (x : Nat × Nat × Int) (h : l[i]? = some x) : (rwE l)[i * 3]? = some (.int .i32 x.1) ∧ (rwE l)[i * 3 + 1]? = some (.int .i32 x.2.1) ∧ (rwE l)[i * 3 + 2]? = some (.int .i64 x.2.2) := by
  induction l generalizing i with
  | nil => cases h
  | cons y t ih =>
    have e : rwE (y :: t) = [.int .i32 y.1, .int .i32 y.2.1, .int .i64 y.2.2] ++ rwE t := by simp [rwE]
    cases i with
    | zero =>
      simp at h
      subst h
      rw [e]
      simp
    | succ i =>
      simp at h
      have h9 := ih i h
      rw [e, show (i + 1) * 3 = i * 3 + 3 by omega]
      refine ⟨?_, ?_, ?_⟩
      · rw [List.getElem?_append_right (by simp)]
        simpa using h9.1
      · rw [List.getElem?_append_right (by simp)]
        rw [show i * 3 + 3 + 1 - [Value.int .i32 y.1, .int .i32 y.2.1, .int .i64 y.2.2].length = i * 3 + 1 by simp]
        exact h9.2.1
      · rw [List.getElem?_append_right (by simp)]
        rw [show i * 3 + 3 + 2 - [Value.int .i32 y.1, .int .i32 y.2.1, .int .i64 y.2.2].length = i * 3 + 2 by simp]
        exact h9.2.2
theorem own_slw {Y : Nat → Prop} {v : Value} {l : List (Nat × Nat × Int)} {w : World} (h : OwnS Y 106 3 v l.length (rwE l) w) : SlW w v l := by
  rcases h.shape with ⟨hv, h0⟩ | ⟨gb, cap, hv, hg, hgl⟩
  · exact ⟨none, 0, by rw [hv, h0], .inl (List.length_eq_zero_iff.1 h0)⟩
  · refine ⟨_, cap, hv, .inr ⟨gb, rfl, fun i r hr => ?_⟩⟩
    subst hv
    obtain ⟨e1, e2, e3⟩ := rwE_get l i r hr
    exact ⟨h.atN e1, h.atN e2, h.atN e3⟩
theorem SlW.rows {w : World} {v : Value} {l : List (Nat × Nat × Int)} (h : OwnS (fun _ => True) 106 3 v l.length (rwE l) w) (hne : l ≠ []) : RowsV v l w := by
  rcases h.shape with ⟨_, h0⟩ | ⟨gb, cap, hv, hg, hgl⟩
  · exact absurd (List.length_eq_zero_iff.1 h0) hne
  · subst hv
    have hc : l.length ≤ cap := by
      rcases h.1.2 with ⟨hv, _⟩ | ⟨g', cap', cur, hv, _, hgg, hnc, hcm, _⟩
      · cases hv
      · cases hv; exact hnc
    refine ⟨gb, cap, rfl, hc, fun i r hr => ?_⟩
    obtain ⟨e1, e2, e3⟩ := rwE_get l i r hr
    exact ⟨h.atN e1, h.atN e2, h.atN e3⟩

theorem append_slw {B : Nat} {v x : Value} {l m : List (Nat × Nat × Int)} {W : World} (hown : OwnS (fun b => B ≤ b) 106 3 v l.length (rwE l) W) (hBW : B ≤ W.heap.size) (hS : SlW W x m) (hn : l.length + m.length ≤ 2199023255552) :
    ∃ v' w', (∀ ty, (Builtin.append_ #[53, 53] ty #[v, x]).run Tryz.prog W = .ok v' w') ∧ OwnS (fun b => B ≤ b) 106 3 v' (l ++ m).length (rwE (l ++ m)) w' ∧ Keep (fun b => v.ownBlock = some b) W w' := by
  obtain ⟨i, hi, hz, hs1, hb1⟩ := info_parts tinfoRow
  obtain ⟨ao, cap, rfl, h⟩ := hS
  cases ao with
  | none =>
    have hm : m = [] := by
      rcases h with h | ⟨g, e, _⟩
      · exact h
      · cases e
    subst hm
    refine ⟨v, W, fun ty => append_no_more _ ty _ i 3 Tryz.underlying53 hi v _ _ hown.1 cap, ?_, Keep.refl _ _⟩
    rw [List.append_nil]; exact hown
  | some a =>
    have hcell : ∀ j u, (rwE m)[j]? = some u → W.cell? (a.add j) = some u := by
      intro j u hj
      rcases h with h | ⟨g, e, h⟩
      · subst h; simp [rwE] at hj
      · obtain rfl := Option.some.inj e
        have hjl : j < m.length * 3 := by rw [← rwE_len]; exact (List.getElem?_eq_some_iff.1 hj).1
        obtain ⟨y, hy⟩ : ∃ y, m[j / 3]? = some y := ⟨_, List.getElem?_eq_getElem (by omega)⟩
        have e := rwE_get m _ y hy
        have c := h _ y hy
        rw [Addr.add_lit, Nat.zero_add]
        rcases (by omega : j % 3 = 0 ∨ j % 3 = 1 ∨ j % 3 = 2) with k | k | k
        · rw [show j / 3 * 3 = j by omega] at e c
          rw [e.1] at hj
          rw [c.1]; exact hj
        · rw [show j / 3 * 3 + 1 = j by omega] at e c
          rw [e.2.1] at hj
          rw [c.2.1]; exact hj
        · rw [show j / 3 * 3 + 2 = j by omega] at e c
          rw [e.2.2] at hj
          rw [c.2.2]; exact hj
    have h1 : ∀ u ∈ rwE m, u.oneCell' = true := by
      intro u hu
      simp only [rwE, List.mem_flatMap] at hu
      obtain ⟨y, _, hy⟩ := hu
      simp at hy
      rcases hy with rfl | rfl | rfl <;> rfl
    obtain ⟨v', w', hrun, r1, r2, _⟩ := run_append_own (P := Tryz.prog) W B 53 0 106 i _ 3 16 Tryz.underlying53 hi hz hs1 hb1 rfl (by omega) v l.length (rwE l) (own_to_base hown (fun _ h => h)) a m.length cap (rwE m) (rwE_len m) hcell h1
      (by unfold maxLen; omega) (by omega) hBW
    refine ⟨v', w', fun ty => hrun, ?_, keep_grown r2⟩
    rw [List.length_append, rwE_append]
    exact own_from_base r1

set_option maxRecDepth 100000 in
theorem pgrow_any (n : Nat) (w : World) (hn : n ≤ 2199023255552) :
    Calls Tryz.prog 92 #[.slice none 0 0, .int .i64 n] w fun e w' => ∃ v, e = .returned v ∧ OwnS (fun b => w.heap.size ≤ b) 106 3 v 0 (rwE []) w' ∧ Below w.heap.size w w' := by
  obtain ⟨i, hi, hz, hs1, hb1⟩ := info_parts tinfoRow
  by_cases h0 : n = 0
  · subst h0
    go_enter Tryz.func92, Tryz.ntmps92
    go_wp2
    go_ret
    exact ⟨_, rfl, own_nil _ _ _ _, Below.refl _ _⟩
  · have hn0 : 0 < (n : Int) := by omega
    have happ := Lib.run_append_nil_zeros (P := Tryz.prog) w 53 3 0 106 i _ .i64 .i64 Tryz.underlying53 Tryz.underlying3 hi hz n (by omega) (by rw [hs1]; omega) (by omega) (by rw [hb1]; omega)
    have hge := grownCap_ge w n 0 106
    have hcm : grownCap w n 0 106 ≤ maxLen := grownCap_le_maxLen w n 0 106 (by unfold maxLen; omega)
    have hml : maxLen ≤ 9223372036854775807 := by unfold maxLen; omega
    generalize grownCap w n 0 106 = C at *
    have HR : Hid (∀ ty, (Builtin.append_ #[53, 3] ty #[.slice none 0 0, .int .i64 n]).run Tryz.prog w = _) := Lib.hid fun ty => happ
    obtain ⟨V, hV⟩ : ∃ V, w.drew.alloc (.cells (Builtin.zeroCells (Value.agg #[.int .i32 0, .int .i32 0, .int .i64 0]).cells n ++ Builtin.zeroCells (Value.agg #[.int .i32 0, .int .i32 0, .int .i64 0]).cells (C - n)) 106) = V := ⟨_, rfl⟩
    rw [hV] at HR
    have ho : OwnS (fun b => w.heap.size ≤ b) 106 3 (.slice (some ⟨w.heap.size, 0, none⟩) 0 C) 0 (rwE []) V := by
      refine ⟨⟨rfl, .inr ⟨w.heap.size, C, _, rfl, Nat.zero_le _, by rw [← hV]; exact heap_alloc_new w.drew _, Nat.zero_le _, hcm, ?_, rfl⟩⟩, fun g hg => by cases hg; exact Nat.le_refl _⟩
      rw [Array.size_append, size_zeroCells, size_zeroCells]
      show n * 3 + (C - n) * 3 = C * 3
      omega
    have hb : Below w.heap.size w V := by rw [← hV]; exact (show Below w.heap.size w w.drew from below_drewN (Below.refl _ w) 1).alloc (Nat.le_refl _) _
    have HO := Lib.hid (And.intro ho hb)
    have hC : (C : Int) ≤ 9223372036854775807 := by omega
    clear happ hV ho hb hcm hml
    go_enter Tryz.func92, Tryz.ntmps92
    go_wp2_with (at_builtin; refine wpList_append_eq rfl rfl rfl rfl HR.out ?_)
    go_ret
    exact ⟨_, rfl, HO.out.1, HO.out.2⟩

def catW (l1 l2 l3 : List (Nat × Nat × Int)) : Nat → List (Nat × Nat × Int)
  | 0 => []
  | 1 => l1
  | 2 => l1 ++ l2
  | _ => l1 ++ l2 ++ l3
set_option maxRecDepth 100000 in
set_option maxHeartbeats 2000000 in
theorem pconcat_any (l1 l2 l3 : List (Nat × Nat × Int)) (v1 v2 v3 : Value) (h : Nat) (w : World) (c1 : w.cell? ⟨h, 0, none⟩ = some v1) (c2 : w.cell? ⟨h, 1, none⟩ = some v2) (c3 : w.cell? ⟨h, 2, none⟩ = some v3) (h1 : SlW w v1 l1) (h2 : SlW w v2 l2) (h3 : SlW w v3 l3) (m1 : l1.length ≤ 1112192) (m2 : l2.length ≤ 1112192) (m3 : l3.length ≤ 1112192) :
    Calls Tryz.prog 50 #[.slice (some ⟨h, 0, none⟩) 3 3] w fun e w' => ∃ v, e = .returned v ∧ OwnS (fun b => w.heap.size ≤ b) 106 3 v (l1 ++ l2 ++ l3).length (rwE (l1 ++ l2 ++ l3)) w' ∧ Below w.heap.size w w' := by
  have H1 := Lib.hid h1
  have H2 := Lib.hid h2
  have H3 := Lib.hid h3
  obtain ⟨a1, cp1, rfl, _⟩ := h1
  obtain ⟨a2, cp2, rfl, _⟩ := h2
  obtain ⟨a3, cp3, rfl, _⟩ := h3
  obtain ⟨n1, hn1⟩ : ∃ n, l1.length = n := ⟨_, rfl⟩
  obtain ⟨n2, hn2⟩ : ∃ n, l2.length = n := ⟨_, rfl⟩
  obtain ⟨n3, hn3⟩ : ∃ n, l3.length = n := ⟨_, rfl⟩
  rw [hn1] at c1 m1 H1
  rw [hn2] at c2 m2 H2
  rw [hn3] at c3 m3 H3
  have HN := Lib.hid (And.intro hn1 (And.intro hn2 hn3))
  have CG0 := pgrow_any (n1 + n2 + n3) w (by omega)
  rw [Int.natCast_add, Int.natCast_add] at CG0
  have CG := Lib.hid CG0
  clear CG0
  have lh := lt_of_cell c1
  clear hn1 hn2 hn3
  go_enter Tryz.func50, Tryz.ntmps50
  go_wp2
  go_loop [3, 11] (fun a x => ∃ k : Nat, x = .int .i64 k ∧ ((k = 0 ∧ a = .int .i64 0) ∨ (k = 1 ∧ a = .int .i64 n1) ∨ (k = 2 ∧ a = .int .i64 ((n1 : Int) + n2)) ∨ (k = 3 ∧ a = .int .i64 ((n1 : Int) + n2 + n3)))) (fun _ x => 3 - (RowKit.intOf x).toNat)
  case atStart => exact ⟨0, rfl, .inl ⟨rfl, rfl⟩⟩
  case round =>
    obtain ⟨k, rfl, hk⟩ := hrel
    rcases hk with ⟨rfl, rfl⟩ | ⟨rfl, rfl⟩ | ⟨rfl, rfl⟩ | ⟨rfl, rfl⟩
    · go_wp2
      go_round
      case rel => exact ⟨1, by go_num, .inr (.inl ⟨rfl, by go_num⟩)⟩
      case measure => simp [RowKit.intOf]
    · go_wp2
      go_round
      case rel => exact ⟨2, by go_num, .inr (.inr (.inl ⟨rfl, by go_num⟩))⟩
      case measure => simp [RowKit.intOf]
    · go_wp2
      go_round
      case rel => exact ⟨3, by go_num, .inr (.inr (.inr ⟨rfl, by go_num⟩))⟩
      case measure => simp [RowKit.intOf]
    · go_wp2_with fail
      refine CG.out.mono ?_
      rintro e w1 ⟨v0, rfl, ho, hb⟩
      have q1 := (hb.cell lh).trans c1
      have q2 := (hb.cell lh).trans c2
      have q3 := (hb.cell lh).trans c3
      have HO := Lib.hid (And.intro ho hb)
      clear ho hb
      go_wp2_with fail
      go_loopw [6, 27] (fun s x wr => ∃ k : Nat, x = .int .i64 k ∧ k ≤ 3 ∧ OwnS (fun b => w.heap.size ≤ b) 106 3 s (catW l1 l2 l3 k).length (rwE (catW l1 l2 l3 k)) wr ∧ Below w.heap.size w wr) (fun _ x _ => 3 - (RowKit.intOf x).toNat)
      case atStart => exact ⟨0, rfl, by omega, HO.out.1, HO.out.2⟩
      case round =>
        obtain ⟨k, rfl, hk, ho2, hb2⟩ := hrel
        have HI := Lib.hid (And.intro ho2 hb2)
        have z1 := (hb2.cell lh).trans c1
        have z2 := (hb2.cell lh).trans c2
        have z3 := (hb2.cell lh).trans c3
        clear ho2 hb2 q1 q2 q3
        rcases (by omega : k = 0 ∨ k = 1 ∨ k = 2 ∨ k = 3) with rfl | rfl | rfl | rfl
        · obtain ⟨v', w', hrun, hown, hkp⟩ := append_slw HI.out.1 HI.out.2.size (H1.out.below HI.out.2) (by show 0 + l1.length ≤ _; rw [HN.out.1]; omega)
          have hbb := HI.out.2.trans (hkp.below HI.out.2.size fun b h => HI.out.1.2 b h)
          have HRun := Lib.hid hrun
          have HG := Lib.hid (And.intro hown hbb)
          clear hrun hown hkp hbb
          go_wp2_with (at_builtin; refine wpList_append_eq rfl rfl rfl rfl HRun.out ?_)
          go_roundw
          case rel => exact ⟨1, by go_num, by omega, HG.out.1, HG.out.2⟩
          case measure => simp [RowKit.intOf]
        · obtain ⟨v', w', hrun, hown, hkp⟩ := append_slw HI.out.1 HI.out.2.size (H2.out.below HI.out.2) (by show l1.length + l2.length ≤ _; rw [HN.out.1, HN.out.2.1]; omega)
          have hbb := HI.out.2.trans (hkp.below HI.out.2.size fun b h => HI.out.1.2 b h)
          have HRun := Lib.hid hrun
          have HG := Lib.hid (And.intro hown hbb)
          clear hrun hown hkp hbb
          go_wp2_with (at_builtin; refine wpList_append_eq rfl rfl rfl rfl HRun.out ?_)
          go_roundw
          case rel => exact ⟨2, by go_num, by omega, HG.out.1, HG.out.2⟩
          case measure => simp [RowKit.intOf]
        · obtain ⟨v', w', hrun, hown, hkp⟩ := append_slw HI.out.1 HI.out.2.size (H3.out.below HI.out.2) (by show (l1 ++ l2).length + l3.length ≤ _; rw [List.length_append, HN.out.1, HN.out.2.1, HN.out.2.2]; omega)
          have hbb := HI.out.2.trans (hkp.below HI.out.2.size fun b h => HI.out.1.2 b h)
          have HRun := Lib.hid hrun
          have HG := Lib.hid (And.intro hown hbb)
          clear hrun hown hkp hbb
          go_wp2_with (at_builtin; refine wpList_append_eq rfl rfl rfl rfl HRun.out ?_)
          go_roundw
          case rel => exact ⟨3, by go_num, by omega, HG.out.1, HG.out.2⟩
          case measure => simp [RowKit.intOf]
        · go_wp2
          go_ret
          exact ⟨_, rfl, HI.out.1, HI.out.2⟩
end Go.Proofs.YthhepebkfokddaaGreatDoor
/- What is the same of any program: a drawn region in which calls make memory, and which stores once, behind all else (K12). -/
namespace Go.Kt
open Go Go.RowKit

structure StoB where
  w : World
  H : Nat
  gp : Nat
  js : Nat
  P : Nat → Value → World → Prop
  Fin : World → Prop
variable {F : StoB} {D : Nat → Bool} {X Y W : World} {i : Nat} {v u : Value}
def StoB.S (F : StoB) (D : Nat → Bool) (X : World) : Prop := D F.js = false → Below F.H F.w X
def StoB.p (F : StoB) (i : Nat) (v : Value) (W : World) : Prop := (i ≠ F.js → ∃ W', Below F.H F.w W' ∧ F.P i v W' ∧ Keep (fun b => b = F.gp) W' W) ∧ (i = F.js → F.Fin W)
structure StoB.Ok (F : StoB) : Prop where
  H : F.H = F.w.heap.size
  g : F.gp < F.H
  P : ∀ i v A B, Below A.heap.size A B → F.P i v A → F.P i v B
theorem StoB.get (h : F.p i v X) (hO : F.Ok) (hX : F.S D X) (hD : D F.js = false) (hi : i ≠ F.js) : F.P i v X := by
  obtain ⟨W', h1, h2, h3⟩ := h.1 hi
  have hb := hX hD
  refine hO.P i v W' X ⟨h3.os, h3.tape, h3.output, h3.size, fun x hx => ?_⟩ h2
  by_cases e : x = F.gp
  · subst e
    exact (hb.block F.gp hO.g).trans (h1.block F.gp hO.g).symm
  · exact h3.same x hx e
theorem StoB.go (hO : F.Ok) (hX : F.S D X) (hD : D F.js = false) (hi : i ≠ F.js) (hb : Below X.heap.size X Y) (hv : F.P i v Y) :
    F.S (fun j => D j || j == i) Y ∧ (∀ j u, D j = true → F.p j u X → F.p j u Y) ∧ F.p i v Y := by
  have h0 := hX hD
  have hs : F.H ≤ X.heap.size := by rw [hO.H]; exact h0.size
  have h1 : Below F.H F.w Y := h0.trans (hb.mono hs)
  refine ⟨fun _ => h1, fun j u hj h => ⟨fun hne => ?_, fun e => by rw [e, hD] at hj; cases hj⟩, fun _ => ⟨Y, h1, hv, Keep.refl _ _⟩, fun e => absurd e hi⟩
  obtain ⟨W', a1, a2, a3⟩ := h.1 hne
  exact ⟨W', a1, a2, a3.trans (Keep.of_all hb)⟩
theorem StoB.last (hD : D F.js = false) (hk : Keep (fun b => b = F.gp) X Y) (hv : F.Fin Y) :
    F.S (fun j => D j || j == F.js) Y ∧ (∀ j u, D j = true → F.p j u X → F.p j u Y) ∧ F.p F.js v Y := by
  refine ⟨fun e => by simp at e, fun j u hj h => ⟨fun hne => ?_, fun e => by rw [e, hD] at hj; cases hj⟩, fun h => absurd rfl h, fun _ => hv⟩
  obtain ⟨W', a1, a2, a3⟩ := h.1 hne
  exact ⟨W', a1, a2, a3.trans hk⟩

section
variable {P : Program} {ops : Array Oper} {Q : Exit → Act → World → Prop}
def reachB (ops : Array Oper) : Nat → Nat → Nat → Bool
  | 0, _, _ => false
  | n + 1, j, i => awaits .any ops j i || (List.range ops.size).any fun k => awaits .any ops j k && reachB ops n k i
def ClosedD (ops : Array Oper) (D : Nat → Bool) : Prop := ∀ j i, D j = true → awaits .any ops j i = true → D i = true
theorem ClosedD.reach (h : ClosedD ops D) : ∀ (n j i : Nat), reachB ops n j i = true → D j = true → D i = true
  | 0, _, _, hr, _ => by cases hr
  | n + 1, j, i, hr, hj => by
    unfold reachB at hr
    rw [Bool.or_eq_true] at hr
    rcases hr with hr | hr
    · exact h j i hj hr
    · obtain ⟨k, _, hk⟩ := List.any_eq_true.1 hr
      rw [Bool.and_eq_true] at hk
      exact ClosedD.reach h n k i hk.2 (h j k hj hk.1)
def BStep (P : Program) (ops : Array Oper) (Q : Exit → Act → World → Prop) (F : StoB) (a0 : Act) (i : Nat) (o : Oper) : Prop :=
  ∀ a X, Below F.H F.w X → Like ops a0 a → (∀ j k, j ≠ F.js → waitsB .any o j = true → slotB ops j k = true → F.P j (a.tmps.getD k undef) X) →
    Region.wanted o (yielded ops a.tmps) = true ∧ o.wp P a X (fun a' w' => ∃ v, a' = a.put o.dst v ∧ ((i ≠ F.js ∧ Below X.heap.size X w' ∧ F.P i v w') ∨ (i = F.js ∧ Keep (fun b => b = F.gp) X w' ∧ F.Fin w'))) Q
def BSteps (P : Program) (ops : Array Oper) (Q : Exit → Act → World → Prop) (F : StoB) (a0 : Act) : Nat → List Oper → Prop
  | _, [] => True
  | i, o :: r => BStep P ops Q F a0 i o ∧ BSteps P ops Q F a0 (i + 1) r
theorem BSteps.cons {F : StoB} {a0 : Act} {i : Nat} {o : Oper} {r : List Oper} (h : BStep P ops Q F a0 i o) (hr : BSteps P ops Q F a0 (i + 1) r) : BSteps P ops Q F a0 i (o :: r) := ⟨h, hr⟩
theorem BSteps.nil {F : StoB} {a0 : Act} {i : Nat} : BSteps P ops Q F a0 i [] := trivial
theorem BSteps.done {F : StoB} {a0 : Act} (hO : F.Ok) (hr : ∀ i, i < ops.size → i ≠ F.js → reachB ops ops.size F.js i = true) : ∀ (l : List Oper) (i : Nat), (∀ j o, l[j]? = some o → ops[i + j]? = some o) → BSteps P ops Q F a0 i l →
    DSteps P .any ops Q (fun D X => ClosedD ops D ∧ F.S D X) F.p a0 i l
  | [], _, _, _ => trivial
  | o :: r, i, hl, hs => by
    refine ⟨?_, BSteps.done hO hr r (i + 1) (fun j x hx => by rw [show i + 1 + j = i + (j + 1) by omega]; exact hl (j + 1) x (by simpa using hx)) hs.2⟩
    intro D a X hDi hDa hDw hS hL hd
    have hio : ops[i]? = some o := by have := hl 0 o rfl; simpa using this
    have hD : D F.js = false := by
      by_cases e : i = F.js
      · rw [← e]; exact hDi
      · cases h : D F.js with
        | false => rfl
        | true =>
          have := hS.1.reach _ _ _ (hr i (Array.getElem?_eq_some_iff.1 hio).1 e) h
          rw [hDi] at this; cases this
    obtain ⟨h1, h2⟩ := hs.1 a X (hS.2 hD) hL (fun j k hj hw hk => StoB.get (hd j k hw hk) hO hS.2 hD hj)
    refine ⟨h1, Oper.wp_mono ?_ h2⟩
    rintro a' w' ⟨v, e, hv⟩
    have hcl : ClosedD ops (fun j => D j || j == i) := fun j x hj hx => by
      rw [Bool.or_eq_true] at hj
      rcases hj with hj | hj
      · show (D x || x == i) = true
        rw [hS.1 j x hj hx]; rfl
      · have e2 : j = i := by simpa using hj
        subst e2
        unfold awaits at hx
        rw [hio] at hx
        show (D x || x == j) = true
        rw [hDw x hx]; rfl
    rcases hv with ⟨hi, hb, hv⟩ | ⟨hi, hk, hv⟩
    · obtain ⟨g1, g2, g3⟩ := StoB.go hO hS.2 hD hi hb hv
      exact ⟨v, e, ⟨hcl, g1⟩, g2, g3⟩
    · subst hi
      obtain ⟨g1, g2, g3⟩ := StoB.last (v := v) hD hk hv
      exact ⟨v, e, ⟨hcl, g1⟩, g2, g3⟩
theorem wp_region_stob {id : Nat} {a0 : Act} {w0 : World} (F : StoB) (hm : P.follows .mixedOrders = true) (hap : apartB ops a0.tmps.size = true) (hfw : forwardB .any ops = true)
    (hO : F.Ok) (hr : ((List.range ops.size).all fun i => i == F.js || reachB ops ops.size F.js i) = true) (hjs : F.js < ops.size) (h0 : Below F.H F.w w0.drew) (hs : BSteps P ops Q F a0 0 ops.toList)
    (hd : ∀ a w, Like ops a0 a → F.Fin w → Q .normal a w) : (Code.region id ops true).wp P Q a0 w0 := by
  refine wp_region_done (fun D X => ClosedD ops D ∧ F.S D X) F.p hm hap hfw ⟨fun _ _ h => (by cases h), fun _ => h0⟩
    (BSteps.done hO (fun i hi hne => by
      have := List.all_eq_true.1 hr i (List.mem_range.2 hi)
      rw [Bool.or_eq_true] at this
      rcases this with h | h
      · exact absurd (by simpa using h) hne
      · exact h) ops.toList 0 (fun j o h => by simpa using h) hs) (fun D a w hAll hS hL hP hE => ?_)
  obtain ⟨v, hv⟩ := hE F.js hjs
  exact hd a w hL (hv.2 rfl)
end
end Go.Kt
