/- glossaryref0.SameSpans of two equal slices. -/
import Derived.Test.YtmcmdijfdhlnaaaDoorNp
import Derived.Test.YtmcmdijfdhlnaaaDoorNk
import Derived.Deep.QuietTactic
import Derived.BigQuiet
namespace Go.Proofs.YtmcmdijfdhlnaaaDoor
open Go Go.RowKit Go.Kt Go.Kt.Rg

theorem encSp_get : ∀ (l : List (Int × Int)) (i : Nat) (x : Int × Int), l[i]? = some x → (encSp l)[i * 2]? = some (.int .i32 x.1) ∧ (encSp l)[i * 2 + 1]? = some (.int .i32 x.2)
  | [], i, x, h => by simp at h
  | y :: t, 0, x, h => by simp at h; subst h; exact ⟨rfl, rfl⟩
  | y :: t, i + 1, x, h => by
    have := encSp_get t i x (by simpa using h)
    have e : encSp (y :: t) = .int .i32 y.1 :: .int .i32 y.2 :: encSp t := rfl
    rw [e, show (i + 1) * 2 = i * 2 + 1 + 1 by omega]
    exact ⟨by simpa using this.1, by simpa using this.2⟩

theorem spg_of_own {Y : Nat → Prop} {v : Value} {n : Nat} {l : List (Int × Int)} {W : World} (h : OwnS Y 40 2 v n (encSp l) W) (hn : n = l.length) : SpG W v l := by
  subst hn
  rcases h.1.2 with ⟨hv, hn⟩ | ⟨g, cap, cur, hv, rest⟩
  · exact ⟨none, 0, by rw [hv, hn], .inl (List.eq_nil_of_length_eq_zero hn)⟩
  · refine ⟨_, cap, hv, .inr ⟨g, 0, rfl, fun i x hx => ?_⟩⟩
    subst hv
    have e := encSp_get l i x hx
    have c1 := h.1.cells (g := g) rfl _ _ e.1
    have c2 := h.1.cells (g := g) rfl _ _ e.2
    rw [Addr.add_lit] at c1 c2
    rw [Nat.zero_add] at c1 c2 ⊢
    exact ⟨c1, c2⟩

theorem SpG.below {A B : World} {v : Value} {l : List (Int × Int)} (h : SpG A v l) (hb : Below A.heap.size A B) : SpG B v l := by
  obtain ⟨ao, cap, rfl, h⟩ := h
  refine ⟨ao, cap, rfl, ?_⟩
  rcases h with h | ⟨g, off, rfl, h⟩
  · exact .inl h
  · exact .inr ⟨g, off, rfl, fun i x hx => ⟨(hb.cell (lt_of_cell (h i x hx).1)).trans (h i x hx).1, (hb.cell (lt_of_cell (h i x hx).2)).trans (h i x hx).2⟩⟩

set_option maxRecDepth 100000 in
set_option maxHeartbeats 2000000 in
theorem sameSpans_yes (v1 v2 : Value) (l : List (Int × Int)) (w : World) (h1 : SpG w v1 l) (h2 : SpG w v2 l) (m1 : l.length ≤ 4611686018427387904) :
    Calls Tryd.prog 20 #[v1, v2] w fun e w' => e = .returned (.bool true) ∧ Drawn w w' := by
  obtain ⟨a1, c1, rfl, h1⟩ := h1
  obtain ⟨a2, c2, rfl, h2⟩ := h2
  obtain ⟨n, hn⟩ : ∃ n, l.length = n := ⟨_, rfl⟩
  rw [hn] at m1
  have HN := Lib.hid hn
  have H1 := Lib.hid h1
  have H2 := Lib.hid h2
  have hne : ((n : Int) != n) = false := by simp
  rw [hn]
  clear h1 h2 hn
  go_enter Tryd.func20, Tryd.ntmps20
  go_wp2
  go_loopw [5] (fun v wr => ∃ k : Nat, k ≤ n ∧ v = .int .i64 k ∧ Drawn w wr) (fun v _ => n - (RowKit.intOf v).toNat)
  case atStart => exact ⟨0, by omega, rfl, Drawn.refl _⟩
  case round =>
    obtain ⟨k, hk, rfl, hb⟩ := hrel
    by_cases hlt : k < n
    · obtain ⟨x, e1⟩ : ∃ x, l[k]? = some x := ⟨_, List.getElem?_eq_getElem (by rw [HN.out]; exact hlt)⟩
      obtain ⟨g1, o1, rfl, k1⟩ : ∃ g off, a1 = some ⟨g, off, none⟩ ∧ ∀ (i : Nat) (x : Int × Int), l[i]? = some x → w.cell? ⟨g, off + i * 2, none⟩ = some (.int .i32 x.1) ∧ w.cell? ⟨g, off + i * 2 + 1, none⟩ = some (.int .i32 x.2) := by
        rcases H1.out with h | h
        · subst h; simp at e1
        · exact h
      obtain ⟨g2, o2, rfl, k2⟩ : ∃ g off, a2 = some ⟨g, off, none⟩ ∧ ∀ (i : Nat) (x : Int × Int), l[i]? = some x → w.cell? ⟨g, off + i * 2, none⟩ = some (.int .i32 x.1) ∧ w.cell? ⟨g, off + i * 2 + 1, none⟩ = some (.int .i32 x.2) := by
        rcases H2.out with h | h
        · subst h; simp at e1
        · exact h
      obtain ⟨p1, p2⟩ := k1 k x e1
      obtain ⟨p3, p4⟩ := k2 k x e1
      have hlt' : (k : Int) < n := by omega
      have q : ∀ V, Drawn w V → V.cell? ⟨g1, o1 + k * 2, none⟩ = some (.int .i32 x.1) ∧ V.cell? ⟨g1, o1 + k * 2 + 1, none⟩ = some (.int .i32 x.2) ∧ V.cell? ⟨g2, o2 + k * 2, none⟩ = some (.int .i32 x.1) ∧ V.cell? ⟨g2, o2 + k * 2 + 1, none⟩ = some (.int .i32 x.2) :=
        fun V hV => ⟨(hV.cell _).trans p1, (hV.cell _).trans p2, (hV.cell _).trans p3, (hV.cell _).trans p4⟩
      obtain ⟨q1, q2, q3, q4⟩ := q wr hb
      have hxx : (x.1 != x.1) = false := by simp
      have hxy : (x.2 != x.2) = false := by simp
      clear k1 k2 p1 p2 p3 p4 q e1
      go_wp2
      go_quiet (fail)
      go_wp2
      go_roundw
      case rel => exact ⟨k + 1, by omega, by go_num, hb.more _⟩
      case measure => simp [RowKit.intOf]; omega
    · have hke : k = n := by omega
      clear hke
      have hlt' : ¬ (k : Int) < n := by omega
      go_wp2
      go_ret
      exact ⟨rfl, hb⟩
end Go.Proofs.YtmcmdijfdhlnaaaDoor
