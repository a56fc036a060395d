/- slices.Concat of two rows of runs; Join. -/
import Derived.Test.YtmcmdijfdhlnaaaDoorNh
import Derived.Test.YtmcmdijfdhlnaaaDoorK7
import Derived.Lib.AppendZeros
namespace Go.Proofs.YtmcmdijfdhlnaaaDoor
open Go Go.RowKit Go.Kt Go.Kt.Rg

theorem base_own {B : Nat} {e : TypeId} {size n : Nat} {v : Value} {xs : List Value} {W : World} (h : W.ownsRow B e size v n xs) : OwnS (fun b => B ≤ b) e size v n xs W := by
  refine ⟨⟨h.1, ?_⟩, fun g hg => ?_⟩
  · rcases h.2 with h1 | ⟨g, cap, cur, rfl, _, rest⟩
    · exact .inl h1
    · exact .inr ⟨g, cap, cur, rfl, Nat.zero_le _, rest⟩
  · rcases h.2 with ⟨rfl, _⟩ | ⟨g', cap, cur, rfl, hb, _⟩
    · cases hg
    · cases hg; exact hb
theorem own_slice {Y : Nat → Prop} {e : TypeId} {size n : Nat} {v : Value} {xs : List Value} {W : World} (h : OwnS Y e size v n xs W) : ∃ ao cap, v = .slice ao n cap := by
  rcases h.1.2 with ⟨rfl, rfl⟩ | ⟨g, cap, cur, rfl, _⟩
  · exact ⟨_, _, rfl⟩
  · exact ⟨_, _, rfl⟩
theorem run_append_owned_none' {w : World} {base : Nat} {P : Program} (t ty e : TypeId) (i : TypeInfo) (size : Nat) (ht : P.underlying t = some (.slice e)) (hi : P.info? e = some i)
    (v : Value) (n : Nat) (xs : List Value) (hown : w.ownsRow base e size v n xs) (c : Nat) :
    (Builtin.append_ #[t, t] ty #[v, .slice none 0 c]).run P w = .ok v w := by
  rcases hown.2 with ⟨rfl, rfl⟩ | ⟨g, cap, cur, rfl, _, _, hnc, _⟩
  · simp [Builtin.append_, run_underlying ht, sizeOf, typeInfo, hi, Builtin.lenOf, Builtin.firstCells]
  · simp [Builtin.append_, run_underlying ht, sizeOf, typeInfo, hi, Builtin.lenOf, Builtin.firstCells, hnc, storeCells]
theorem encR_append (l m : List Run) : encR (l ++ m) = encR l ++ encR m := by simp [encR]

/-- A row of runs behind a row of one's own. -/
theorem append_slr {B : Nat} {v x : Value} {l m : List Run} {W : World} (hown : OwnS (fun b => B ≤ b) 51 2 v l.length (encR l) W) (hBW : B ≤ W.heap.size) (hS : SlR W x m) (hn : l.length + m.length ≤ 2199023255552) :
    ∃ v' w', (∀ ty, (Builtin.append_ #[47, 47] ty #[v, x]).run Tryd.prog W = .ok v' w') ∧ OwnS (fun b => B ≤ b) 51 2 v' (l ++ m).length (encR (l ++ m)) w' ∧ Keep (fun b => v.ownBlock = some b) W w' := by
  obtain ⟨i, hi, hz, hs1, hb1⟩ := info_parts tinfoRun
  obtain ⟨ao, cap, rfl, h⟩ := hS
  cases ao with
  | none =>
    have hm : m = [] := by
      rcases h with h | ⟨g, e, _⟩
      · exact h
      · cases e
    subst hm
    refine ⟨v, W, fun ty => run_append_owned_none' _ ty _ i 2 Tryd.underlying47 hi v _ _ hown.1 cap, ?_, Keep.refl _ _⟩
    rw [List.append_nil]; exact hown
  | some a =>
    have hcell : ∀ j u, (encR m)[j]? = some u → W.cell? (a.add j) = some u := by
      intro j u hj
      rcases h with h | ⟨g, e, h⟩
      · subst h; simp [encR] at hj
      · obtain rfl := Option.some.inj e
        have hjl : j < m.length * 2 := by rw [← encR_len]; exact (List.getElem?_eq_some_iff.1 hj).1
        obtain ⟨y, hy⟩ : ∃ y, m[j / 2]? = some y := ⟨_, List.getElem?_eq_getElem (by omega)⟩
        have e := encR_get m _ y hy
        have c := h _ y hy
        rw [Addr.add_lit, Nat.zero_add]
        rcases (by omega : j % 2 = 0 ∨ j % 2 = 1) with k | k
        · rw [show j / 2 * 2 = j by omega] at e c
          rw [e.1] at hj
          rw [c.1]; exact hj
        · rw [show j / 2 * 2 + 1 = j by omega] at e c
          rw [e.2] at hj
          rw [c.2]; exact hj
    have h1 : ∀ u ∈ encR m, u.oneCell' = true := by
      intro u hu
      simp only [encR, List.mem_flatMap] at hu
      obtain ⟨y, _, hy⟩ := hu
      simp at hy
      rcases hy with rfl | rfl <;> rfl
    obtain ⟨v', w', hrun, r1, r2, _⟩ := run_append_own (P := Tryd.prog) W B 47 0 51 i _ 2 16 Tryd.underlying47 hi hz hs1 hb1 rfl (by omega) v l.length (encR l) (own_base hown (fun _ h => h)) a m.length cap (encR m) (encR_len m) hcell h1
      (by unfold maxLen; omega) (by omega) hBW
    refine ⟨v', w', fun ty => hrun, ?_, keep_grown r2⟩
    rw [List.length_append, encR_append]
    exact base_own r1

set_option maxRecDepth 100000 in
theorem rgrow_any (n : Nat) (w : World) (hn : n ≤ 2199023255552) :
    Calls Tryd.prog 40 #[.slice none 0 0, .int .i64 n] w fun e w' => ∃ v, e = .returned v ∧ OwnS (fun b => w.heap.size ≤ b) 51 2 v 0 (encR []) w' ∧ Below w.heap.size w w' := by
  obtain ⟨i, hi, hz, hs1, hb1⟩ := info_parts tinfoRun
  by_cases h0 : n = 0
  · subst h0
    go_enter Tryd.func40, Tryd.ntmps40
    go_wp2
    go_ret
    exact ⟨_, rfl, own_nil _ _ _ _, Below.refl _ _⟩
  · have hn0 : 0 < (n : Int) := by omega
    have happ := Lib.run_append_nil_zeros (P := Tryd.prog) w 47 3 0 51 i _ .i64 .i64 Tryd.underlying47 Tryd.underlying3 hi hz n (by omega) (by rw [hs1]; omega) (by omega) (by rw [hb1]; omega)
    have hge := grownCap_ge w n 0 51
    have hcm : grownCap w n 0 51 ≤ maxLen := grownCap_le_maxLen w n 0 51 (by unfold maxLen; omega)
    have hml : maxLen ≤ 9223372036854775807 := by unfold maxLen; omega
    generalize grownCap w n 0 51 = C at *
    have HR : Hid (∀ ty, (Builtin.append_ #[47, 3] ty #[.slice none 0 0, .int .i64 n]).run Tryd.prog w = _) := Lib.hid fun ty => happ
    obtain ⟨V, hV⟩ : ∃ V, w.drew.alloc (.cells (Builtin.zeroCells (Value.agg #[.int .i64 0, .int .i64 0]).cells n ++ Builtin.zeroCells (Value.agg #[.int .i64 0, .int .i64 0]).cells (C - n)) 51) = V := ⟨_, rfl⟩
    rw [hV] at HR
    have ho : OwnS (fun b => w.heap.size ≤ b) 51 2 (.slice (some ⟨w.heap.size, 0, none⟩) 0 C) 0 (encR []) V := by
      refine ⟨⟨rfl, .inr ⟨w.heap.size, C, _, rfl, Nat.zero_le _, by rw [← hV]; exact heap_alloc_new w.drew _, Nat.zero_le _, hcm, ?_, rfl⟩⟩, fun g hg => by cases hg; exact Nat.le_refl _⟩
      rw [Array.size_append, size_zeroCells, size_zeroCells]
      show n * 2 + (C - n) * 2 = C * 2
      omega
    have hb : Below w.heap.size w V := by rw [← hV]; exact (show Below w.heap.size w w.drew from below_drewN (Below.refl _ w) 1).alloc (Nat.le_refl _) _
    have HO := Lib.hid (And.intro ho hb)
    have hC : (C : Int) ≤ 9223372036854775807 := by omega
    clear happ hV ho hb hcm hml
    go_enter Tryd.func40, Tryd.ntmps40
    go_wp2_with (at_builtin; refine wpList_append_eq rfl rfl rfl rfl HR.out ?_)
    go_ret
    exact ⟨_, rfl, HO.out.1, HO.out.2⟩
end Go.Proofs.YtmcmdijfdhlnaaaDoor
