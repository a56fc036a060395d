/- What is the same of any program: one element more behind a row whose head may be frozen. -/
import Derived.Test.YtpddpglccjbpfaaDoorK2
import Derived.Lib.FrozenHead2
namespace Go.Kt
open Go Go.RowKit
variable {P : Program}

/-- 'append(v, x)' of one byte, the row's head frozen or not. -/
theorem append_b (W : World) (t e : TypeId) (ht : P.underlying t = some (.slice e)) (hinfo : (P.info? e).map (fun i => (i.zero, i.size, i.bytes)) = some (some (.int .u8 0), 1, 1))
    {v : Value} {n : Nat} {xs : List Value} (hown : W.ownsRowF 0 e 1 v n xs) (x : Value) (hx1 : x.oneCell' = true) (h63 : n + 1 ≤ 140737488355328) :
    ∃ g cap w', (∀ ty, (Builtin.append_ #[t, t] ty #[v, .slice (some ⟨W.heap.size, 0, none⟩) 1 1]).run P (W.alloc (.cells #[x] e)) = .ok (.slice (some ⟨g, 0, none⟩) (n + 1) cap) w') ∧ w'.ownsRowF 0 e 1 (.slice (some ⟨g, 0, none⟩) (n + 1) cap) (n + 1) (xs ++ [x]) ∧
      Keep (fun b => v.ownBlock = some b) W w' ∧ (v.ownBlock = some g ∨ W.heap.size < g) ∧ W.heap.size < w'.heap.size := by
  obtain ⟨i, hi, hz, hs1, hb1⟩ := info_parts hinfo
  have hc : ∀ j u, [x][j]? = some u → (W.alloc (.cells #[x] e)).cell? ((⟨W.heap.size, 0, none⟩ : Addr).add j) = some u := fun j u hj => by
    have hh := World.alloc_heap_new W (.cells #[x] e)
    rw [Addr.add_lit, Lib.cell_of_heap hh]
    simpa using hj
  have h1 : ∀ u ∈ [x], u.oneCell' = true := by intro u hu; simp at hu; subst hu; exact hx1
  have hm : n + 1 ≤ maxLen := by unfold maxLen; omega
  have hown' : (W.alloc (.cells #[x] e)).ownsRowF 0 e 1 v n xs := by
    refine ⟨hown.1, ?_⟩
    rcases hown.2 with h2 | ⟨g, cap, cur, fz, rfl, hb, hg, rest⟩
    · exact .inl h2
    · exact .inr ⟨g, cap, cur, fz, rfl, hb, ((Keep.refl (fun _ => False) W).alloc _).heap hg (fun h => h), rest⟩
  obtain ⟨v', w', hrun, r1, r2, r3⟩ := run_append_ownF (P := P) (W.alloc (.cells #[x] e)) 0 t 0 e i (.int .u8 0) 1 1 ht hi hz hs1 hb1 rfl (by omega) v n xs hown' ⟨W.heap.size, 0, none⟩ 1 1 [x] rfl hc h1 hm (by omega) (Nat.zero_le _)
  have hrun' : ∀ ty, (Builtin.append_ #[t, t] ty #[v, .slice (some ⟨W.heap.size, 0, none⟩) 1 1]).run P (W.alloc (.cells #[x] e)) = .ok v' w' := fun ty => hrun
  have hK : Keep (fun b => v.ownBlock = some b) W w' := ((Keep.refl _ W).alloc _).trans (keep_grown r2)
  have hsz' : W.heap.size < w'.heap.size := by have := r2.size; simp at this; omega
  rcases r1.2 with ⟨_, h⟩ | ⟨g, cap, cur, fz, rfl, hb, hg, rest⟩
  · omega
  refine ⟨g, cap, w', hrun', r1, hK, ?_, hsz'⟩
  rcases hown'.2 with ⟨hv, hn⟩ | ⟨g0, cap0, cur0, fz0, hv, hb0, hg0, hfz, hnc, hcm, hcs, _⟩
  · right
    obtain ⟨v2, w2, hrun2, q1, _⟩ := run_append_ownF (P := P) (W.alloc (.cells #[x] e)) (W.heap.size + 1) t 0 e i (.int .u8 0) 1 1 ht hi hz hs1 hb1 rfl (by omega) v n xs ⟨hown'.1, .inl ⟨hv, hn⟩⟩ ⟨W.heap.size, 0, none⟩ 1 1 [x] rfl hc h1 hm (by omega) (by simp)
    rw [hrun] at hrun2
    injection hrun2 with e1 e2
    subst e1; subst e2
    exact (q1.lt g rfl).1
  · subst hv
    by_cases hroom : n + 1 ≤ cap0
    · left
      have hr := run_append_roomF (P := P) (W.alloc (.cells #[x] e)) t 0 e i ht hi g0 n cap0 cur0 fz0 hg0 (by rw [hs1]; omega) ⟨W.heap.size, 0, none⟩ 1 1 [x] (by rw [hs1]; rfl) hc h1 hroom (by rw [hs1, hcs]; simp; omega)
      rw [hrun] at hr
      injection hr with e1 e2
      injection e1 with e1 _ _
      injection e1 with e1
      injection e1 with e1
      subst e1
      rfl
    · right
      have holds : ∀ j u, xs[j]? = some u → (W.alloc (.cells #[x] e)).cell? ((⟨g0, 0, none⟩ : Addr).add j) = some u := hown'.cells (g := g0) rfl
      have hr := run_append_grow (P := P) (W.alloc (.cells #[x] e)) t 0 e i (.int .u8 0) ht hi hz ⟨g0, 0, none⟩ n cap0 xs (by rw [hs1]; exact hown'.1) holds ⟨W.heap.size, 0, none⟩ 1 1 [x] (by rw [hs1]; rfl) hc (by omega) (by omega) (by rw [hb1]; exact growslice_fits (by omega) (by omega))
      rw [hrun] at hr
      injection hr with e1 e2
      injection e1 with e1 _ _
      injection e1 with e1
      injection e1 with e1
      subst e1
      simp
end Go.Kt
