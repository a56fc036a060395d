/- What is the same of any program: an append leaves the cells of the slice it was given as they were. -/
import Derived.Test.YtfpfpaaojdodnaaGreatDoorGz1
namespace Go.Kt
open Go Go.RowKit
variable {P : Program}

theorem append_keep (W : World) (t e : TypeId) {z : Value} {size bytes : Nat} (ht : P.underlying t = some (.slice e)) (hinfo : (P.info? e).map (fun i => (i.zero, i.size, i.bytes)) = some (some z, size, bytes))
    (hzs : z.cells.size = size) (hsz : 0 < size) {Y : Nat → Prop} {g0 cap0 n : Nat} {xs : List Value} (hown : OwnS Y e size (.slice (some ⟨g0, 0, none⟩) n cap0) n xs W)
    (news : List Value) (hl : news.length = size) (h1 : ∀ u ∈ news, u.oneCell' = true) (h63 : n + 1 ≤ maxLen) (hbytes : (n + 1) * bytes ≤ 140737488355328) {ty : TypeId} {v' : Value} {w' : World}
    (hrun : (Builtin.append_ #[t, t] ty #[.slice (some ⟨g0, 0, none⟩) n cap0, .slice (some ⟨W.heap.size, 0, none⟩) 1 1]).run P (W.alloc (.cells news.toArray e)) = .ok v' w') :
    ∀ j, j < n * size → w'.cell? ⟨g0, j, none⟩ = W.cell? ⟨g0, j, none⟩ := by
  intro j hj
  obtain ⟨i, hi, hz, hs1, hb1⟩ := info_parts hinfo
  have hc : ∀ j u, news[j]? = some u → (W.alloc (.cells news.toArray e)).cell? ((⟨W.heap.size, 0, none⟩ : Addr).add j) = some u := fun j u hj => by
    have hh := World.alloc_heap_new W (.cells news.toArray e)
    rw [Addr.add_lit, Lib.cell_of_heap hh]
    simpa using hj
  have hxl := hown.1.1
  have hx : ∃ u, xs[j]? = some u := ⟨xs[j]'(by omega), List.getElem?_eq_getElem _⟩
  obtain ⟨u, hu⟩ := hx
  have hW : W.cell? ⟨g0, j, none⟩ = some u := by
    have := hown.1.cells (g := g0) rfl j u hu
    rwa [Addr.add_lit, Nat.zero_add] at this
  have hown' : (W.alloc (.cells news.toArray e)).ownsRow 0 e size (.slice (some ⟨g0, 0, none⟩) n cap0) n xs := hown.1.alloc _
  rw [hW]
  rcases hown'.2 with ⟨hv, _⟩ | ⟨g1, cap1, cur0, hv, hb0, hg0, hnc, hcm, hcs, _⟩
  · cases hv
  · injection hv with e1 e2 e3
    injection e1 with e1
    injection e1 with e1
    subst e1; subst e3
    by_cases hroom : n + 1 ≤ cap0
    · obtain ⟨g, cap, w2, hrun2, hown2, _, _, _⟩ := append_x (P := P) W t e ht hinfo hzs hsz hown news hl h1 h63 hbytes
      have hr := run_append_room (P := P) (W.alloc (.cells news.toArray e)) t ty e i ht hi g0 n cap0 cur0 hg0 ⟨W.heap.size, 0, none⟩ 1 1 news (by omega) hc h1 hroom (by rw [hs1, hcs, hl, ← Nat.succ_mul]; exact Nat.mul_le_mul_right _ hroom)
      have hq := hrun2 ty
      rw [hr] at hq
      injection hq with e4 e5
      injection e4 with e4 _ _
      injection e4 with e4
      injection e4 with e4
      subst e4
      rw [hr] at hrun
      injection hrun with _ e6
      rw [← e6, e5]
      have := hown2.1.cells (g := g0) rfl j u (by rw [List.getElem?_append_left (by omega)]; exact hu)
      rwa [Addr.add_lit, Nat.zero_add] at this
    · have holds : ∀ j u, xs[j]? = some u → (W.alloc (.cells news.toArray e)).cell? ((⟨g0, 0, none⟩ : Addr).add j) = some u := hown'.cells (g := g0) rfl
      have hsmall : n + 1 ≤ 9223372036854775807 := by simp only [maxLen] at h63; omega
      have hr := run_append_grow (P := P) (W.alloc (.cells news.toArray e)) t ty e i z ht hi hz ⟨g0, 0, none⟩ n cap0 xs (by rw [hs1]; exact hown'.1) holds ⟨W.heap.size, 0, none⟩ 1 1 news (by omega) hc (by omega) (by omega) (by rw [hb1]; exact growslice_fits (by omega) hbytes)
      rw [hrun] at hr
      injection hr with _ e2
      rw [e2]
      exact ((((Keep.refl (fun _ => False) W).alloc _).drew).alloc _).cell hW (fun h => h)
end Go.Kt
