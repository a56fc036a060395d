/- props: what runs say of a number: the walk. -/
import Derived.Test.YtdmimdiffjpjpaaGreatDoorUf
import Derived.Test.YtdmimdiffjpjpaaGreatDoorUk
import Derived.Test.YtdmimdiffjpjpaaGreatDoorGz1
import Derived.Laws.Rows
namespace Go.Proofs.YtdmimdiffjpjpaaGreatDoor
open Go Go.RowKit Go.Kt Go.Kt.Rg Go.Kt.Bits Go.Maps Go.Kt.Os Go.Sort

/-- Does the run i begin above a number? -/
def abvB (l : List (Nat × Int)) (r : Int) (i : Nat) : Bool := match l[i]? with
  | some x => decide (r < (x.1 : Int))
  | none => true
theorem abv_mono {l : List (Nat × Int)} (r : Int) (h : l.Pairwise (fun a b => a.1 < b.1)) : ∀ a b, a ≤ b → abvB l r a = true → abvB l r b = true := by
  intro a b hab ha
  unfold abvB at ha ⊢
  cases hb : l[b]? with
  | none => rfl
  | some y =>
    obtain ⟨hbl, hby⟩ := List.getElem?_eq_some_iff.1 hb
    have hal : a < l.length := by omega
    rw [List.getElem?_eq_getElem hal] at ha
    have h1 : r < ((l[a]).1 : Int) := by simpa using ha
    by_cases e : a = b
    · subst e; rw [hby] at h1; simpa using h1
    · have h2 := (List.pairwise_iff_getElem.1 h) a b hal hbl (by omega)
      rw [hby] at h2
      have : r < (y.1 : Int) := by omega
      simpa using this

set_option maxRecDepth 100000 in
theorem patc (l : List (Nat × Int)) (v : Value) (r : Int) (lb rb i : Nat) (w : World) (hS : RunV w v l) (hi : i < l.length) (hl : l.length ≤ 1114113) (c1 : w.cell? ⟨lb, 0, none⟩ = some v) (c2 : w.cell? ⟨rb, 0, none⟩ = some (.int .i32 r)) :
    Calls Tryz.prog 109 #[.int .i64 i, .pointer (some ⟨lb, 0, none⟩), .pointer (some ⟨rb, 0, none⟩)] w
      fun e w' => e = .returned (.bool (abvB l r i)) ∧ ∃ q, w' = w.drewN q := by
  obtain ⟨ao, cp, rfl, h⟩ := hS
  obtain ⟨x, hx⟩ : ∃ x, l[i]? = some x := ⟨_, List.getElem?_eq_getElem hi⟩
  obtain ⟨g, rfl, hg⟩ : ∃ g, ao = some ⟨g, 0, none⟩ ∧ w.cell? ⟨g, i * 2, none⟩ = some (.int .i32 (x.1 : Nat)) := by
    rcases h with h | ⟨g, e, h⟩
    · subst h; simp at hi
    · exact ⟨g, e, (h i x hx).1⟩
  have he : abvB l r i = decide (r < (x.1 : Int)) := by unfold abvB; rw [hx]
  rw [he]
  obtain ⟨n, hn⟩ : ∃ n, l.length = n := ⟨_, rfl⟩
  rw [hn] at c1 hi hl
  obtain ⟨y, z⟩ := x
  simp only at hg ⊢
  have hi' : (i : Int) < (n : Int) := by omega
  clear h he hx hn
  go_enter Tryz.func109, Tryz.ntmps109
  go_wp2
  go_quiet (fail)
  go_wp2
  go_ret
  exact ⟨by simp, _, rfl⟩

set_option maxRecDepth 100000 in
theorem pat (l : List (Nat × Int)) (v : Value) (r : Int) (w : World) (hS : RunV w v l) (hp : l.Pairwise (fun a b => a.1 < b.1)) (hl : l.length ≤ 1114113) :
    Calls Tryz.prog 49 #[v, .int .i32 r] w fun e w' => e = .returned (.int .i64 (runVal l r)) ∧ Below w.heap.size w w' := by
  obtain ⟨m, hm⟩ : ∃ m, w.heap.size = m := ⟨_, rfl⟩
  obtain ⟨V1, hV1⟩ : ∃ V, w.alloc (.cells #[v] 107) = V := ⟨_, rfl⟩
  have hz1 : V1.heap.size = m + 1 := by rw [← hV1, World.size_alloc, hm]
  obtain ⟨V, hV⟩ : ∃ V, V1.alloc (.cells #[.int .i32 r] 21) = V := ⟨_, rfl⟩
  have hb1 : Below m w V1 := by rw [← hV1]; exact (Below.refl _ _).alloc (by omega) _
  have hb2 : Below (m + 1) V1 V := by rw [← hV]; exact (Below.refl _ _).alloc (by omega) _
  have hbb : Below m w V := hb1.trans (hb2.mono (by omega))
  have c1 : V.cell? ⟨m, 0, none⟩ = some v := by
    refine (hb2.cell (by show m < m + 1; omega)).trans ?_
    rw [← hV1, ← hm, Lib.cell_of_heap (World.alloc_heap_new w _)]; rfl
  have c2 : V.cell? ⟨m + 1, 0, none⟩ = some (.int .i32 r) := by
    rw [← hV, ← hz1, Lib.cell_of_heap (World.alloc_heap_new V1 _)]; rfl
  have hSV : RunV V v l := hS.below (by rw [hm]; exact hbb)
  have SC := Lib.hid (psearch 109 #[.pointer (some ⟨m, 0, none⟩), .pointer (some ⟨m + 1, 0, none⟩)] l.length (abvB l r) V (enters_of Tryz.func109 (by kernel_rfl) rfl) (by omega)
      (fun k i hi => patc l v r m (m + 1) i (V.drewN k) (hSV.below (below_drewN (Below.refl _ _) _)) hi hl c1 c2) (abv_mono r hp))
  have CF := Lib.hid (count_front (abvB l r) (abv_mono r hp) l.length)
  have hjl := cnt_le (fun i => !abvB l r i) l.length
  obtain ⟨j, hj⟩ : ∃ j, cnt (fun i => !abvB l r i) l.length = j := ⟨_, rfl⟩
  rw [hj] at SC CF hjl
  have hat := runVal_at l j r hjl (fun i x hx hij => by
      have := CF.out.1 i hij
      unfold abvB at this
      rw [hx] at this
      have := of_decide_eq_false this
      omega) (fun i x hx hij => by
      have := CF.out.2 i hij (List.getElem?_eq_some_iff.1 hx).1
      unfold abvB at this
      rw [hx] at this
      exact of_decide_eq_true this)
  obtain ⟨ao, cp, rfl, h⟩ := hSV
  obtain ⟨n, hn⟩ : ∃ n, l.length = n := ⟨_, rfl⟩
  have HA := Lib.hid (And.intro hat (And.intro h hn))
  rw [hn] at hjl SC c1 hV1 ⊢
  have HV := Lib.hid (And.intro hm (And.intro hV1 (And.intro hz1 (And.intro hV hbb))))
  have hnl : n ≤ 1114113 := by omega
  clear hm hV1 hz1 hV hb1 hb2 hbb hat h hS hj CF hp hl hn
  go_enter Tryz.func49, Tryz.ntmps49
  go_wp2_with fail
  rw [HV.out.2.1, HV.out.2.2.2.1, HV.out.1]
  refine SC.out.mono ?_
  rintro e w2 ⟨rfl, k, rfl⟩
  by_cases h0 : j = 0
  · have hv : runVal l r = 0 := HA.out.1.1 h0
    have HX := Lib.hid hv
    subst h0
    clear hv HA
    go_wp2
    go_ret
    exact ⟨by rw [HX.out]; rfl, by rw [HV.out.1]; exact below_drewN HV.out.2.2.2.2 _⟩
  · obtain ⟨i, hi⟩ : ∃ i, j = i + 1 := ⟨j - 1, by omega⟩
    have hil : i < l.length := by rw [HA.out.2.2]; omega
    obtain ⟨x, hx⟩ : ∃ x, l[i]? = some x := ⟨_, List.getElem?_eq_getElem hil⟩
    obtain ⟨g, rfl, hg⟩ : ∃ g, ao = some ⟨g, 0, none⟩ ∧ V.cell? ⟨g, i * 2 + 1, none⟩ = some (.int .i64 x.2) := by
      rcases HA.out.2.1 with h | ⟨g, e, h⟩
      · rw [h] at hx; cases hx
      · exact ⟨g, e, (h i x hx).2⟩
    have hj1 : (j : Int) - 1 = (i : Int) := by omega
    have hi' : (i : Int) < (n : Int) := by omega
    have h0' : ¬ (j : Int) = 0 := by omega
    have hv : runVal l r = x.2 := HA.out.1.2 i x hi hx
    have HX := Lib.hid hv
    clear hi hil hx hv h0 HA
    go_wp2
    go_ret
    exact ⟨by rw [HX.out]; rfl, by rw [HV.out.1]; exact below_drewN HV.out.2.2.2.2 _⟩
end Go.Proofs.YtdmimdiffjpjpaaGreatDoor
