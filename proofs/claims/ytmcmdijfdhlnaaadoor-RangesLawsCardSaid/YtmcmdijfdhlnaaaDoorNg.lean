/- Runs sorted and melted. -/
import Derived.Test.YtmcmdijfdhlnaaaDoorZ2
import Derived.Test.YtmcmdijfdhlnaaaDoorNf
import Derived.Shelf.SlSortCmp.NoneTotal
import Derived.Laws.OwnMore
namespace Go.Proofs.YtmcmdijfdhlnaaaDoor
open Go Go.RowKit Go.Kt Go.Kt.Rg Go.Shelf Go.Lib Go.Sort

def encI (x : Run) : List Value := [.int .i64 x.1, .int .i64 x.2]
abbrev cmpR (x y : Run) : Int := Lib.compareInt x.1 y.1
theorem ltR (x y : Run) : ltOf cmpR x y = decide (x.1 < y.1) := by
  unfold ltOf cmpR Lib.compareInt
  by_cases h1 : x.1 < y.1
  · simp [h1]
  · by_cases h2 : y.1 < x.1 <;> simp [h1, h2]
theorem swoR : SWO (ltOf cmpR) where
  irrefl x := by rw [ltR]; simp
  trans x y z h1 h2 := by rw [ltR] at *; simp at *; omega
  ntrans x y z h1 h2 := by rw [ltR] at *; simp at *; omega

set_option maxHeartbeats 1000000 in
theorem rmelt1_any (x y : Run) (W : World) : Calls Tryd.prog 38 #[.agg #[.int .i64 x.1, .int .i64 x.2], .agg #[.int .i64 y.1, .int .i64 y.2]] W fun e w' => e = .returned (.int .i64 (cmpR x y)) ∧ ∃ q os', w' = grow (W.drewN q) os' := by
  have hcon := fun W' => Tryd.cmp_Compare_int x.1 y.1 W'
  unfold cmpR
  generalize Lib.compareInt x.1 y.1 = r at hcon ⊢
  go_enter Tryd.func38, Tryd.ntmps38
  go_wp2_with (go_at_call 39; refine (hcon _).mono ?_; rintro e w' ⟨rfl, rfl⟩)
  go_ret
  exact ⟨rfl, 0, _, by rw [alloc_eq_grow, alloc_eq_grow, grow_grow]; rfl⟩

theorem holds_of_own {Y : Nat → Prop} {g n cap : Nat} {l : List Run} {W : World} (h : OwnS Y 51 2 (.slice (some ⟨g, 0, none⟩) n cap) n (encR l) W) : HoldsK encI 2 W g 0 l.toArray := by
  intro j hj
  rw [size_flatK] at hj
  have hj' : j < l.length * 2 := by simpa using hj
  rw [get_flatK _ _ _ _ hj, Nat.zero_add]
  obtain ⟨x, hx⟩ : ∃ x, l[j / 2]? = some x := ⟨_, List.getElem?_eq_getElem (by omega)⟩
  have e0 : l.toArray[j / 2]! = x := by
    obtain ⟨h1, rfl⟩ := List.getElem?_eq_some_iff.1 hx
    rw [getElem!_pos _ _ (by simpa using h1)]
    simp
  rw [e0]
  have e := encR_get l (j / 2) x hx
  refine ⟨?_, ?_⟩
  · rcases (by omega : j % 2 = 0 ∨ j % 2 = 1) with k | k
    · have c1 := h.1.cells (g := g) rfl _ _ e.1
      rw [Addr.add_lit, Nat.zero_add, show j / 2 * 2 = j by omega] at c1
      rw [k]; exact c1
    · have c1 := h.1.cells (g := g) rfl _ _ e.2
      rw [Addr.add_lit, Nat.zero_add, show j / 2 * 2 + 1 = j by omega] at c1
      rw [k]; exact c1
  · rcases h.1.2 with ⟨h1, _⟩ | ⟨g', cap', cur, h1, _, hg, _⟩
    · cases h1
    · injection h1 with e1 _ _
      injection e1 with e1
      injection e1 with e1
      subst e1
      exact Lib.frozen_of_heap hg j

theorem keep_sorted {w : World} {g m : Nat} {d : Array Run} {os : Array Obj} : Keep (fun b => b = g) w (sortWorldK encI 2 w g 0 m d os) := by
  refine ⟨rfl, rfl, rfl, size_sortWorldK_c _ _ _ _ _ _ _ _, fun b hb hne => ?_⟩
  unfold sortWorldK putRowK
  rw [heap_grow_old _ _ (by rw [size_putRow]; exact hb)]
  show (w.heap.modify g _)[b]? = _
  rw [Array.getElem?_modify, if_neg (fun e => hne e.symm)]

/-- A row of one's own, sorted by where its runs begin. -/
theorem sort_any (l : List Run) (g cap : Nat) {Y : Nat → Prop} (w : World) (h : OwnS Y 51 2 (.slice (some ⟨g, 0, none⟩) l.length cap) l.length (encR l) w) (hl : l.length ≤ 2199023255552) :
    Calls Tryd.prog 37 #[.slice (some ⟨g, 0, none⟩) l.length cap, .func (.func 38) #[] #[]] w fun e w' => e = .returned (.tuple #[]) ∧
      ∃ s : List Run, s.Perm l ∧ Rises s ∧ SlR w' (.slice (some ⟨g, 0, none⟩) l.length cap) s ∧ Keep (fun b => b = g) w w' := by
  have hH := holds_of_own h
  have hg := own_ne h rfl
  have hcon := AnyQ.slices_SortFunc Tryd.laysSort 2 Tryd.isAgg51 Tryd.sizeOf51 encI (fun _ => rfl) (fun x v hv => by simp [encI] at hv; rcases hv with rfl | rfl <;> rfl) cmpR swoR 38 #[] g 0 cap l.toArray w
    (enters_of Tryd.func38 (by kernel_rfl) rfl) (fun _ _ _ _ x y => rmelt1_any x y _) hH hg (by simp; omega)
  have hsz : l.toArray.size = l.length := by simp
  rw [hsz] at hcon
  refine Calls.mono hcon ?_
  rintro e w' ⟨rfl, d', m, os, hp, hs, rfl⟩
  refine ⟨rfl, d'.toList, ?_, ?_, ?_, keep_sorted⟩
  · have := hp.2.2
    have e1 : d'.extract 0 l.length = d' := by rw [← hsz, ← hp.1]; simp
    have e2 : l.toArray.extract 0 l.length = l.toArray := by rw [← hsz]; simp
    rw [e1, e2] at this
    simpa using this
  · refine List.pairwise_iff_getElem.2 fun i j hi hj hij => ?_
    have hz : d'.size = l.length := hp.1.trans hsz
    have := hs i j (Nat.zero_le _) hij (by simp at hj; omega)
    rw [ltR, getElem!_pos _ _ (by simpa using hj), getElem!_pos _ _ (by simpa using hi)] at this
    simp at this
    simpa using this
  · have hz : d'.size = l.length := hp.1.trans hsz
    have hHd := holdsK_sortWorldK_c encI 2 w g 0 l.toArray d' m os hH hg hp.1
    refine ⟨some ⟨g, 0, none⟩, cap, by simp [hz], .inr ⟨g, rfl, fun i x hx => ?_⟩⟩
    obtain ⟨hi, rfl⟩ := List.getElem?_eq_some_iff.1 hx
    have hi' : i < d'.size := by simpa using hi
    have c0 := (hHd.cell hi' (c := 0) (by omega)).1
    have c1 := (hHd.cell hi' (c := 1) (by omega)).1
    rw [getElem!_pos d' i hi', Nat.zero_add] at c0 c1
    exact ⟨by simpa [encI] using c0, by simpa [encI] using c1⟩
theorem sort_none (p : Option Addr) (cap : Nat) (w : World) :
    Calls Tryd.prog 37 #[.slice p 0 cap, .func (.func 38) #[] #[]] w fun e w' => e = .returned (.tuple #[]) ∧ w' = w :=
  AnyF.slices_SortFunc_none Tryd.laysSort p cap _ w
end Go.Proofs.YtmcmdijfdhlnaaaDoor
