/- props: a row's numbers, points. -/
import Derived.Test.YtcfhblbmpbfoaaaGreatDoorGv5
import Derived.Laws.Rows
namespace Go.Proofs.YtcfhblbmpbfoaaaGreatDoor
open Go Go.RowKit Go.Kt Go.Kt.Rg

theorem results_cell2 {P : Program} {fn : Func} {p a : Tmp} {ty : TypeId} (h : fn.results = #[.cell p ty, .tmp a]) (tmps : Array Value) (w : World) (g : Nat) (t : TypeId) (cs : Array Value) (fr : Nat × Nat) (d : TypeDesc)
    (hp : tmps.getD p undef = .pointer (some ⟨g, 0, none⟩)) (hg : w.heap[g]? = some (.cells cs t fr))
    (hu : P.underlying ty = some d) (hd : (match d with | .struct _ | .array _ _ => true | _ => false) = true) (hi : (P.info? ty).map (·.size) = some cs.size) :
    (results fn tmps).run P w = .ok (.tuple #[.agg cs, tmps.getD a undef]) w := by
  have hp' : tmps[p]?.getD undef = .pointer (some ⟨g, 0, none⟩) := by simpa using hp
  simp [results, h, hp', asAddr, run_loadVar_row w g t ty cs fr d hg hu hd hi]
theorem ptwo_cells {V : World} {g : Nat} {a b x y : Value} {T : TypeId} (h : V.heap[g]? = some (.cells #[a, b] T (0, 0))) :
    ((V.setCell ⟨g, 0, none⟩ x).setCell ⟨g, 1, none⟩ y).heap[g]? = some (.cells #[x, y] T (0, 0)) := by
  have h1 := heap_setCell_same V g 0 _ _ x h
  have h2 := heap_setCell_same (V.setCell ⟨g, 0, none⟩ x) g 1 _ _ y h1
  simpa using h2

def MVar (w : World) : Prop := ∃ m : Int, w.cell? ⟨1, 0, none⟩ = some (.int .i64 m)
theorem MVar.below {A B : World} (h : MVar A) (hb : Below A.heap.size A B) : MVar B := by
  obtain ⟨m, h⟩ := h
  exact ⟨m, (hb.cell (lt_of_cell h)).trans h⟩
structure PEnv (w : World) : Prop where
  v : PVar w
  k : KTab w
  m : MVar w
theorem PEnv.below {A B : World} (h : PEnv A) (hb : Below A.heap.size A B) : PEnv B := ⟨h.v.below hb, h.k.below hb, h.m.below hb⟩

def spnO (o1 o2 : Option Nat) : Nat × Nat × Nat := match o1, o2 with
  | some lo, some hi => if Lib.validRune lo = false ∨ Lib.validRune hi = false then (8, 0, 0) else if hi < lo then (1, 0, 0) else (0, lo, hi)
  | _, _ => (11, 0, 0)
def spnP (l : List UInt8) : Nat × Nat × Nat :=
  spnO (numP (Lib.cut l [46, 46]).1) (numP (if (Lib.cut l [46, 46]).2.2 then (Lib.cut l [46, 46]).2.1 else (Lib.cut l [46, 46]).1))
theorem spnO_some (lo hi : Nat) : spnO (some lo) (some hi) = if Lib.validRune lo = false ∨ Lib.validRune hi = false then (8, 0, 0) else if hi < lo then (1, 0, 0) else (0, lo, hi) := rfl
theorem cut_le (l sep : List UInt8) : (Lib.cut l sep).1.length ≤ l.length ∧ (Lib.cut l sep).2.1.length ≤ l.length := by
  unfold Lib.cut
  split
  · exact ⟨by simp only [List.length_take]; omega, by simp only [List.length_drop]; omega⟩
  · exact ⟨Nat.le_refl _, Nat.zero_le _⟩
theorem bsize (l : List UInt8) : (⟨l.toArray⟩ : ByteArray).size = l.length := by show l.toArray.size = _; simp

set_option maxRecDepth 100000 in
set_option maxHeartbeats 2000000 in
theorem pspan (s : ByteArray) (w : World) (hs : s.size ≤ 1048576) (hE : PEnv w) :
    Calls Tryz.prog 165 #[.string s] w fun e w' => e = .returned (.tuple #[.agg #[.int .i32 (spnP s.data.toList).2.1, .int .i32 (spnP s.data.toList).2.2], .int .i64 (spnP s.data.toList).1]) ∧ Below w.heap.size w w' := by
  obtain ⟨m, hm⟩ := hE.m
  have CC := Lib.hid (fun W (h : W.cell? ⟨1, 0, none⟩ = some (.int .i64 m)) => Tryz.strings_Cut s ⟨#[46, 46]⟩ m W (by omega) h)
  obtain ⟨l, hl⟩ : ∃ l, s.data.toList = l := ⟨_, rfl⟩
  have hln : l.length = s.size := by rw [← hl]; exact (Lib.size_eq s).symm
  have hcl := cut_le l [46, 46]
  have hX : spnP l = spnO (numP (Lib.cut l [46, 46]).1) (numP (if (Lib.cut l [46, 46]).2.2 then (Lib.cut l [46, 46]).2.1 else (Lib.cut l [46, 46]).1)) := rfl
  obtain ⟨⟨a, b, ok⟩, hc⟩ : ∃ z, Lib.cut l [46, 46] = z := ⟨_, rfl⟩
  rw [hl] at CC ⊢
  rw [hc] at hcl hX
  replace CC : Hid (∀ W, W.cell? ⟨1, 0, none⟩ = some (.int .i64 m) → Calls Tryz.prog 99 #[.string s, .string ⟨#[46, 46]⟩] W fun e w' => e = .returned (.tuple #[.string ⟨a.toArray⟩, .string ⟨b.toArray⟩, .bool ok]) ∧ ∃ n, w' = W.drewN n) := Lib.hid (fun W h => by have := CC.out W h; rw [show (⟨#[46, 46]⟩ : ByteArray).data.toList = [46, 46] from rfl, hc] at this; exact this)
  simp only at hcl hX
  obtain ⟨ha, hb⟩ := hcl
  have CA := Lib.hid (fun W (h : PEnv W) => pnumber ⟨a.toArray⟩ W (by rw [bsize]; omega) h.v)
  have CB := Lib.hid (fun W (h : PEnv W) => pnumber ⟨b.toArray⟩ W (by rw [bsize]; omega) h.v)
  have HE := Lib.hid hE
  have HX0 := Lib.hid hX
  have hm1 : (w.alloc (.cells #[.int .i32 0, .int .i32 0] 158)).cell? ⟨1, 0, none⟩ = some (.int .i64 m) := (((Below.refl _ _).alloc (Nat.le_refl _) _).cell (lt_of_cell hm)).trans hm
  have CC1 := Lib.hid (CC.out _ hm1)
  have H0 : Hid (Below w.heap.size w (w.alloc (.cells #[.int .i32 0, .int .i32 0] 158)) ∧ (w.alloc (.cells #[.int .i32 0, .int .i32 0] 158)).heap[w.heap.size]? = some (.cells #[.int .i32 0, .int .i32 0] 158 (0, 0))) := Lib.hid ⟨(Below.refl _ _).alloc (Nat.le_refl _) _, heap_alloc_new _ _⟩
  clear hX hE hm hm1 CC hc hl hln ha hb hs
  cases ok
  · have HX1 : Hid (spnP l = spnO (numP a) (numP a)) := HX0
    clear HX0
    cases ho1 : numP a with
    | none =>
      have HX : Hid (spnP l = (11, 0, 0)) := Lib.hid (by rw [HX1.out, ho1]; rfl)
      clear HX1
      go_enter Tryz.func165, Tryz.ntmps165
      go_wp2_with fail
      refine CC1.out.mono ?_
      rintro e w1 ⟨rfl, q, rfl⟩
      have H1 : Hid (Below w.heap.size w ((w.alloc (.cells #[.int .i32 0, .int .i32 0] 158)).drewN q) ∧ ((w.alloc (.cells #[.int .i32 0, .int .i32 0] 158)).drewN q).heap[w.heap.size]? = some (.cells #[.int .i32 0, .int .i32 0] 158 (0, 0))) := Lib.hid ⟨below_drewN H0.out.1 q, H0.out.2⟩
      generalize (w.alloc (.cells #[.int .i32 0, .int .i32 0] 158)).drewN q = w1 at H1 ⊢
      clear CC1 H0
      go_wp2_with fail
      refine (CA.out w1 (HE.out.below H1.out.1)).mono ?_
      rintro e w2 ⟨hp, hb2⟩
      have H2 := Lib.hid (show Below w.heap.size w w2 ∧ w2.heap[w.heap.size]? = some (.cells #[.int .i32 0, .int .i32 0] 158 (0, 0)) from ⟨H1.out.1.trans (hb2.mono H1.out.1.size), (hb2.block _ (by have := (Array.getElem?_eq_some_iff.1 H1.out.2).1; exact this)).trans H1.out.2⟩)
      clear hb2 H1
      rw [ho1] at hp
      obtain ⟨z1, rfl⟩ := hp
      go_wp2_with fail
      refine (CA.out w2 (HE.out.below H2.out.1)).mono ?_
      rintro e w3 ⟨hp, hb3⟩
      have H3 := Lib.hid (show Below w.heap.size w w3 ∧ w3.heap[w.heap.size]? = some (.cells #[.int .i32 0, .int .i32 0] 158 (0, 0)) from ⟨H2.out.1.trans (hb3.mono H2.out.1.size), (hb3.block _ (by have := (Array.getElem?_eq_some_iff.1 H2.out.2).1; exact this)).trans H2.out.2⟩)
      clear hb3 H2
      rw [ho1] at hp
      obtain ⟨z2, rfl⟩ := hp
      have c0 : w3.cell? ⟨w.heap.size, 0, none⟩ = some (.int .i32 0) := by rw [Lib.cell_of_heap H3.out.2]; rfl
      have c1 : w3.cell? ⟨w.heap.size, 1, none⟩ = some (.int .i32 0) := by rw [Lib.cell_of_heap H3.out.2]; rfl
      have f0 : w3.frozen? ⟨w.heap.size, 0, none⟩ = false := Lib.frozen_of_heap H3.out.2 _
      have f1 : w3.frozen? ⟨w.heap.size, 1, none⟩ = false := Lib.frozen_of_heap H3.out.2 _
      go_wp2_with (go_at_call 82; refine (Tryz.utf8_ValidRune _ _).mono ?_; rintro e w4 ⟨rfl, rfl⟩)
      (try simp only [Exit.inBlock, Exit.then])
      refine bodyPost_ret (results_cell2 rfl _ _ w.heap.size 158 #[.int .i32 0, .int .i32 0] (0, 0) _ rfl (ptwo_cells H3.out.2) Tryz.underlying158 rfl (by kernel_rfl)) rfl ?_
      rw [HX.out]
      exact ⟨rfl, (H3.out.1.setCell (Nat.le_refl _) _).setCell (Nat.le_refl _) _⟩
    | some lo =>
      have hlo := numP_le ho1
      cases v1 : Lib.validRune (lo : Int)
      · have HX : Hid (spnP l = (8, 0, 0)) := Lib.hid (by rw [HX1.out, ho1, spnO_some]; exact if_pos (.inl v1))
        clear HX1
        go_enter Tryz.func165, Tryz.ntmps165
        go_wp2_with fail
        refine CC1.out.mono ?_
        rintro e w1 ⟨rfl, q, rfl⟩
        have H1 : Hid (Below w.heap.size w ((w.alloc (.cells #[.int .i32 0, .int .i32 0] 158)).drewN q) ∧ ((w.alloc (.cells #[.int .i32 0, .int .i32 0] 158)).drewN q).heap[w.heap.size]? = some (.cells #[.int .i32 0, .int .i32 0] 158 (0, 0))) := Lib.hid ⟨below_drewN H0.out.1 q, H0.out.2⟩
        generalize (w.alloc (.cells #[.int .i32 0, .int .i32 0] 158)).drewN q = w1 at H1 ⊢
        clear CC1 H0
        go_wp2_with fail
        refine (CA.out w1 (HE.out.below H1.out.1)).mono ?_
        rintro e w2 ⟨hp, hb2⟩
        have H2 := Lib.hid (show Below w.heap.size w w2 ∧ w2.heap[w.heap.size]? = some (.cells #[.int .i32 0, .int .i32 0] 158 (0, 0)) from ⟨H1.out.1.trans (hb2.mono H1.out.1.size), (hb2.block _ (by have := (Array.getElem?_eq_some_iff.1 H1.out.2).1; exact this)).trans H1.out.2⟩)
        clear hb2 H1
        rw [ho1] at hp
        obtain rfl := hp
        go_wp2_with fail
        refine (CA.out w2 (HE.out.below H2.out.1)).mono ?_
        rintro e w3 ⟨hp, hb3⟩
        have H3 := Lib.hid (show Below w.heap.size w w3 ∧ w3.heap[w.heap.size]? = some (.cells #[.int .i32 0, .int .i32 0] 158 (0, 0)) from ⟨H2.out.1.trans (hb3.mono H2.out.1.size), (hb3.block _ (by have := (Array.getElem?_eq_some_iff.1 H2.out.2).1; exact this)).trans H2.out.2⟩)
        clear hb3 H2
        rw [ho1] at hp
        obtain rfl := hp
        have c0 : w3.cell? ⟨w.heap.size, 0, none⟩ = some (.int .i32 0) := by rw [Lib.cell_of_heap H3.out.2]; rfl
        have c1 : w3.cell? ⟨w.heap.size, 1, none⟩ = some (.int .i32 0) := by rw [Lib.cell_of_heap H3.out.2]; rfl
        have f0 : w3.frozen? ⟨w.heap.size, 0, none⟩ = false := Lib.frozen_of_heap H3.out.2 _
        have f1 : w3.frozen? ⟨w.heap.size, 1, none⟩ = false := Lib.frozen_of_heap H3.out.2 _
        go_wp2_with (go_at_call 82; refine (Tryz.utf8_ValidRune _ _).mono ?_; rintro e w4 ⟨rfl, rfl⟩)
        (try simp only [Exit.inBlock, Exit.then])
        refine bodyPost_ret (results_cell2 rfl _ _ w.heap.size 158 #[.int .i32 0, .int .i32 0] (0, 0) _ rfl (ptwo_cells H3.out.2) Tryz.underlying158 rfl (by kernel_rfl)) rfl ?_
        rw [HX.out]
        exact ⟨rfl, (H3.out.1.setCell (Nat.le_refl _) _).setCell (Nat.le_refl _) _⟩
      · have HX : Hid (spnP l = (0, lo, lo)) := Lib.hid (by rw [HX1.out, ho1, spnO_some]; exact (if_neg (fun e => by rcases e with e | e <;> · rw [v1] at e; cases e)).trans (if_neg (Nat.lt_irrefl _)))
        clear HX1
        go_enter Tryz.func165, Tryz.ntmps165
        go_wp2_with fail
        refine CC1.out.mono ?_
        rintro e w1 ⟨rfl, q, rfl⟩
        have H1 : Hid (Below w.heap.size w ((w.alloc (.cells #[.int .i32 0, .int .i32 0] 158)).drewN q) ∧ ((w.alloc (.cells #[.int .i32 0, .int .i32 0] 158)).drewN q).heap[w.heap.size]? = some (.cells #[.int .i32 0, .int .i32 0] 158 (0, 0))) := Lib.hid ⟨below_drewN H0.out.1 q, H0.out.2⟩
        generalize (w.alloc (.cells #[.int .i32 0, .int .i32 0] 158)).drewN q = w1 at H1 ⊢
        clear CC1 H0
        go_wp2_with fail
        refine (CA.out w1 (HE.out.below H1.out.1)).mono ?_
        rintro e w2 ⟨hp, hb2⟩
        have H2 := Lib.hid (show Below w.heap.size w w2 ∧ w2.heap[w.heap.size]? = some (.cells #[.int .i32 0, .int .i32 0] 158 (0, 0)) from ⟨H1.out.1.trans (hb2.mono H1.out.1.size), (hb2.block _ (by have := (Array.getElem?_eq_some_iff.1 H1.out.2).1; exact this)).trans H1.out.2⟩)
        clear hb2 H1
        rw [ho1] at hp
        obtain rfl := hp
        go_wp2_with fail
        refine (CA.out w2 (HE.out.below H2.out.1)).mono ?_
        rintro e w3 ⟨hp, hb3⟩
        have H3 := Lib.hid (show Below w.heap.size w w3 ∧ w3.heap[w.heap.size]? = some (.cells #[.int .i32 0, .int .i32 0] 158 (0, 0)) from ⟨H2.out.1.trans (hb3.mono H2.out.1.size), (hb3.block _ (by have := (Array.getElem?_eq_some_iff.1 H2.out.2).1; exact this)).trans H2.out.2⟩)
        clear hb3 H2
        rw [ho1] at hp
        obtain rfl := hp
        have c0 : w3.cell? ⟨w.heap.size, 0, none⟩ = some (.int .i32 0) := by rw [Lib.cell_of_heap H3.out.2]; rfl
        have c1 : w3.cell? ⟨w.heap.size, 1, none⟩ = some (.int .i32 0) := by rw [Lib.cell_of_heap H3.out.2]; rfl
        have f0 : w3.frozen? ⟨w.heap.size, 0, none⟩ = false := Lib.frozen_of_heap H3.out.2 _
        have f1 : w3.frozen? ⟨w.heap.size, 1, none⟩ = false := Lib.frozen_of_heap H3.out.2 _
        go_wp2_with (go_at_call 82; refine (Tryz.utf8_ValidRune _ _).mono ?_; rintro e w4 ⟨rfl, rfl⟩)
        (try simp only [Exit.inBlock, Exit.then])
        refine bodyPost_ret (results_cell2 rfl _ _ w.heap.size 158 #[.int .i32 lo, .int .i32 lo] (0, 0) _ rfl (ptwo_cells H3.out.2) Tryz.underlying158 rfl (by kernel_rfl)) rfl ?_
        rw [HX.out]
        exact ⟨rfl, (H3.out.1.setCell (Nat.le_refl _) _).setCell (Nat.le_refl _) _⟩
  · have HX1 : Hid (spnP l = spnO (numP a) (numP b)) := HX0
    clear HX0
    cases ho1 : numP a with
    | none =>
      cases ho2 : numP b with
      | none =>
        have HX : Hid (spnP l = (11, 0, 0)) := Lib.hid (by rw [HX1.out, ho1, ho2]; rfl)
        clear HX1
        go_enter Tryz.func165, Tryz.ntmps165
        go_wp2_with fail
        refine CC1.out.mono ?_
        rintro e w1 ⟨rfl, q, rfl⟩
        have H1 : Hid (Below w.heap.size w ((w.alloc (.cells #[.int .i32 0, .int .i32 0] 158)).drewN q) ∧ ((w.alloc (.cells #[.int .i32 0, .int .i32 0] 158)).drewN q).heap[w.heap.size]? = some (.cells #[.int .i32 0, .int .i32 0] 158 (0, 0))) := Lib.hid ⟨below_drewN H0.out.1 q, H0.out.2⟩
        generalize (w.alloc (.cells #[.int .i32 0, .int .i32 0] 158)).drewN q = w1 at H1 ⊢
        clear CC1 H0
        go_wp2_with fail
        refine (CA.out w1 (HE.out.below H1.out.1)).mono ?_
        rintro e w2 ⟨hp, hb2⟩
        have H2 := Lib.hid (show Below w.heap.size w w2 ∧ w2.heap[w.heap.size]? = some (.cells #[.int .i32 0, .int .i32 0] 158 (0, 0)) from ⟨H1.out.1.trans (hb2.mono H1.out.1.size), (hb2.block _ (by have := (Array.getElem?_eq_some_iff.1 H1.out.2).1; exact this)).trans H1.out.2⟩)
        clear hb2 H1
        rw [ho1] at hp
        obtain ⟨z1, rfl⟩ := hp
        go_wp2_with fail
        refine (CB.out w2 (HE.out.below H2.out.1)).mono ?_
        rintro e w3 ⟨hp, hb3⟩
        have H3 := Lib.hid (show Below w.heap.size w w3 ∧ w3.heap[w.heap.size]? = some (.cells #[.int .i32 0, .int .i32 0] 158 (0, 0)) from ⟨H2.out.1.trans (hb3.mono H2.out.1.size), (hb3.block _ (by have := (Array.getElem?_eq_some_iff.1 H2.out.2).1; exact this)).trans H2.out.2⟩)
        clear hb3 H2
        rw [ho2] at hp
        obtain ⟨z2, rfl⟩ := hp
        have c0 : w3.cell? ⟨w.heap.size, 0, none⟩ = some (.int .i32 0) := by rw [Lib.cell_of_heap H3.out.2]; rfl
        have c1 : w3.cell? ⟨w.heap.size, 1, none⟩ = some (.int .i32 0) := by rw [Lib.cell_of_heap H3.out.2]; rfl
        have f0 : w3.frozen? ⟨w.heap.size, 0, none⟩ = false := Lib.frozen_of_heap H3.out.2 _
        have f1 : w3.frozen? ⟨w.heap.size, 1, none⟩ = false := Lib.frozen_of_heap H3.out.2 _
        go_wp2_with (go_at_call 82; refine (Tryz.utf8_ValidRune _ _).mono ?_; rintro e w4 ⟨rfl, rfl⟩)
        (try simp only [Exit.inBlock, Exit.then])
        refine bodyPost_ret (results_cell2 rfl _ _ w.heap.size 158 #[.int .i32 0, .int .i32 0] (0, 0) _ rfl (ptwo_cells H3.out.2) Tryz.underlying158 rfl (by kernel_rfl)) rfl ?_
        rw [HX.out]
        exact ⟨rfl, (H3.out.1.setCell (Nat.le_refl _) _).setCell (Nat.le_refl _) _⟩
      | some hi =>
        have HX : Hid (spnP l = (11, 0, 0)) := Lib.hid (by rw [HX1.out, ho1, ho2]; rfl)
        have hh := numP_le ho2
        clear HX1
        go_enter Tryz.func165, Tryz.ntmps165
        go_wp2_with fail
        refine CC1.out.mono ?_
        rintro e w1 ⟨rfl, q, rfl⟩
        have H1 : Hid (Below w.heap.size w ((w.alloc (.cells #[.int .i32 0, .int .i32 0] 158)).drewN q) ∧ ((w.alloc (.cells #[.int .i32 0, .int .i32 0] 158)).drewN q).heap[w.heap.size]? = some (.cells #[.int .i32 0, .int .i32 0] 158 (0, 0))) := Lib.hid ⟨below_drewN H0.out.1 q, H0.out.2⟩
        generalize (w.alloc (.cells #[.int .i32 0, .int .i32 0] 158)).drewN q = w1 at H1 ⊢
        clear CC1 H0
        go_wp2_with fail
        refine (CA.out w1 (HE.out.below H1.out.1)).mono ?_
        rintro e w2 ⟨hp, hb2⟩
        have H2 := Lib.hid (show Below w.heap.size w w2 ∧ w2.heap[w.heap.size]? = some (.cells #[.int .i32 0, .int .i32 0] 158 (0, 0)) from ⟨H1.out.1.trans (hb2.mono H1.out.1.size), (hb2.block _ (by have := (Array.getElem?_eq_some_iff.1 H1.out.2).1; exact this)).trans H1.out.2⟩)
        clear hb2 H1
        rw [ho1] at hp
        obtain ⟨z1, rfl⟩ := hp
        go_wp2_with fail
        refine (CB.out w2 (HE.out.below H2.out.1)).mono ?_
        rintro e w3 ⟨hp, hb3⟩
        have H3 := Lib.hid (show Below w.heap.size w w3 ∧ w3.heap[w.heap.size]? = some (.cells #[.int .i32 0, .int .i32 0] 158 (0, 0)) from ⟨H2.out.1.trans (hb3.mono H2.out.1.size), (hb3.block _ (by have := (Array.getElem?_eq_some_iff.1 H2.out.2).1; exact this)).trans H2.out.2⟩)
        clear hb3 H2
        rw [ho2] at hp
        obtain rfl := hp
        have c0 : w3.cell? ⟨w.heap.size, 0, none⟩ = some (.int .i32 0) := by rw [Lib.cell_of_heap H3.out.2]; rfl
        have c1 : w3.cell? ⟨w.heap.size, 1, none⟩ = some (.int .i32 0) := by rw [Lib.cell_of_heap H3.out.2]; rfl
        have f0 : w3.frozen? ⟨w.heap.size, 0, none⟩ = false := Lib.frozen_of_heap H3.out.2 _
        have f1 : w3.frozen? ⟨w.heap.size, 1, none⟩ = false := Lib.frozen_of_heap H3.out.2 _
        go_wp2_with (go_at_call 82; refine (Tryz.utf8_ValidRune _ _).mono ?_; rintro e w4 ⟨rfl, rfl⟩)
        (try simp only [Exit.inBlock, Exit.then])
        refine bodyPost_ret (results_cell2 rfl _ _ w.heap.size 158 #[.int .i32 0, .int .i32 0] (0, 0) _ rfl (ptwo_cells H3.out.2) Tryz.underlying158 rfl (by kernel_rfl)) rfl ?_
        rw [HX.out]
        exact ⟨rfl, (H3.out.1.setCell (Nat.le_refl _) _).setCell (Nat.le_refl _) _⟩
    | some lo =>
      have hlo := numP_le ho1
      cases ho2 : numP b with
      | none =>
        have HX : Hid (spnP l = (11, 0, 0)) := Lib.hid (by rw [HX1.out, ho1, ho2]; rfl)
        clear HX1
        go_enter Tryz.func165, Tryz.ntmps165
        go_wp2_with fail
        refine CC1.out.mono ?_
        rintro e w1 ⟨rfl, q, rfl⟩
        have H1 : Hid (Below w.heap.size w ((w.alloc (.cells #[.int .i32 0, .int .i32 0] 158)).drewN q) ∧ ((w.alloc (.cells #[.int .i32 0, .int .i32 0] 158)).drewN q).heap[w.heap.size]? = some (.cells #[.int .i32 0, .int .i32 0] 158 (0, 0))) := Lib.hid ⟨below_drewN H0.out.1 q, H0.out.2⟩
        generalize (w.alloc (.cells #[.int .i32 0, .int .i32 0] 158)).drewN q = w1 at H1 ⊢
        clear CC1 H0
        go_wp2_with fail
        refine (CA.out w1 (HE.out.below H1.out.1)).mono ?_
        rintro e w2 ⟨hp, hb2⟩
        have H2 := Lib.hid (show Below w.heap.size w w2 ∧ w2.heap[w.heap.size]? = some (.cells #[.int .i32 0, .int .i32 0] 158 (0, 0)) from ⟨H1.out.1.trans (hb2.mono H1.out.1.size), (hb2.block _ (by have := (Array.getElem?_eq_some_iff.1 H1.out.2).1; exact this)).trans H1.out.2⟩)
        clear hb2 H1
        rw [ho1] at hp
        obtain rfl := hp
        go_wp2_with fail
        refine (CB.out w2 (HE.out.below H2.out.1)).mono ?_
        rintro e w3 ⟨hp, hb3⟩
        have H3 := Lib.hid (show Below w.heap.size w w3 ∧ w3.heap[w.heap.size]? = some (.cells #[.int .i32 0, .int .i32 0] 158 (0, 0)) from ⟨H2.out.1.trans (hb3.mono H2.out.1.size), (hb3.block _ (by have := (Array.getElem?_eq_some_iff.1 H2.out.2).1; exact this)).trans H2.out.2⟩)
        clear hb3 H2
        rw [ho2] at hp
        obtain ⟨z2, rfl⟩ := hp
        have c0 : w3.cell? ⟨w.heap.size, 0, none⟩ = some (.int .i32 0) := by rw [Lib.cell_of_heap H3.out.2]; rfl
        have c1 : w3.cell? ⟨w.heap.size, 1, none⟩ = some (.int .i32 0) := by rw [Lib.cell_of_heap H3.out.2]; rfl
        have f0 : w3.frozen? ⟨w.heap.size, 0, none⟩ = false := Lib.frozen_of_heap H3.out.2 _
        have f1 : w3.frozen? ⟨w.heap.size, 1, none⟩ = false := Lib.frozen_of_heap H3.out.2 _
        go_wp2_with (go_at_call 82; refine (Tryz.utf8_ValidRune _ _).mono ?_; rintro e w4 ⟨rfl, rfl⟩)
        (try simp only [Exit.inBlock, Exit.then])
        refine bodyPost_ret (results_cell2 rfl _ _ w.heap.size 158 #[.int .i32 0, .int .i32 0] (0, 0) _ rfl (ptwo_cells H3.out.2) Tryz.underlying158 rfl (by kernel_rfl)) rfl ?_
        rw [HX.out]
        exact ⟨rfl, (H3.out.1.setCell (Nat.le_refl _) _).setCell (Nat.le_refl _) _⟩
      | some hi =>
        have hhi := numP_le ho2
        cases v1 : Lib.validRune (lo : Int)
        · have HX : Hid (spnP l = (8, 0, 0)) := Lib.hid (by rw [HX1.out, ho1, ho2, spnO_some]; exact if_pos (.inl v1))
          clear HX1
          go_enter Tryz.func165, Tryz.ntmps165
          go_wp2_with fail
          refine CC1.out.mono ?_
          rintro e w1 ⟨rfl, q, rfl⟩
          have H1 : Hid (Below w.heap.size w ((w.alloc (.cells #[.int .i32 0, .int .i32 0] 158)).drewN q) ∧ ((w.alloc (.cells #[.int .i32 0, .int .i32 0] 158)).drewN q).heap[w.heap.size]? = some (.cells #[.int .i32 0, .int .i32 0] 158 (0, 0))) := Lib.hid ⟨below_drewN H0.out.1 q, H0.out.2⟩
          generalize (w.alloc (.cells #[.int .i32 0, .int .i32 0] 158)).drewN q = w1 at H1 ⊢
          clear CC1 H0
          go_wp2_with fail
          refine (CA.out w1 (HE.out.below H1.out.1)).mono ?_
          rintro e w2 ⟨hp, hb2⟩
          have H2 := Lib.hid (show Below w.heap.size w w2 ∧ w2.heap[w.heap.size]? = some (.cells #[.int .i32 0, .int .i32 0] 158 (0, 0)) from ⟨H1.out.1.trans (hb2.mono H1.out.1.size), (hb2.block _ (by have := (Array.getElem?_eq_some_iff.1 H1.out.2).1; exact this)).trans H1.out.2⟩)
          clear hb2 H1
          rw [ho1] at hp
          obtain rfl := hp
          go_wp2_with fail
          refine (CB.out w2 (HE.out.below H2.out.1)).mono ?_
          rintro e w3 ⟨hp, hb3⟩
          have H3 := Lib.hid (show Below w.heap.size w w3 ∧ w3.heap[w.heap.size]? = some (.cells #[.int .i32 0, .int .i32 0] 158 (0, 0)) from ⟨H2.out.1.trans (hb3.mono H2.out.1.size), (hb3.block _ (by have := (Array.getElem?_eq_some_iff.1 H2.out.2).1; exact this)).trans H2.out.2⟩)
          clear hb3 H2
          rw [ho2] at hp
          obtain rfl := hp
          have c0 : w3.cell? ⟨w.heap.size, 0, none⟩ = some (.int .i32 0) := by rw [Lib.cell_of_heap H3.out.2]; rfl
          have c1 : w3.cell? ⟨w.heap.size, 1, none⟩ = some (.int .i32 0) := by rw [Lib.cell_of_heap H3.out.2]; rfl
          have f0 : w3.frozen? ⟨w.heap.size, 0, none⟩ = false := Lib.frozen_of_heap H3.out.2 _
          have f1 : w3.frozen? ⟨w.heap.size, 1, none⟩ = false := Lib.frozen_of_heap H3.out.2 _
          go_wp2_with (go_at_call 82; refine (Tryz.utf8_ValidRune _ _).mono ?_; rintro e w4 ⟨rfl, rfl⟩)
          (try simp only [Exit.inBlock, Exit.then])
          refine bodyPost_ret (results_cell2 rfl _ _ w.heap.size 158 #[.int .i32 0, .int .i32 0] (0, 0) _ rfl (ptwo_cells H3.out.2) Tryz.underlying158 rfl (by kernel_rfl)) rfl ?_
          rw [HX.out]
          exact ⟨rfl, (H3.out.1.setCell (Nat.le_refl _) _).setCell (Nat.le_refl _) _⟩
        · cases v2 : Lib.validRune (hi : Int)
          · have HX : Hid (spnP l = (8, 0, 0)) := Lib.hid (by rw [HX1.out, ho1, ho2, spnO_some]; exact if_pos (.inr v2))
            clear HX1
            go_enter Tryz.func165, Tryz.ntmps165
            go_wp2_with fail
            refine CC1.out.mono ?_
            rintro e w1 ⟨rfl, q, rfl⟩
            have H1 : Hid (Below w.heap.size w ((w.alloc (.cells #[.int .i32 0, .int .i32 0] 158)).drewN q) ∧ ((w.alloc (.cells #[.int .i32 0, .int .i32 0] 158)).drewN q).heap[w.heap.size]? = some (.cells #[.int .i32 0, .int .i32 0] 158 (0, 0))) := Lib.hid ⟨below_drewN H0.out.1 q, H0.out.2⟩
            generalize (w.alloc (.cells #[.int .i32 0, .int .i32 0] 158)).drewN q = w1 at H1 ⊢
            clear CC1 H0
            go_wp2_with fail
            refine (CA.out w1 (HE.out.below H1.out.1)).mono ?_
            rintro e w2 ⟨hp, hb2⟩
            have H2 := Lib.hid (show Below w.heap.size w w2 ∧ w2.heap[w.heap.size]? = some (.cells #[.int .i32 0, .int .i32 0] 158 (0, 0)) from ⟨H1.out.1.trans (hb2.mono H1.out.1.size), (hb2.block _ (by have := (Array.getElem?_eq_some_iff.1 H1.out.2).1; exact this)).trans H1.out.2⟩)
            clear hb2 H1
            rw [ho1] at hp
            obtain rfl := hp
            go_wp2_with fail
            refine (CB.out w2 (HE.out.below H2.out.1)).mono ?_
            rintro e w3 ⟨hp, hb3⟩
            have H3 := Lib.hid (show Below w.heap.size w w3 ∧ w3.heap[w.heap.size]? = some (.cells #[.int .i32 0, .int .i32 0] 158 (0, 0)) from ⟨H2.out.1.trans (hb3.mono H2.out.1.size), (hb3.block _ (by have := (Array.getElem?_eq_some_iff.1 H2.out.2).1; exact this)).trans H2.out.2⟩)
            clear hb3 H2
            rw [ho2] at hp
            obtain rfl := hp
            have c0 : w3.cell? ⟨w.heap.size, 0, none⟩ = some (.int .i32 0) := by rw [Lib.cell_of_heap H3.out.2]; rfl
            have c1 : w3.cell? ⟨w.heap.size, 1, none⟩ = some (.int .i32 0) := by rw [Lib.cell_of_heap H3.out.2]; rfl
            have f0 : w3.frozen? ⟨w.heap.size, 0, none⟩ = false := Lib.frozen_of_heap H3.out.2 _
            have f1 : w3.frozen? ⟨w.heap.size, 1, none⟩ = false := Lib.frozen_of_heap H3.out.2 _
            go_wp2_with (go_at_call 82; refine (Tryz.utf8_ValidRune _ _).mono ?_; rintro e w4 ⟨rfl, rfl⟩)
            (try simp only [Exit.inBlock, Exit.then])
            refine bodyPost_ret (results_cell2 rfl _ _ w.heap.size 158 #[.int .i32 0, .int .i32 0] (0, 0) _ rfl (ptwo_cells H3.out.2) Tryz.underlying158 rfl (by kernel_rfl)) rfl ?_
            rw [HX.out]
            exact ⟨rfl, (H3.out.1.setCell (Nat.le_refl _) _).setCell (Nat.le_refl _) _⟩
          · have HX2 : Hid (spnP l = if hi < lo then (1, 0, 0) else (0, lo, hi)) := Lib.hid (by rw [HX1.out, ho1, ho2, spnO_some]; exact if_neg (fun e => e.elim (fun e => by rw [v1] at e; cases e) (fun e => by rw [v2] at e; cases e)))
            by_cases hlt : hi < lo
            · have HX := Lib.hid (HX2.out.trans (if_pos hlt))
              have hltz : (hi : Int) < (lo : Int) := by omega
              clear HX1 HX2
              go_enter Tryz.func165, Tryz.ntmps165
              go_wp2_with fail
              refine CC1.out.mono ?_
              rintro e w1 ⟨rfl, q, rfl⟩
              have H1 : Hid (Below w.heap.size w ((w.alloc (.cells #[.int .i32 0, .int .i32 0] 158)).drewN q) ∧ ((w.alloc (.cells #[.int .i32 0, .int .i32 0] 158)).drewN q).heap[w.heap.size]? = some (.cells #[.int .i32 0, .int .i32 0] 158 (0, 0))) := Lib.hid ⟨below_drewN H0.out.1 q, H0.out.2⟩
              generalize (w.alloc (.cells #[.int .i32 0, .int .i32 0] 158)).drewN q = w1 at H1 ⊢
              clear CC1 H0
              go_wp2_with fail
              refine (CA.out w1 (HE.out.below H1.out.1)).mono ?_
              rintro e w2 ⟨hp, hb2⟩
              have H2 := Lib.hid (show Below w.heap.size w w2 ∧ w2.heap[w.heap.size]? = some (.cells #[.int .i32 0, .int .i32 0] 158 (0, 0)) from ⟨H1.out.1.trans (hb2.mono H1.out.1.size), (hb2.block _ (by have := (Array.getElem?_eq_some_iff.1 H1.out.2).1; exact this)).trans H1.out.2⟩)
              clear hb2 H1
              rw [ho1] at hp
              obtain rfl := hp
              go_wp2_with fail
              refine (CB.out w2 (HE.out.below H2.out.1)).mono ?_
              rintro e w3 ⟨hp, hb3⟩
              have H3 := Lib.hid (show Below w.heap.size w w3 ∧ w3.heap[w.heap.size]? = some (.cells #[.int .i32 0, .int .i32 0] 158 (0, 0)) from ⟨H2.out.1.trans (hb3.mono H2.out.1.size), (hb3.block _ (by have := (Array.getElem?_eq_some_iff.1 H2.out.2).1; exact this)).trans H2.out.2⟩)
              clear hb3 H2
              rw [ho2] at hp
              obtain rfl := hp
              have c0 : w3.cell? ⟨w.heap.size, 0, none⟩ = some (.int .i32 0) := by rw [Lib.cell_of_heap H3.out.2]; rfl
              have c1 : w3.cell? ⟨w.heap.size, 1, none⟩ = some (.int .i32 0) := by rw [Lib.cell_of_heap H3.out.2]; rfl
              have f0 : w3.frozen? ⟨w.heap.size, 0, none⟩ = false := Lib.frozen_of_heap H3.out.2 _
              have f1 : w3.frozen? ⟨w.heap.size, 1, none⟩ = false := Lib.frozen_of_heap H3.out.2 _
              go_wp2_with (go_at_call 82; refine (Tryz.utf8_ValidRune _ _).mono ?_; rintro e w4 ⟨rfl, rfl⟩)
              (try simp only [Exit.inBlock, Exit.then])
              refine bodyPost_ret (results_cell2 rfl _ _ w.heap.size 158 #[.int .i32 0, .int .i32 0] (0, 0) _ rfl (ptwo_cells H3.out.2) Tryz.underlying158 rfl (by kernel_rfl)) rfl ?_
              rw [HX.out]
              exact ⟨rfl, (H3.out.1.setCell (Nat.le_refl _) _).setCell (Nat.le_refl _) _⟩
            · have HX := Lib.hid (HX2.out.trans (if_neg hlt))
              have hltz : (lo : Int) ≤ (hi : Int) := by omega
              clear HX1 HX2
              go_enter Tryz.func165, Tryz.ntmps165
              go_wp2_with fail
              refine CC1.out.mono ?_
              rintro e w1 ⟨rfl, q, rfl⟩
              have H1 : Hid (Below w.heap.size w ((w.alloc (.cells #[.int .i32 0, .int .i32 0] 158)).drewN q) ∧ ((w.alloc (.cells #[.int .i32 0, .int .i32 0] 158)).drewN q).heap[w.heap.size]? = some (.cells #[.int .i32 0, .int .i32 0] 158 (0, 0))) := Lib.hid ⟨below_drewN H0.out.1 q, H0.out.2⟩
              generalize (w.alloc (.cells #[.int .i32 0, .int .i32 0] 158)).drewN q = w1 at H1 ⊢
              clear CC1 H0
              go_wp2_with fail
              refine (CA.out w1 (HE.out.below H1.out.1)).mono ?_
              rintro e w2 ⟨hp, hb2⟩
              have H2 := Lib.hid (show Below w.heap.size w w2 ∧ w2.heap[w.heap.size]? = some (.cells #[.int .i32 0, .int .i32 0] 158 (0, 0)) from ⟨H1.out.1.trans (hb2.mono H1.out.1.size), (hb2.block _ (by have := (Array.getElem?_eq_some_iff.1 H1.out.2).1; exact this)).trans H1.out.2⟩)
              clear hb2 H1
              rw [ho1] at hp
              obtain rfl := hp
              go_wp2_with fail
              refine (CB.out w2 (HE.out.below H2.out.1)).mono ?_
              rintro e w3 ⟨hp, hb3⟩
              have H3 := Lib.hid (show Below w.heap.size w w3 ∧ w3.heap[w.heap.size]? = some (.cells #[.int .i32 0, .int .i32 0] 158 (0, 0)) from ⟨H2.out.1.trans (hb3.mono H2.out.1.size), (hb3.block _ (by have := (Array.getElem?_eq_some_iff.1 H2.out.2).1; exact this)).trans H2.out.2⟩)
              clear hb3 H2
              rw [ho2] at hp
              obtain rfl := hp
              have c0 : w3.cell? ⟨w.heap.size, 0, none⟩ = some (.int .i32 0) := by rw [Lib.cell_of_heap H3.out.2]; rfl
              have c1 : w3.cell? ⟨w.heap.size, 1, none⟩ = some (.int .i32 0) := by rw [Lib.cell_of_heap H3.out.2]; rfl
              have f0 : w3.frozen? ⟨w.heap.size, 0, none⟩ = false := Lib.frozen_of_heap H3.out.2 _
              have f1 : w3.frozen? ⟨w.heap.size, 1, none⟩ = false := Lib.frozen_of_heap H3.out.2 _
              go_wp2_with (go_at_call 82; refine (Tryz.utf8_ValidRune _ _).mono ?_; rintro e w4 ⟨rfl, rfl⟩)
              (try simp only [Exit.inBlock, Exit.then])
              refine bodyPost_ret (results_cell2 rfl _ _ w.heap.size 158 #[.int .i32 lo, .int .i32 hi] (0, 0) _ rfl (ptwo_cells H3.out.2) Tryz.underlying158 rfl (by kernel_rfl)) rfl ?_
              rw [HX.out]
              exact ⟨rfl, (H3.out.1.setCell (Nat.le_refl _) _).setCell (Nat.le_refl _) _⟩
end Go.Proofs.YtcfhblbmpbfoaaaGreatDoor
