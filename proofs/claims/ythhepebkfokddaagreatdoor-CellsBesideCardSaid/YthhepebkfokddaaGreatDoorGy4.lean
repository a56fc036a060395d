/- Parts of the proof of what the last text says. -/
import Derived.Test.YthhepebkfokddaaGreatDoorGy3
import Derived.Laws.Rows
import Derived.OwnWalk
import Derived.Test.YthhepebkfokddaaGreatDoorGy1
import Derived.Laws.Strings3
/- props: a row's numbers, points. -/
namespace Go.Proofs.YthhepebkfokddaaGreatDoor
open Go Go.RowKit Go.Kt Go.Kt.Rg

theorem results_cell2 {P : Program} {fn : Func} {p a : Tmp} {ty : TypeId} (h : fn.results = #[.cell p ty, .tmp a]) (tmps : Array Value) (w : World) (g : Nat) (t : TypeId) (cs : Array Value) (fr : Nat × Nat) (d : TypeDesc)
    (hp : tmps.getD p undef = .pointer (some ⟨g, 0, none⟩)) (hg : w.heap[g]? = some (.cells cs t fr))
    (hu : P.underlying ty = some d) (hd : (match d with | .struct _ | .array _ _ => true | _ => false) = true) (hi : (P.info? ty).map (·.size) = some cs.size) :
    (results fn tmps).run P w = .ok (.tuple #[.agg cs, tmps.getD a undef]) w := by
  have hp' : tmps[p]?.getD undef = .pointer (some ⟨g, 0, none⟩) := by simpa using hp
  simp [results, h, hp', asAddr, run_loadVar_row w g t ty cs fr d hg hu hd hi]
theorem ptwo_cells {V : World} {g : Nat} {a b x y : Value} {T : TypeId} (h : V.heap[g]? = some (.cells #[a, b] T (0, 0))) :
    ((V.setCell ⟨g, 0, none⟩ x).setCell ⟨g, 1, none⟩ y).heap[g]? = some (.cells #[x, y] T (0, 0)) := by
  have h1 := heap_setCell_same V g 0 _ _ x h
  have h2 := heap_setCell_same (V.setCell ⟨g, 0, none⟩ x) g 1 _ _ y h1
  simpa using h2

def MVar (w : World) : Prop := ∃ m : Int, w.cell? ⟨1, 0, none⟩ = some (.int .i64 m)
theorem MVar.below {A B : World} (h : MVar A) (hb : Below A.heap.size A B) : MVar B := by
  obtain ⟨m, h⟩ := h
  exact ⟨m, (hb.cell (lt_of_cell h)).trans h⟩
structure PEnv (w : World) : Prop where
  v : PVar w
  k : KTab w
  m : MVar w
theorem PEnv.below {A B : World} (h : PEnv A) (hb : Below A.heap.size A B) : PEnv B := ⟨h.v.below hb, h.k.below hb, h.m.below hb⟩

def spnO (o1 o2 : Option Nat) : Nat × Nat × Nat := match o1, o2 with
  | some lo, some hi => if Lib.validRune lo = false ∨ Lib.validRune hi = false then (8, 0, 0) else if hi < lo then (1, 0, 0) else (0, lo, hi)
  | _, _ => (11, 0, 0)
def spnP (l : List UInt8) : Nat × Nat × Nat :=
  spnO (numP (Lib.cut l [46, 46]).1) (numP (if (Lib.cut l [46, 46]).2.2 then (Lib.cut l [46, 46]).2.1 else (Lib.cut l [46, 46]).1))
theorem spnO_some (lo hi : Nat) : spnO (some lo) (some hi) = if Lib.validRune lo = false ∨ Lib.validRune hi = false then (8, 0, 0) else if hi < lo then (1, 0, 0) else (0, lo, hi) := rfl
theorem cut_le (l sep : List UInt8) : (Lib.cut l sep).1.length ≤ l.length ∧ (Lib.cut l sep).2.1.length ≤ l.length := by
  unfold Lib.cut
  split
  · exact ⟨by simp only [List.length_take]; omega, by simp only [List.length_drop]; omega⟩
  · exact ⟨Nat.le_refl _, Nat.zero_le _⟩
theorem bsize (l : List UInt8) : (⟨l.toArray⟩ : ByteArray).size = l.length := by show l.toArray.size = _; simp

set_option maxRecDepth 100000 in
set_option maxHeartbeats 2000000 in
theorem pspan (s : ByteArray) (w : World) (hs : s.size ≤ 1048576) (hE : PEnv w) :
    Calls Tryz.prog 104 #[.string s] w fun e w' => e = .returned (.tuple #[.agg #[.int .i32 (spnP s.data.toList).2.1, .int .i32 (spnP s.data.toList).2.2], .int .i64 (spnP s.data.toList).1]) ∧ Below w.heap.size w w' := by
  obtain ⟨m, hm⟩ := hE.m
  have CC := Lib.hid (fun W (h : W.cell? ⟨1, 0, none⟩ = some (.int .i64 m)) => Tryz.strings_Cut s ⟨#[46, 46]⟩ m W (by omega) h)
  obtain ⟨l, hl⟩ : ∃ l, s.data.toList = l := ⟨_, rfl⟩
  have hln : l.length = s.size := by rw [← hl]; exact (Lib.size_eq s).symm
  have hcl := cut_le l [46, 46]
  have hX : spnP l = spnO (numP (Lib.cut l [46, 46]).1) (numP (if (Lib.cut l [46, 46]).2.2 then (Lib.cut l [46, 46]).2.1 else (Lib.cut l [46, 46]).1)) := rfl
  obtain ⟨⟨a, b, ok⟩, hc⟩ : ∃ z, Lib.cut l [46, 46] = z := ⟨_, rfl⟩
  rw [hl] at CC ⊢
  rw [hc] at hcl hX
  replace CC : Hid (∀ W, W.cell? ⟨1, 0, none⟩ = some (.int .i64 m) → Calls Tryz.prog 43 #[.string s, .string ⟨#[46, 46]⟩] W fun e w' => e = .returned (.tuple #[.string ⟨a.toArray⟩, .string ⟨b.toArray⟩, .bool ok]) ∧ ∃ n, w' = W.drewN n) := Lib.hid (fun W h => by have := CC.out W h; rw [show (⟨#[46, 46]⟩ : ByteArray).data.toList = [46, 46] from rfl, hc] at this; exact this)
  simp only at hcl hX
  obtain ⟨ha, hb⟩ := hcl
  have CA := Lib.hid (fun W (h : PEnv W) => pnumber ⟨a.toArray⟩ W (by rw [bsize]; omega) h.v)
  have CB := Lib.hid (fun W (h : PEnv W) => pnumber ⟨b.toArray⟩ W (by rw [bsize]; omega) h.v)
  have HE := Lib.hid hE
  have HX0 := Lib.hid hX
  have hm1 : (w.alloc (.cells #[.int .i32 0, .int .i32 0] 104)).cell? ⟨1, 0, none⟩ = some (.int .i64 m) := (((Below.refl _ _).alloc (Nat.le_refl _) _).cell (lt_of_cell hm)).trans hm
  have CC1 := Lib.hid (CC.out _ hm1)
  have H0 : Hid (Below w.heap.size w (w.alloc (.cells #[.int .i32 0, .int .i32 0] 104)) ∧ (w.alloc (.cells #[.int .i32 0, .int .i32 0] 104)).heap[w.heap.size]? = some (.cells #[.int .i32 0, .int .i32 0] 104 (0, 0))) := Lib.hid ⟨(Below.refl _ _).alloc (Nat.le_refl _) _, heap_alloc_new _ _⟩
  clear hX hE hm hm1 CC hc hl hln ha hb hs
  cases ok
  · have HX1 : Hid (spnP l = spnO (numP a) (numP a)) := HX0
    clear HX0
    cases ho1 : numP a with
    | none =>
      have HX : Hid (spnP l = (11, 0, 0)) := Lib.hid (by rw [HX1.out, ho1]; rfl)
      clear HX1
      go_enter Tryz.func104, Tryz.ntmps104
      go_wp2_with fail
      refine CC1.out.mono ?_
      rintro e w1 ⟨rfl, q, rfl⟩
      have H1 : Hid (Below w.heap.size w ((w.alloc (.cells #[.int .i32 0, .int .i32 0] 104)).drewN q) ∧ ((w.alloc (.cells #[.int .i32 0, .int .i32 0] 104)).drewN q).heap[w.heap.size]? = some (.cells #[.int .i32 0, .int .i32 0] 104 (0, 0))) := Lib.hid ⟨below_drewN H0.out.1 q, H0.out.2⟩
      generalize (w.alloc (.cells #[.int .i32 0, .int .i32 0] 104)).drewN q = w1 at H1 ⊢
      clear CC1 H0
      go_wp2_with fail
      refine (CA.out w1 (HE.out.below H1.out.1)).mono ?_
      rintro e w2 ⟨hp, hb2⟩
      have H2 := Lib.hid (show Below w.heap.size w w2 ∧ w2.heap[w.heap.size]? = some (.cells #[.int .i32 0, .int .i32 0] 104 (0, 0)) from ⟨H1.out.1.trans (hb2.mono H1.out.1.size), (hb2.block _ (by have := (Array.getElem?_eq_some_iff.1 H1.out.2).1; exact this)).trans H1.out.2⟩)
      clear hb2 H1
      rw [ho1] at hp
      obtain ⟨z1, rfl⟩ := hp
      go_wp2_with fail
      refine (CA.out w2 (HE.out.below H2.out.1)).mono ?_
      rintro e w3 ⟨hp, hb3⟩
      have H3 := Lib.hid (show Below w.heap.size w w3 ∧ w3.heap[w.heap.size]? = some (.cells #[.int .i32 0, .int .i32 0] 104 (0, 0)) from ⟨H2.out.1.trans (hb3.mono H2.out.1.size), (hb3.block _ (by have := (Array.getElem?_eq_some_iff.1 H2.out.2).1; exact this)).trans H2.out.2⟩)
      clear hb3 H2
      rw [ho1] at hp
      obtain ⟨z2, rfl⟩ := hp
      have c0 : w3.cell? ⟨w.heap.size, 0, none⟩ = some (.int .i32 0) := by rw [Lib.cell_of_heap H3.out.2]; rfl
      have c1 : w3.cell? ⟨w.heap.size, 1, none⟩ = some (.int .i32 0) := by rw [Lib.cell_of_heap H3.out.2]; rfl
      have f0 : w3.frozen? ⟨w.heap.size, 0, none⟩ = false := Lib.frozen_of_heap H3.out.2 _
      have f1 : w3.frozen? ⟨w.heap.size, 1, none⟩ = false := Lib.frozen_of_heap H3.out.2 _
      go_wp2_with (go_at_call 108; refine (Tryz.utf8_ValidRune _ _).mono ?_; rintro e w4 ⟨rfl, rfl⟩)
      (try simp only [Exit.inBlock, Exit.then])
      refine bodyPost_ret (results_cell2 rfl _ _ w.heap.size 104 #[.int .i32 0, .int .i32 0] (0, 0) _ rfl (ptwo_cells H3.out.2) Tryz.underlying104 rfl (by kernel_rfl)) rfl ?_
      rw [HX.out]
      exact ⟨rfl, (H3.out.1.setCell (Nat.le_refl _) _).setCell (Nat.le_refl _) _⟩
    | some lo =>
      have hlo := numP_le ho1
      cases v1 : Lib.validRune (lo : Int)
      · have HX : Hid (spnP l = (8, 0, 0)) := Lib.hid (by rw [HX1.out, ho1, spnO_some]; exact if_pos (.inl v1))
        clear HX1
        go_enter Tryz.func104, Tryz.ntmps104
        go_wp2_with fail
        refine CC1.out.mono ?_
        rintro e w1 ⟨rfl, q, rfl⟩
        have H1 : Hid (Below w.heap.size w ((w.alloc (.cells #[.int .i32 0, .int .i32 0] 104)).drewN q) ∧ ((w.alloc (.cells #[.int .i32 0, .int .i32 0] 104)).drewN q).heap[w.heap.size]? = some (.cells #[.int .i32 0, .int .i32 0] 104 (0, 0))) := Lib.hid ⟨below_drewN H0.out.1 q, H0.out.2⟩
        generalize (w.alloc (.cells #[.int .i32 0, .int .i32 0] 104)).drewN q = w1 at H1 ⊢
        clear CC1 H0
        go_wp2_with fail
        refine (CA.out w1 (HE.out.below H1.out.1)).mono ?_
        rintro e w2 ⟨hp, hb2⟩
        have H2 := Lib.hid (show Below w.heap.size w w2 ∧ w2.heap[w.heap.size]? = some (.cells #[.int .i32 0, .int .i32 0] 104 (0, 0)) from ⟨H1.out.1.trans (hb2.mono H1.out.1.size), (hb2.block _ (by have := (Array.getElem?_eq_some_iff.1 H1.out.2).1; exact this)).trans H1.out.2⟩)
        clear hb2 H1
        rw [ho1] at hp
        obtain rfl := hp
        go_wp2_with fail
        refine (CA.out w2 (HE.out.below H2.out.1)).mono ?_
        rintro e w3 ⟨hp, hb3⟩
        have H3 := Lib.hid (show Below w.heap.size w w3 ∧ w3.heap[w.heap.size]? = some (.cells #[.int .i32 0, .int .i32 0] 104 (0, 0)) from ⟨H2.out.1.trans (hb3.mono H2.out.1.size), (hb3.block _ (by have := (Array.getElem?_eq_some_iff.1 H2.out.2).1; exact this)).trans H2.out.2⟩)
        clear hb3 H2
        rw [ho1] at hp
        obtain rfl := hp
        have c0 : w3.cell? ⟨w.heap.size, 0, none⟩ = some (.int .i32 0) := by rw [Lib.cell_of_heap H3.out.2]; rfl
        have c1 : w3.cell? ⟨w.heap.size, 1, none⟩ = some (.int .i32 0) := by rw [Lib.cell_of_heap H3.out.2]; rfl
        have f0 : w3.frozen? ⟨w.heap.size, 0, none⟩ = false := Lib.frozen_of_heap H3.out.2 _
        have f1 : w3.frozen? ⟨w.heap.size, 1, none⟩ = false := Lib.frozen_of_heap H3.out.2 _
        go_wp2_with (go_at_call 108; refine (Tryz.utf8_ValidRune _ _).mono ?_; rintro e w4 ⟨rfl, rfl⟩)
        (try simp only [Exit.inBlock, Exit.then])
        refine bodyPost_ret (results_cell2 rfl _ _ w.heap.size 104 #[.int .i32 0, .int .i32 0] (0, 0) _ rfl (ptwo_cells H3.out.2) Tryz.underlying104 rfl (by kernel_rfl)) rfl ?_
        rw [HX.out]
        exact ⟨rfl, (H3.out.1.setCell (Nat.le_refl _) _).setCell (Nat.le_refl _) _⟩
      · have HX : Hid (spnP l = (0, lo, lo)) := Lib.hid (by rw [HX1.out, ho1, spnO_some]; exact (if_neg (fun e => by rcases e with e | e <;> · rw [v1] at e; cases e)).trans (if_neg (Nat.lt_irrefl _)))
        clear HX1
        go_enter Tryz.func104, Tryz.ntmps104
        go_wp2_with fail
        refine CC1.out.mono ?_
        rintro e w1 ⟨rfl, q, rfl⟩
        have H1 : Hid (Below w.heap.size w ((w.alloc (.cells #[.int .i32 0, .int .i32 0] 104)).drewN q) ∧ ((w.alloc (.cells #[.int .i32 0, .int .i32 0] 104)).drewN q).heap[w.heap.size]? = some (.cells #[.int .i32 0, .int .i32 0] 104 (0, 0))) := Lib.hid ⟨below_drewN H0.out.1 q, H0.out.2⟩
        generalize (w.alloc (.cells #[.int .i32 0, .int .i32 0] 104)).drewN q = w1 at H1 ⊢
        clear CC1 H0
        go_wp2_with fail
        refine (CA.out w1 (HE.out.below H1.out.1)).mono ?_
        rintro e w2 ⟨hp, hb2⟩
        have H2 := Lib.hid (show Below w.heap.size w w2 ∧ w2.heap[w.heap.size]? = some (.cells #[.int .i32 0, .int .i32 0] 104 (0, 0)) from ⟨H1.out.1.trans (hb2.mono H1.out.1.size), (hb2.block _ (by have := (Array.getElem?_eq_some_iff.1 H1.out.2).1; exact this)).trans H1.out.2⟩)
        clear hb2 H1
        rw [ho1] at hp
        obtain rfl := hp
        go_wp2_with fail
        refine (CA.out w2 (HE.out.below H2.out.1)).mono ?_
        rintro e w3 ⟨hp, hb3⟩
        have H3 := Lib.hid (show Below w.heap.size w w3 ∧ w3.heap[w.heap.size]? = some (.cells #[.int .i32 0, .int .i32 0] 104 (0, 0)) from ⟨H2.out.1.trans (hb3.mono H2.out.1.size), (hb3.block _ (by have := (Array.getElem?_eq_some_iff.1 H2.out.2).1; exact this)).trans H2.out.2⟩)
        clear hb3 H2
        rw [ho1] at hp
        obtain rfl := hp
        have c0 : w3.cell? ⟨w.heap.size, 0, none⟩ = some (.int .i32 0) := by rw [Lib.cell_of_heap H3.out.2]; rfl
        have c1 : w3.cell? ⟨w.heap.size, 1, none⟩ = some (.int .i32 0) := by rw [Lib.cell_of_heap H3.out.2]; rfl
        have f0 : w3.frozen? ⟨w.heap.size, 0, none⟩ = false := Lib.frozen_of_heap H3.out.2 _
        have f1 : w3.frozen? ⟨w.heap.size, 1, none⟩ = false := Lib.frozen_of_heap H3.out.2 _
        go_wp2_with (go_at_call 108; refine (Tryz.utf8_ValidRune _ _).mono ?_; rintro e w4 ⟨rfl, rfl⟩)
        (try simp only [Exit.inBlock, Exit.then])
        refine bodyPost_ret (results_cell2 rfl _ _ w.heap.size 104 #[.int .i32 lo, .int .i32 lo] (0, 0) _ rfl (ptwo_cells H3.out.2) Tryz.underlying104 rfl (by kernel_rfl)) rfl ?_
        rw [HX.out]
        exact ⟨rfl, (H3.out.1.setCell (Nat.le_refl _) _).setCell (Nat.le_refl _) _⟩
  · have HX1 : Hid (spnP l = spnO (numP a) (numP b)) := HX0
    clear HX0
    cases ho1 : numP a with
    | none =>
      cases ho2 : numP b with
      | none =>
        have HX : Hid (spnP l = (11, 0, 0)) := Lib.hid (by rw [HX1.out, ho1, ho2]; rfl)
        clear HX1
        go_enter Tryz.func104, Tryz.ntmps104
        go_wp2_with fail
        refine CC1.out.mono ?_
        rintro e w1 ⟨rfl, q, rfl⟩
        have H1 : Hid (Below w.heap.size w ((w.alloc (.cells #[.int .i32 0, .int .i32 0] 104)).drewN q) ∧ ((w.alloc (.cells #[.int .i32 0, .int .i32 0] 104)).drewN q).heap[w.heap.size]? = some (.cells #[.int .i32 0, .int .i32 0] 104 (0, 0))) := Lib.hid ⟨below_drewN H0.out.1 q, H0.out.2⟩
        generalize (w.alloc (.cells #[.int .i32 0, .int .i32 0] 104)).drewN q = w1 at H1 ⊢
        clear CC1 H0
        go_wp2_with fail
        refine (CA.out w1 (HE.out.below H1.out.1)).mono ?_
        rintro e w2 ⟨hp, hb2⟩
        have H2 := Lib.hid (show Below w.heap.size w w2 ∧ w2.heap[w.heap.size]? = some (.cells #[.int .i32 0, .int .i32 0] 104 (0, 0)) from ⟨H1.out.1.trans (hb2.mono H1.out.1.size), (hb2.block _ (by have := (Array.getElem?_eq_some_iff.1 H1.out.2).1; exact this)).trans H1.out.2⟩)
        clear hb2 H1
        rw [ho1] at hp
        obtain ⟨z1, rfl⟩ := hp
        go_wp2_with fail
        refine (CB.out w2 (HE.out.below H2.out.1)).mono ?_
        rintro e w3 ⟨hp, hb3⟩
        have H3 := Lib.hid (show Below w.heap.size w w3 ∧ w3.heap[w.heap.size]? = some (.cells #[.int .i32 0, .int .i32 0] 104 (0, 0)) from ⟨H2.out.1.trans (hb3.mono H2.out.1.size), (hb3.block _ (by have := (Array.getElem?_eq_some_iff.1 H2.out.2).1; exact this)).trans H2.out.2⟩)
        clear hb3 H2
        rw [ho2] at hp
        obtain ⟨z2, rfl⟩ := hp
        have c0 : w3.cell? ⟨w.heap.size, 0, none⟩ = some (.int .i32 0) := by rw [Lib.cell_of_heap H3.out.2]; rfl
        have c1 : w3.cell? ⟨w.heap.size, 1, none⟩ = some (.int .i32 0) := by rw [Lib.cell_of_heap H3.out.2]; rfl
        have f0 : w3.frozen? ⟨w.heap.size, 0, none⟩ = false := Lib.frozen_of_heap H3.out.2 _
        have f1 : w3.frozen? ⟨w.heap.size, 1, none⟩ = false := Lib.frozen_of_heap H3.out.2 _
        go_wp2_with (go_at_call 108; refine (Tryz.utf8_ValidRune _ _).mono ?_; rintro e w4 ⟨rfl, rfl⟩)
        (try simp only [Exit.inBlock, Exit.then])
        refine bodyPost_ret (results_cell2 rfl _ _ w.heap.size 104 #[.int .i32 0, .int .i32 0] (0, 0) _ rfl (ptwo_cells H3.out.2) Tryz.underlying104 rfl (by kernel_rfl)) rfl ?_
        rw [HX.out]
        exact ⟨rfl, (H3.out.1.setCell (Nat.le_refl _) _).setCell (Nat.le_refl _) _⟩
      | some hi =>
        have HX : Hid (spnP l = (11, 0, 0)) := Lib.hid (by rw [HX1.out, ho1, ho2]; rfl)
        have hh := numP_le ho2
        clear HX1
        go_enter Tryz.func104, Tryz.ntmps104
        go_wp2_with fail
        refine CC1.out.mono ?_
        rintro e w1 ⟨rfl, q, rfl⟩
        have H1 : Hid (Below w.heap.size w ((w.alloc (.cells #[.int .i32 0, .int .i32 0] 104)).drewN q) ∧ ((w.alloc (.cells #[.int .i32 0, .int .i32 0] 104)).drewN q).heap[w.heap.size]? = some (.cells #[.int .i32 0, .int .i32 0] 104 (0, 0))) := Lib.hid ⟨below_drewN H0.out.1 q, H0.out.2⟩
        generalize (w.alloc (.cells #[.int .i32 0, .int .i32 0] 104)).drewN q = w1 at H1 ⊢
        clear CC1 H0
        go_wp2_with fail
        refine (CA.out w1 (HE.out.below H1.out.1)).mono ?_
        rintro e w2 ⟨hp, hb2⟩
        have H2 := Lib.hid (show Below w.heap.size w w2 ∧ w2.heap[w.heap.size]? = some (.cells #[.int .i32 0, .int .i32 0] 104 (0, 0)) from ⟨H1.out.1.trans (hb2.mono H1.out.1.size), (hb2.block _ (by have := (Array.getElem?_eq_some_iff.1 H1.out.2).1; exact this)).trans H1.out.2⟩)
        clear hb2 H1
        rw [ho1] at hp
        obtain ⟨z1, rfl⟩ := hp
        go_wp2_with fail
        refine (CB.out w2 (HE.out.below H2.out.1)).mono ?_
        rintro e w3 ⟨hp, hb3⟩
        have H3 := Lib.hid (show Below w.heap.size w w3 ∧ w3.heap[w.heap.size]? = some (.cells #[.int .i32 0, .int .i32 0] 104 (0, 0)) from ⟨H2.out.1.trans (hb3.mono H2.out.1.size), (hb3.block _ (by have := (Array.getElem?_eq_some_iff.1 H2.out.2).1; exact this)).trans H2.out.2⟩)
        clear hb3 H2
        rw [ho2] at hp
        obtain rfl := hp
        have c0 : w3.cell? ⟨w.heap.size, 0, none⟩ = some (.int .i32 0) := by rw [Lib.cell_of_heap H3.out.2]; rfl
        have c1 : w3.cell? ⟨w.heap.size, 1, none⟩ = some (.int .i32 0) := by rw [Lib.cell_of_heap H3.out.2]; rfl
        have f0 : w3.frozen? ⟨w.heap.size, 0, none⟩ = false := Lib.frozen_of_heap H3.out.2 _
        have f1 : w3.frozen? ⟨w.heap.size, 1, none⟩ = false := Lib.frozen_of_heap H3.out.2 _
        go_wp2_with (go_at_call 108; refine (Tryz.utf8_ValidRune _ _).mono ?_; rintro e w4 ⟨rfl, rfl⟩)
        (try simp only [Exit.inBlock, Exit.then])
        refine bodyPost_ret (results_cell2 rfl _ _ w.heap.size 104 #[.int .i32 0, .int .i32 0] (0, 0) _ rfl (ptwo_cells H3.out.2) Tryz.underlying104 rfl (by kernel_rfl)) rfl ?_
        rw [HX.out]
        exact ⟨rfl, (H3.out.1.setCell (Nat.le_refl _) _).setCell (Nat.le_refl _) _⟩
    | some lo =>
      have hlo := numP_le ho1
      cases ho2 : numP b with
      | none =>
        have HX : Hid (spnP l = (11, 0, 0)) := Lib.hid (by rw [HX1.out, ho1, ho2]; rfl)
        clear HX1
        go_enter Tryz.func104, Tryz.ntmps104
        go_wp2_with fail
        refine CC1.out.mono ?_
        rintro e w1 ⟨rfl, q, rfl⟩
        have H1 : Hid (Below w.heap.size w ((w.alloc (.cells #[.int .i32 0, .int .i32 0] 104)).drewN q) ∧ ((w.alloc (.cells #[.int .i32 0, .int .i32 0] 104)).drewN q).heap[w.heap.size]? = some (.cells #[.int .i32 0, .int .i32 0] 104 (0, 0))) := Lib.hid ⟨below_drewN H0.out.1 q, H0.out.2⟩
        generalize (w.alloc (.cells #[.int .i32 0, .int .i32 0] 104)).drewN q = w1 at H1 ⊢
        clear CC1 H0
        go_wp2_with fail
        refine (CA.out w1 (HE.out.below H1.out.1)).mono ?_
        rintro e w2 ⟨hp, hb2⟩
        have H2 := Lib.hid (show Below w.heap.size w w2 ∧ w2.heap[w.heap.size]? = some (.cells #[.int .i32 0, .int .i32 0] 104 (0, 0)) from ⟨H1.out.1.trans (hb2.mono H1.out.1.size), (hb2.block _ (by have := (Array.getElem?_eq_some_iff.1 H1.out.2).1; exact this)).trans H1.out.2⟩)
        clear hb2 H1
        rw [ho1] at hp
        obtain rfl := hp
        go_wp2_with fail
        refine (CB.out w2 (HE.out.below H2.out.1)).mono ?_
        rintro e w3 ⟨hp, hb3⟩
        have H3 := Lib.hid (show Below w.heap.size w w3 ∧ w3.heap[w.heap.size]? = some (.cells #[.int .i32 0, .int .i32 0] 104 (0, 0)) from ⟨H2.out.1.trans (hb3.mono H2.out.1.size), (hb3.block _ (by have := (Array.getElem?_eq_some_iff.1 H2.out.2).1; exact this)).trans H2.out.2⟩)
        clear hb3 H2
        rw [ho2] at hp
        obtain ⟨z2, rfl⟩ := hp
        have c0 : w3.cell? ⟨w.heap.size, 0, none⟩ = some (.int .i32 0) := by rw [Lib.cell_of_heap H3.out.2]; rfl
        have c1 : w3.cell? ⟨w.heap.size, 1, none⟩ = some (.int .i32 0) := by rw [Lib.cell_of_heap H3.out.2]; rfl
        have f0 : w3.frozen? ⟨w.heap.size, 0, none⟩ = false := Lib.frozen_of_heap H3.out.2 _
        have f1 : w3.frozen? ⟨w.heap.size, 1, none⟩ = false := Lib.frozen_of_heap H3.out.2 _
        go_wp2_with (go_at_call 108; refine (Tryz.utf8_ValidRune _ _).mono ?_; rintro e w4 ⟨rfl, rfl⟩)
        (try simp only [Exit.inBlock, Exit.then])
        refine bodyPost_ret (results_cell2 rfl _ _ w.heap.size 104 #[.int .i32 0, .int .i32 0] (0, 0) _ rfl (ptwo_cells H3.out.2) Tryz.underlying104 rfl (by kernel_rfl)) rfl ?_
        rw [HX.out]
        exact ⟨rfl, (H3.out.1.setCell (Nat.le_refl _) _).setCell (Nat.le_refl _) _⟩
      | some hi =>
        have hhi := numP_le ho2
        cases v1 : Lib.validRune (lo : Int)
        · have HX : Hid (spnP l = (8, 0, 0)) := Lib.hid (by rw [HX1.out, ho1, ho2, spnO_some]; exact if_pos (.inl v1))
          clear HX1
          go_enter Tryz.func104, Tryz.ntmps104
          go_wp2_with fail
          refine CC1.out.mono ?_
          rintro e w1 ⟨rfl, q, rfl⟩
          have H1 : Hid (Below w.heap.size w ((w.alloc (.cells #[.int .i32 0, .int .i32 0] 104)).drewN q) ∧ ((w.alloc (.cells #[.int .i32 0, .int .i32 0] 104)).drewN q).heap[w.heap.size]? = some (.cells #[.int .i32 0, .int .i32 0] 104 (0, 0))) := Lib.hid ⟨below_drewN H0.out.1 q, H0.out.2⟩
          generalize (w.alloc (.cells #[.int .i32 0, .int .i32 0] 104)).drewN q = w1 at H1 ⊢
          clear CC1 H0
          go_wp2_with fail
          refine (CA.out w1 (HE.out.below H1.out.1)).mono ?_
          rintro e w2 ⟨hp, hb2⟩
          have H2 := Lib.hid (show Below w.heap.size w w2 ∧ w2.heap[w.heap.size]? = some (.cells #[.int .i32 0, .int .i32 0] 104 (0, 0)) from ⟨H1.out.1.trans (hb2.mono H1.out.1.size), (hb2.block _ (by have := (Array.getElem?_eq_some_iff.1 H1.out.2).1; exact this)).trans H1.out.2⟩)
          clear hb2 H1
          rw [ho1] at hp
          obtain rfl := hp
          go_wp2_with fail
          refine (CB.out w2 (HE.out.below H2.out.1)).mono ?_
          rintro e w3 ⟨hp, hb3⟩
          have H3 := Lib.hid (show Below w.heap.size w w3 ∧ w3.heap[w.heap.size]? = some (.cells #[.int .i32 0, .int .i32 0] 104 (0, 0)) from ⟨H2.out.1.trans (hb3.mono H2.out.1.size), (hb3.block _ (by have := (Array.getElem?_eq_some_iff.1 H2.out.2).1; exact this)).trans H2.out.2⟩)
          clear hb3 H2
          rw [ho2] at hp
          obtain rfl := hp
          have c0 : w3.cell? ⟨w.heap.size, 0, none⟩ = some (.int .i32 0) := by rw [Lib.cell_of_heap H3.out.2]; rfl
          have c1 : w3.cell? ⟨w.heap.size, 1, none⟩ = some (.int .i32 0) := by rw [Lib.cell_of_heap H3.out.2]; rfl
          have f0 : w3.frozen? ⟨w.heap.size, 0, none⟩ = false := Lib.frozen_of_heap H3.out.2 _
          have f1 : w3.frozen? ⟨w.heap.size, 1, none⟩ = false := Lib.frozen_of_heap H3.out.2 _
          go_wp2_with (go_at_call 108; refine (Tryz.utf8_ValidRune _ _).mono ?_; rintro e w4 ⟨rfl, rfl⟩)
          (try simp only [Exit.inBlock, Exit.then])
          refine bodyPost_ret (results_cell2 rfl _ _ w.heap.size 104 #[.int .i32 0, .int .i32 0] (0, 0) _ rfl (ptwo_cells H3.out.2) Tryz.underlying104 rfl (by kernel_rfl)) rfl ?_
          rw [HX.out]
          exact ⟨rfl, (H3.out.1.setCell (Nat.le_refl _) _).setCell (Nat.le_refl _) _⟩
        · cases v2 : Lib.validRune (hi : Int)
          · have HX : Hid (spnP l = (8, 0, 0)) := Lib.hid (by rw [HX1.out, ho1, ho2, spnO_some]; exact if_pos (.inr v2))
            clear HX1
            go_enter Tryz.func104, Tryz.ntmps104
            go_wp2_with fail
            refine CC1.out.mono ?_
            rintro e w1 ⟨rfl, q, rfl⟩
            have H1 : Hid (Below w.heap.size w ((w.alloc (.cells #[.int .i32 0, .int .i32 0] 104)).drewN q) ∧ ((w.alloc (.cells #[.int .i32 0, .int .i32 0] 104)).drewN q).heap[w.heap.size]? = some (.cells #[.int .i32 0, .int .i32 0] 104 (0, 0))) := Lib.hid ⟨below_drewN H0.out.1 q, H0.out.2⟩
            generalize (w.alloc (.cells #[.int .i32 0, .int .i32 0] 104)).drewN q = w1 at H1 ⊢
            clear CC1 H0
            go_wp2_with fail
            refine (CA.out w1 (HE.out.below H1.out.1)).mono ?_
            rintro e w2 ⟨hp, hb2⟩
            have H2 := Lib.hid (show Below w.heap.size w w2 ∧ w2.heap[w.heap.size]? = some (.cells #[.int .i32 0, .int .i32 0] 104 (0, 0)) from ⟨H1.out.1.trans (hb2.mono H1.out.1.size), (hb2.block _ (by have := (Array.getElem?_eq_some_iff.1 H1.out.2).1; exact this)).trans H1.out.2⟩)
            clear hb2 H1
            rw [ho1] at hp
            obtain rfl := hp
            go_wp2_with fail
            refine (CB.out w2 (HE.out.below H2.out.1)).mono ?_
            rintro e w3 ⟨hp, hb3⟩
            have H3 := Lib.hid (show Below w.heap.size w w3 ∧ w3.heap[w.heap.size]? = some (.cells #[.int .i32 0, .int .i32 0] 104 (0, 0)) from ⟨H2.out.1.trans (hb3.mono H2.out.1.size), (hb3.block _ (by have := (Array.getElem?_eq_some_iff.1 H2.out.2).1; exact this)).trans H2.out.2⟩)
            clear hb3 H2
            rw [ho2] at hp
            obtain rfl := hp
            have c0 : w3.cell? ⟨w.heap.size, 0, none⟩ = some (.int .i32 0) := by rw [Lib.cell_of_heap H3.out.2]; rfl
            have c1 : w3.cell? ⟨w.heap.size, 1, none⟩ = some (.int .i32 0) := by rw [Lib.cell_of_heap H3.out.2]; rfl
            have f0 : w3.frozen? ⟨w.heap.size, 0, none⟩ = false := Lib.frozen_of_heap H3.out.2 _
            have f1 : w3.frozen? ⟨w.heap.size, 1, none⟩ = false := Lib.frozen_of_heap H3.out.2 _
            go_wp2_with (go_at_call 108; refine (Tryz.utf8_ValidRune _ _).mono ?_; rintro e w4 ⟨rfl, rfl⟩)
            (try simp only [Exit.inBlock, Exit.then])
            refine bodyPost_ret (results_cell2 rfl _ _ w.heap.size 104 #[.int .i32 0, .int .i32 0] (0, 0) _ rfl (ptwo_cells H3.out.2) Tryz.underlying104 rfl (by kernel_rfl)) rfl ?_
            rw [HX.out]
            exact ⟨rfl, (H3.out.1.setCell (Nat.le_refl _) _).setCell (Nat.le_refl _) _⟩
          · have HX2 : Hid (spnP l = if hi < lo then (1, 0, 0) else (0, lo, hi)) := Lib.hid (by rw [HX1.out, ho1, ho2, spnO_some]; exact if_neg (fun e => e.elim (fun e => by rw [v1] at e; cases e) (fun e => by rw [v2] at e; cases e)))
            by_cases hlt : hi < lo
            · have HX := Lib.hid (HX2.out.trans (if_pos hlt))
              have hltz : (hi : Int) < (lo : Int) := by omega
              clear HX1 HX2
              go_enter Tryz.func104, Tryz.ntmps104
              go_wp2_with fail
              refine CC1.out.mono ?_
              rintro e w1 ⟨rfl, q, rfl⟩
              have H1 : Hid (Below w.heap.size w ((w.alloc (.cells #[.int .i32 0, .int .i32 0] 104)).drewN q) ∧ ((w.alloc (.cells #[.int .i32 0, .int .i32 0] 104)).drewN q).heap[w.heap.size]? = some (.cells #[.int .i32 0, .int .i32 0] 104 (0, 0))) := Lib.hid ⟨below_drewN H0.out.1 q, H0.out.2⟩
              generalize (w.alloc (.cells #[.int .i32 0, .int .i32 0] 104)).drewN q = w1 at H1 ⊢
              clear CC1 H0
              go_wp2_with fail
              refine (CA.out w1 (HE.out.below H1.out.1)).mono ?_
              rintro e w2 ⟨hp, hb2⟩
              have H2 := Lib.hid (show Below w.heap.size w w2 ∧ w2.heap[w.heap.size]? = some (.cells #[.int .i32 0, .int .i32 0] 104 (0, 0)) from ⟨H1.out.1.trans (hb2.mono H1.out.1.size), (hb2.block _ (by have := (Array.getElem?_eq_some_iff.1 H1.out.2).1; exact this)).trans H1.out.2⟩)
              clear hb2 H1
              rw [ho1] at hp
              obtain rfl := hp
              go_wp2_with fail
              refine (CB.out w2 (HE.out.below H2.out.1)).mono ?_
              rintro e w3 ⟨hp, hb3⟩
              have H3 := Lib.hid (show Below w.heap.size w w3 ∧ w3.heap[w.heap.size]? = some (.cells #[.int .i32 0, .int .i32 0] 104 (0, 0)) from ⟨H2.out.1.trans (hb3.mono H2.out.1.size), (hb3.block _ (by have := (Array.getElem?_eq_some_iff.1 H2.out.2).1; exact this)).trans H2.out.2⟩)
              clear hb3 H2
              rw [ho2] at hp
              obtain rfl := hp
              have c0 : w3.cell? ⟨w.heap.size, 0, none⟩ = some (.int .i32 0) := by rw [Lib.cell_of_heap H3.out.2]; rfl
              have c1 : w3.cell? ⟨w.heap.size, 1, none⟩ = some (.int .i32 0) := by rw [Lib.cell_of_heap H3.out.2]; rfl
              have f0 : w3.frozen? ⟨w.heap.size, 0, none⟩ = false := Lib.frozen_of_heap H3.out.2 _
              have f1 : w3.frozen? ⟨w.heap.size, 1, none⟩ = false := Lib.frozen_of_heap H3.out.2 _
              go_wp2_with (go_at_call 108; refine (Tryz.utf8_ValidRune _ _).mono ?_; rintro e w4 ⟨rfl, rfl⟩)
              (try simp only [Exit.inBlock, Exit.then])
              refine bodyPost_ret (results_cell2 rfl _ _ w.heap.size 104 #[.int .i32 0, .int .i32 0] (0, 0) _ rfl (ptwo_cells H3.out.2) Tryz.underlying104 rfl (by kernel_rfl)) rfl ?_
              rw [HX.out]
              exact ⟨rfl, (H3.out.1.setCell (Nat.le_refl _) _).setCell (Nat.le_refl _) _⟩
            · have HX := Lib.hid (HX2.out.trans (if_neg hlt))
              have hltz : (lo : Int) ≤ (hi : Int) := by omega
              clear HX1 HX2
              go_enter Tryz.func104, Tryz.ntmps104
              go_wp2_with fail
              refine CC1.out.mono ?_
              rintro e w1 ⟨rfl, q, rfl⟩
              have H1 : Hid (Below w.heap.size w ((w.alloc (.cells #[.int .i32 0, .int .i32 0] 104)).drewN q) ∧ ((w.alloc (.cells #[.int .i32 0, .int .i32 0] 104)).drewN q).heap[w.heap.size]? = some (.cells #[.int .i32 0, .int .i32 0] 104 (0, 0))) := Lib.hid ⟨below_drewN H0.out.1 q, H0.out.2⟩
              generalize (w.alloc (.cells #[.int .i32 0, .int .i32 0] 104)).drewN q = w1 at H1 ⊢
              clear CC1 H0
              go_wp2_with fail
              refine (CA.out w1 (HE.out.below H1.out.1)).mono ?_
              rintro e w2 ⟨hp, hb2⟩
              have H2 := Lib.hid (show Below w.heap.size w w2 ∧ w2.heap[w.heap.size]? = some (.cells #[.int .i32 0, .int .i32 0] 104 (0, 0)) from ⟨H1.out.1.trans (hb2.mono H1.out.1.size), (hb2.block _ (by have := (Array.getElem?_eq_some_iff.1 H1.out.2).1; exact this)).trans H1.out.2⟩)
              clear hb2 H1
              rw [ho1] at hp
              obtain rfl := hp
              go_wp2_with fail
              refine (CB.out w2 (HE.out.below H2.out.1)).mono ?_
              rintro e w3 ⟨hp, hb3⟩
              have H3 := Lib.hid (show Below w.heap.size w w3 ∧ w3.heap[w.heap.size]? = some (.cells #[.int .i32 0, .int .i32 0] 104 (0, 0)) from ⟨H2.out.1.trans (hb3.mono H2.out.1.size), (hb3.block _ (by have := (Array.getElem?_eq_some_iff.1 H2.out.2).1; exact this)).trans H2.out.2⟩)
              clear hb3 H2
              rw [ho2] at hp
              obtain rfl := hp
              have c0 : w3.cell? ⟨w.heap.size, 0, none⟩ = some (.int .i32 0) := by rw [Lib.cell_of_heap H3.out.2]; rfl
              have c1 : w3.cell? ⟨w.heap.size, 1, none⟩ = some (.int .i32 0) := by rw [Lib.cell_of_heap H3.out.2]; rfl
              have f0 : w3.frozen? ⟨w.heap.size, 0, none⟩ = false := Lib.frozen_of_heap H3.out.2 _
              have f1 : w3.frozen? ⟨w.heap.size, 1, none⟩ = false := Lib.frozen_of_heap H3.out.2 _
              go_wp2_with (go_at_call 108; refine (Tryz.utf8_ValidRune _ _).mono ?_; rintro e w4 ⟨rfl, rfl⟩)
              (try simp only [Exit.inBlock, Exit.then])
              refine bodyPost_ret (results_cell2 rfl _ _ w.heap.size 104 #[.int .i32 lo, .int .i32 hi] (0, 0) _ rfl (ptwo_cells H3.out.2) Tryz.underlying104 rfl (by kernel_rfl)) rfl ?_
              rw [HX.out]
              exact ⟨rfl, (H3.out.1.setCell (Nat.le_refl _) _).setCell (Nat.le_refl _) _⟩
end Go.Proofs.YthhepebkfokddaaGreatDoor
/- props: points of a line. -/
namespace Go.Proofs.YthhepebkfokddaaGreatDoor
open Go Go.RowKit Go.Kt Go.Kt.Rg

def StrS (v : Value) (ws : List (List UInt8)) (w : World) : Prop :=
  ∃ g off cap, v = .slice (some ⟨g, off, none⟩) ws.length cap ∧ ws.length ≤ cap ∧ cap ≤ 4611686018427387904 ∧ ∀ i x, ws[i]? = some x → w.cell? ⟨g, off + i, none⟩ = some (.string ⟨x.toArray⟩)
theorem StrS.below {v : Value} {ws : List (List UInt8)} {A B : World} (h : StrS v ws A) (hb : Below A.heap.size A B) : StrS v ws B := by
  obtain ⟨g, off, cap, rfl, h1, h2, h3⟩ := h
  exact ⟨g, off, cap, rfl, h1, h2, fun i x hx => (hb.cell (lt_of_cell (h3 i x hx))).trans (h3 i x hx)⟩

def ptsA : List Nat → List (List UInt8) → Nat × List Nat
  | acc, [] => (0, acc)
  | acc, x :: t => match numP x with
    | none => (11, [])
    | some n => if Lib.validRune (n : Int) = false then (8, []) else ptsA (acc ++ [n]) t
def ptsP (ws : List (List UInt8)) : Nat × List Nat := if 9 < ws.length then (5, []) else ptsA [] ws
theorem ptsA_no {acc : List Nat} {x : List UInt8} {t : List (List UInt8)} (h : numP x = none) : ptsA acc (x :: t) = (11, []) := by rw [ptsA, h]
theorem ptsA_bad {acc : List Nat} {x : List UInt8} {t : List (List UInt8)} {n : Nat} (h : numP x = some n) (hv : Lib.validRune (n : Int) = false) : ptsA acc (x :: t) = (8, []) := by rw [ptsA, h]; exact if_pos hv
theorem ptsA_go {acc : List Nat} {x : List UInt8} {t : List (List UInt8)} {n : Nat} (h : numP x = some n) (hv : Lib.validRune (n : Int) = true) : ptsA acc (x :: t) = ptsA (acc ++ [n]) t := by
  rw [ptsA, h]
  exact if_neg (by rw [hv]; exact fun e => by cases e)

def PtsOut (w : World) (o : Nat × List Nat) (e : Ending) (w' : World) : Prop :=
  Below w.heap.size w w' ∧ ∃ v, e = .returned (.tuple #[v, .int .i64 (o.1 : Nat)]) ∧ (o.1 = 0 → ∃ B, v = .slice (some ⟨B, 0, none⟩) o.2.length o.2.length ∧ w.heap.size ≤ B ∧ B < w'.heap.size ∧ ∀ (i : Nat) (x : Nat), o.2[i]? = some x → w'.cell? ⟨B, i, none⟩ = some (.int .i32 (x : Nat)))

set_option maxRecDepth 100000 in
set_option maxHeartbeats 2000000 in
theorem ppoints (ws : List (List UInt8)) (v : Value) (w : World) (hS : StrS v ws w) (hz : ∀ x ∈ ws, x.length ≤ 1048576) (_h0 : ws ≠ []) (hE : PEnv w) :
    Calls Tryz.prog 75 #[v] w fun e w' => PtsOut w (ptsP ws) e w' := by
  obtain ⟨g, off, cap, rfl, hcap, hcap2, hc⟩ := hS
  obtain ⟨n, hn⟩ : ∃ n, ws.length = n := ⟨_, rfl⟩
  rw [hn] at hcap ⊢
  by_cases h9 : 9 < n
  · have h9z : (9 : Int) < (n : Int) := by omega
    have HX : Hid (ptsP ws = (5, [])) := Lib.hid (by unfold ptsP; rw [if_pos (by omega)])
    go_enter Tryz.func75, Tryz.ntmps75
    go_wp2
    go_ret2
    rw [HX.out]
    exact ⟨Below.refl _ _, _, rfl, fun e => by cases e⟩
  · have h9z : (n : Int) ≤ 9 := by omega
    have HX : Hid (ptsP ws = ptsA [] ws) := Lib.hid (by unfold ptsP; rw [if_neg (by omega)])
    have HC := Lib.hid hc
    have HN := Lib.hid hn
    have HZ := Lib.hid hz
    have HE := Lib.hid hE
    clear hc hn hz hE
    go_enter Tryz.func75, Tryz.ntmps75
    go_wp2_with (at_make; refine wpList_make_full _ rfl _ _ _ rfl w.heap.size 21 _ (.int .i32 0) 1 Tryz.underlying62 rfl rfl rfl .i64 .i64 _ _ n rfl rfl rfl rfl (by show 4 * n ≤ _; omega) (by unfold maxLen; omega) (Nat.le_refl _) ?_; intro w1 hown1 hgr1)
    have H1 : Hid (∃ C : Array Value, Below w.heap.size w w1 ∧ w1.heap[w.heap.size]? = some (.cells C 21 (0, 0)) ∧ C.size = n) := Lib.hid (by
      obtain ⟨_, h2⟩ := hown1
      rcases h2 with ⟨h2, _⟩ | ⟨g2, c2, C, e2, _, h3, _, _, h4, _⟩
      · cases h2
      · injection e2 with e3 _ e4
        injection e3 with e3
        injection e3 with e3 _
        subst e3 e4
        exact ⟨C, ⟨hgr1.os, hgr1.tape, hgr1.output, hgr1.size, fun x hx => hgr1.block x hx (fun e => by cases e)⟩, h3, by omega⟩)
    clear hown1 hgr1
    go_loopw [17] (fun vk wr => ∃ (k : Nat) (acc : List Nat) (C : Array Value), vk = .int .i64 k ∧ k ≤ n ∧ Hid (ptsA [] ws = ptsA acc (ws.drop k) ∧ acc.length = k ∧ Below w.heap.size w wr ∧ wr.heap[w.heap.size]? = some (.cells C 21 (0, 0)) ∧ C.size = n ∧ ∀ (i : Nat) (x : Nat), acc[i]? = some x → C[i]? = some (.int .i32 (x : Nat)))) (fun vk _ => n - (RowKit.intOf vk).toNat)
    case atStart =>
      obtain ⟨C, a1, a2, a3⟩ := H1.out
      exact ⟨0, [], C, rfl, by omega, Lib.hid ⟨rfl, rfl, a1, a2, a3, fun i x h => by simp at h⟩⟩
    case round =>
      clear H1
      obtain ⟨k, acc, C, rfl, hk, hh⟩ := hrel
      by_cases hkn : k < n
      · have hknz : (k : Int) < (n : Int) := by omega
        have hkl : k < ws.length := by rw [HN.out]; exact hkn
        obtain ⟨x, hx⟩ : ∃ x, ws[k]? = some x := ⟨_, List.getElem?_eq_getElem hkl⟩
        have hdr : ws.drop k = x :: ws.drop (k + 1) := by
          rw [List.drop_eq_getElem_cons hkl]
          congr 1
          rw [List.getElem?_eq_getElem hkl] at hx
          exact Option.some.inj hx
        have hcx : wr.cell? ⟨g, off + k, none⟩ = some (.string ⟨x.toArray⟩) := (hh.out.2.2.1.cell (lt_of_cell (HC.out k x hx))).trans (HC.out k x hx)
        have hxm : x ∈ ws := List.mem_of_getElem? hx
        have CN0 := pnumber ⟨x.toArray⟩ wr (by rw [bsize]; have := HZ.out x hxm; omega) (HE.out.below hh.out.2.2.1).v
        have CN : Hid (Calls Tryz.prog 107 #[.string ⟨x.toArray⟩] wr fun e w' => NumOut (numP x) e ∧ Below wr.heap.size wr w') := Lib.hid CN0
        have HD := Lib.hid hdr
        clear CN0 hdr hxm hkl hx
        cases ho : numP x with
        | none =>
          have HX2 : Hid (ptsP ws = (11, [])) := Lib.hid (by rw [HX.out, hh.out.1, HD.out, ptsA_no ho])
          rw [ho] at CN
          go_wp2_with fail
          refine CN.out.mono ?_
          rintro e w2 ⟨⟨z, rfl⟩, hb2⟩
          have HB := Lib.hid (hh.out.2.2.1.trans (hb2.mono hh.out.2.2.1.size))
          clear hb2 CN hcx
          go_wp2
          go_ret2
          rw [HX2.out]
          exact ⟨HB.out, _, rfl, fun e => by cases e⟩
        | some m =>
          have hm := numP_le ho
          rw [ho] at CN
          cases hv : Lib.validRune (m : Int)
          · have HX2 : Hid (ptsP ws = (8, [])) := Lib.hid (by rw [HX.out, hh.out.1, HD.out, ptsA_bad ho hv])
            go_wp2_with fail
            refine CN.out.mono ?_
            rintro e w2 ⟨hp, hb2⟩
            obtain rfl := hp
            have HB := Lib.hid (hh.out.2.2.1.trans (hb2.mono hh.out.2.2.1.size))
            clear hb2 CN hcx
            go_wp2_with (go_at_call 108; refine (Tryz.utf8_ValidRune _ _).mono ?_; rintro e w4 ⟨rfl, rfl⟩)
            go_ret2
            rw [HX2.out]
            exact ⟨HB.out, _, rfl, fun e => by cases e⟩
          · have HX2 : Hid (ptsA [] ws = ptsA (acc ++ [m]) (ws.drop (k + 1))) := Lib.hid (by rw [hh.out.1, HD.out, ptsA_go ho hv])
            go_wp2_with fail
            refine CN.out.mono ?_
            rintro e w2 ⟨hp, hb2⟩
            obtain rfl := hp
            have HB := Lib.hid (hh.out.2.2.1.trans (hb2.mono hh.out.2.2.1.size))
            have hg2 : w2.heap[w.heap.size]? = some (.cells C 21 (0, 0)) := (hb2.block _ (by have := (Array.getElem?_eq_some_iff.1 hh.out.2.2.2.1).1; exact this)).trans hh.out.2.2.2.1
            have hck : C[k]? = some (C[k]'(by rw [hh.out.2.2.2.2.1]; exact hkn)) := Array.getElem?_eq_getElem _
            generalize C[k]'(by rw [hh.out.2.2.2.2.1]; exact hkn) = u0 at hck
            have c0 : w2.cell? ⟨w.heap.size, k, none⟩ = some u0 := by rw [Lib.cell_of_heap hg2]; exact hck
            have f0 : w2.frozen? ⟨w.heap.size, k, none⟩ = false := Lib.frozen_of_heap hg2 _
            have HG := Lib.hid (heap_setCell_same w2 w.heap.size k _ _ (.int .i32 (m : Int)) hg2)
            clear hb2 CN hcx hg2 hck
            go_wp2_with (go_at_call 108; refine (Tryz.utf8_ValidRune _ _).mono ?_; rintro e w4 ⟨rfl, rfl⟩)
            go_roundw
            case rel => exact ⟨k + 1, acc ++ [m], _, by go_num, by omega, Lib.hid ⟨HX2.out, by simp [hh.out.2.1], HB.out.setCell (Nat.le_refl _) _, HG.out, by simp [hh.out.2.2.2.2.1], fun i y hy => by
              by_cases hi : i < k
              · rw [Array.getElem?_setIfInBounds_ne (by omega)]
                rw [List.getElem?_append_left (by rw [hh.out.2.1]; exact hi)] at hy
                exact hh.out.2.2.2.2.2 i y hy
              · have hik : i = k := by
                  have := (List.getElem?_eq_some_iff.1 hy).1
                  rw [List.length_append, hh.out.2.1] at this
                  simp at this
                  omega
                subst hik
                rw [List.getElem?_append_right (by rw [hh.out.2.1]; exact Nat.le_refl _), hh.out.2.1, Nat.sub_self] at hy
                simp at hy
                subst hy
                rw [Array.getElem?_setIfInBounds_self_of_lt (by rw [hh.out.2.2.2.2.1]; exact hkn)]⟩⟩
            case measure => simp [RowKit.intOf]; omega
      · have hknz : ¬ (k : Int) < (n : Int) := by omega
        have hkn2 : k = n := by omega
        have HX2 : Hid (ptsP ws = (0, acc)) := Lib.hid (by rw [HX.out, hh.out.1, hkn2, ← HN.out, List.drop_length]; rfl)
        have HA : Hid (acc.length = n) := Lib.hid (hh.out.2.1.trans hkn2)
        clear hkn2
        go_wp2
        go_ret2
        rw [HX2.out]
        refine ⟨hh.out.2.2.1, _, rfl, fun _ => ⟨w.heap.size, by rw [HA.out]; rfl, Nat.le_refl _, (Array.getElem?_eq_some_iff.1 hh.out.2.2.2.1).1, fun i x hx => ?_⟩⟩
        rw [Lib.cell_of_heap hh.out.2.2.2.1]
        exact hh.out.2.2.2.2.2 i x hx
end Go.Proofs.YthhepebkfokddaaGreatDoor
/- props: a row with its value. -/
namespace Go.Proofs.YthhepebkfokddaaGreatDoor
open Go Go.RowKit Go.Kt Go.Kt.Rg

theorem pthree_cells {V : World} {g : Nat} {a b c x y z : Value} {T : TypeId} (h : V.heap[g]? = some (.cells #[a, b, c] T (0, 0))) :
    (((V.setCell ⟨g, 0, none⟩ x).setCell ⟨g, 1, none⟩ y).setCell ⟨g, 2, none⟩ z).heap[g]? = some (.cells #[x, y, z] T (0, 0)) := by
  have h1 := heap_setCell_same V g 0 _ _ x h
  have h2 := heap_setCell_same (V.setCell ⟨g, 0, none⟩ x) g 1 _ _ y h1
  have h3 := heap_setCell_same ((V.setCell ⟨g, 0, none⟩ x).setCell ⟨g, 1, none⟩ y) g 2 _ _ z h2
  simpa using h3

theorem alloc_old_h {w : World} {k : Nat} {o x : Obj} (h : w.heap[k]? = some x) : (w.alloc o).heap[k]? = some x := by
  rw [heap_alloc_if, if_neg (by have := (Array.getElem?_eq_some_iff.1 h).1; omega)]; exact h

def rowP (V : List UInt8 → Nat × Int) (ws : List (List UInt8)) : Nat × Nat × Nat × Int :=
  if 2 < ws.length then (3, 0, 0, 0) else
    if (spnP (ws.getD 0 [])).1 ≠ 0 then ((spnP (ws.getD 0 [])).1, 0, 0, 0) else
      if (V (ws.getD 1 [])).1 ≠ 0 then ((V (ws.getD 1 [])).1, 0, 0, 0) else (0, (spnP (ws.getD 0 [])).2.1, (spnP (ws.getD 0 [])).2.2, (V (ws.getD 1 [])).2)
abbrev rwA (lo hi : Nat) (v : Int) : Value := .agg #[.int .i32 lo, .int .i32 hi, .int .i64 v]

set_option maxRecDepth 100000 in
set_option maxHeartbeats 2000000 in
theorem prow (gf : Nat) (eg : ∀ args w, (callFunc gf args).run Tryz.prog w = .ok (.enter gf args) w) (V : List UInt8 → Nat × Int) (ws : List (List UInt8)) (sv : Value) (w : World) (hS : StrS sv ws w) (hz : ∀ x ∈ ws, x.length ≤ 1048576) (h2 : 2 ≤ ws.length) (hE : PEnv w)
    (hV : ∀ W, Below w.heap.size w W → Calls Tryz.prog gf #[.string ⟨(ws.getD 1 []).toArray⟩] W fun e w' => e = .returned (.tuple #[.int .i64 (V (ws.getD 1 [])).2, .int .i64 ((V (ws.getD 1 [])).1 : Nat)]) ∧ Below W.heap.size W w') :
    Calls Tryz.prog 72 #[sv, .func (.func gf) #[] #[]] w fun e w' => e = .returned (.tuple #[rwA (rowP V ws).2.1 (rowP V ws).2.2.1 (rowP V ws).2.2.2, .int .i64 ((rowP V ws).1 : Nat)]) ∧ Below w.heap.size w w' := by
  obtain ⟨g, off, cap, rfl, hcap, hcap2, hc⟩ := hS
  have hc0 := hc 0 (ws.getD 0 []) (by rw [List.getD_eq_getElem?_getD, List.getElem?_eq_getElem (by omega)]; rfl)
  have hc1 := hc 1 (ws.getD 1 []) (by rw [List.getD_eq_getElem?_getD, List.getElem?_eq_getElem (by omega)]; rfl)
  have hx0 : (ws.getD 0 []).length ≤ 1048576 := hz _ (by rw [List.getD_eq_getElem?_getD, List.getElem?_eq_getElem (by omega)]; exact List.getElem_mem _)
  have HX : Hid (rowP V ws = if 2 < ws.length then (3, 0, 0, 0) else if (spnP (ws.getD 0 [])).1 ≠ 0 then ((spnP (ws.getD 0 [])).1, 0, 0, 0) else if (V (ws.getD 1 [])).1 ≠ 0 then ((V (ws.getD 1 [])).1, 0, 0, 0) else (0, (spnP (ws.getD 0 [])).2.1, (spnP (ws.getD 0 [])).2.2, (V (ws.getD 1 [])).2)) := Lib.hid rfl
  obtain ⟨n, hn⟩ : ∃ n, ws.length = n := ⟨_, rfl⟩
  rw [hn] at hcap h2 HX ⊢
  have CS0 := fun W (h : PEnv W) => pspan ⟨(ws.getD 0 []).toArray⟩ W (by rw [bsize]; exact hx0) h
  have CS : Hid (∀ W, PEnv W → Calls Tryz.prog 104 #[.string ⟨(ws.getD 0 []).toArray⟩] W fun e w' => e = .returned (.tuple #[.agg #[.int .i32 (spnP (ws.getD 0 [])).2.1, .int .i32 (spnP (ws.getD 0 [])).2.2], .int .i64 (spnP (ws.getD 0 [])).1]) ∧ Below W.heap.size W w') := Lib.hid CS0
  generalize rowP V ws = R at HX ⊢
  generalize ws.getD 0 [] = x0 at CS HX hc0
  generalize ws.getD 1 [] = x1 at hV HX hc1
  generalize V x1 = vv at hV HX
  obtain ⟨vn, vv⟩ := vv
  obtain ⟨⟨sn, lo, hi⟩, hs⟩ : ∃ z, spnP x0 = z := ⟨_, rfl⟩
  rw [hs] at CS HX
  simp only at hV HX
  replace CS : Hid (∀ W, PEnv W → Calls Tryz.prog 104 #[.string ⟨x0.toArray⟩] W fun e w' => e = .returned (.tuple #[.agg #[.int .i32 lo, .int .i32 hi], .int .i64 sn]) ∧ Below W.heap.size W w') := CS
  have HV := Lib.hid hV
  have HE := Lib.hid hE
  clear hV hE hz hc hx0 CS0 hs hn
  have H0 : Hid (Below w.heap.size w (w.alloc (.cells #[.int .i32 0, .int .i32 0, .int .i64 0] 106)) ∧ (w.alloc (.cells #[.int .i32 0, .int .i32 0, .int .i64 0] 106)).heap[w.heap.size]? = some (.cells #[.int .i32 0, .int .i32 0, .int .i64 0] 106 (0, 0))) := Lib.hid ⟨(Below.refl _ _).alloc (Nat.le_refl _) _, heap_alloc_new _ _⟩
  have h2z : (2 : Int) ≤ (n : Int) := by omega
  by_cases h3 : 2 < n
  · have h3z : (2 : Int) < (n : Int) := by omega
    have HX2 := Lib.hid (HX.out.trans (if_pos h3))
    clear HX
    go_enter Tryz.func72, Tryz.ntmps72
    go_wp2
    (try simp only [Exit.inBlock, Exit.then])
    refine bodyPost_ret (results_cell2 rfl _ _ w.heap.size 106 #[.int .i32 0, .int .i32 0, .int .i64 0] (0, 0) _ rfl H0.out.2 Tryz.underlying106 rfl (by kernel_rfl)) rfl ?_
    rw [HX2.out]
    exact ⟨rfl, H0.out.1⟩
  · have h3z : (n : Int) ≤ 2 := by omega
    replace HX := Lib.hid (HX.out.trans (if_neg h3))
    have hc0' : (w.alloc (.cells #[.int .i32 0, .int .i32 0, .int .i64 0] 106)).cell? ⟨g, off, none⟩ = some (.string ⟨x0.toArray⟩) := (H0.out.1.cell (lt_of_cell hc0)).trans hc0
    have CS1 := Lib.hid (CS.out _ (HE.out.below H0.out.1))
    clear CS
    go_enter Tryz.func72, Tryz.ntmps72
    go_wp2_with fail
    refine CS1.out.mono ?_
    rintro e w2 ⟨rfl, hb2⟩
    have H2 : Hid (Below w.heap.size w (w2.alloc (.cells #[.int .i32 lo, .int .i32 hi] 104)) ∧ (w2.alloc (.cells #[.int .i32 lo, .int .i32 hi] 104)).heap[w.heap.size]? = some (.cells #[.int .i32 0, .int .i32 0, .int .i64 0] 106 (0, 0))) := Lib.hid (by
      have h5 : w2.heap[w.heap.size]? = some (.cells #[.int .i32 0, .int .i32 0, .int .i64 0] 106 (0, 0)) := (hb2.block _ (by simp)).trans H0.out.2
      have h6 := H0.out.1.trans (hb2.mono H0.out.1.size)
      exact ⟨h6.alloc h6.size _, alloc_old_h h5⟩)
    have H3 : Hid ((w2.alloc (.cells #[.int .i32 lo, .int .i32 hi] 104)).heap[w2.heap.size]? = some (.cells #[.int .i32 lo, .int .i32 hi] 104 (0, 0)) ∧ w.heap.size ≠ w2.heap.size) := Lib.hid ⟨heap_alloc_new _ _, by have := hb2.size; simp at this; omega⟩
    obtain ⟨sb, hsb⟩ : ∃ sb, w2.heap.size = sb := ⟨_, rfl⟩
    have HSB := Lib.hid hsb
    rw [hsb] at H3
    clear hb2 CS1 hc0 hc0' hsb
    by_cases hs0 : sn = 0
    · subst hs0
      replace HX := Lib.hid (HX.out.trans (if_neg (fun e => e rfl)))
      have q1 : w2.alloc (.cells #[.int .i32 lo, .int .i32 hi] 104) = w2.alloc (.cells #[.int .i32 lo, .int .i32 hi] 104) := rfl
      have hc1' : (w2.alloc (.cells #[.int .i32 lo, .int .i32 hi] 104)).cell? ⟨g, off + 1, none⟩ = some (.string ⟨x1.toArray⟩) := (H2.out.1.cell (lt_of_cell hc1)).trans hc1
      have CV := Lib.hid (HV.out _ H2.out.1)
      clear q1 HV
      go_wp2_with fail
      refine CV.out.mono ?_
      rintro e w3 ⟨rfl, hb3⟩
      have H4 : Hid (Below w.heap.size w w3 ∧ w3.heap[w.heap.size]? = some (.cells #[.int .i32 0, .int .i32 0, .int .i64 0] 106 (0, 0))) := Lib.hid ⟨H2.out.1.trans (hb3.mono H2.out.1.size), (hb3.block _ (by have := (Array.getElem?_eq_some_iff.1 H2.out.2).1; exact this)).trans H2.out.2⟩
      have H5 : Hid (w3.heap[sb]? = some (.cells #[.int .i32 lo, .int .i32 hi] 104 (0, 0))) := Lib.hid ((hb3.block _ (by have := (Array.getElem?_eq_some_iff.1 H3.out.1).1; exact this)).trans H3.out.1)
      clear hb3 CV hc1 hc1'
      by_cases hv0 : vn = 0
      · subst hv0
        replace HX := Lib.hid (HX.out.trans (if_neg (fun e => e rfl)))
        have d0 : w3.cell? ⟨sb, 0, none⟩ = some (.int .i32 lo) := by rw [Lib.cell_of_heap H5.out]; rfl
        have d1 : w3.cell? ⟨sb, 1, none⟩ = some (.int .i32 hi) := by rw [Lib.cell_of_heap H5.out]; rfl
        have c0 : w3.cell? ⟨w.heap.size, 0, none⟩ = some (.int .i32 0) := by rw [Lib.cell_of_heap H4.out.2]; rfl
        have f0 : w3.frozen? ⟨w.heap.size, 0, none⟩ = false := Lib.frozen_of_heap H4.out.2 _
        have c1 : w3.cell? ⟨w.heap.size, 1, none⟩ = some (.int .i32 0) := by rw [Lib.cell_of_heap H4.out.2]; rfl
        have f1 : w3.frozen? ⟨w.heap.size, 1, none⟩ = false := Lib.frozen_of_heap H4.out.2 _
        have c2 : w3.cell? ⟨w.heap.size, 2, none⟩ = some (.int .i64 0) := by rw [Lib.cell_of_heap H4.out.2]; rfl
        have f2 : w3.frozen? ⟨w.heap.size, 2, none⟩ = false := Lib.frozen_of_heap H4.out.2 _
        rw [HSB.out]
        go_wp2
        (try simp only [Exit.inBlock, Exit.then])
        refine bodyPost_ret (results_cell2 rfl _ _ w.heap.size 106 #[.int .i32 lo, .int .i32 hi, .int .i64 vv] (0, 0) _ rfl (pthree_cells H4.out.2) Tryz.underlying106 rfl (by kernel_rfl)) rfl ?_
        rw [HX.out]
        exact ⟨rfl, ((H4.out.1.setCell (Nat.le_refl _) _).setCell (Nat.le_refl _) _).setCell (Nat.le_refl _) _⟩
      · replace HX := Lib.hid (HX.out.trans (if_pos hv0))
        have b1 : ((vn : Int) != 0) = true := by simp; omega
        have b2 : ((vn : Int) == 0) = false := beq_eq_false_iff_ne.2 (by omega)
        have c0 : w3.cell? ⟨w.heap.size, 0, none⟩ = some (.int .i32 0) := by rw [Lib.cell_of_heap H4.out.2]; rfl
        have f0 : w3.frozen? ⟨w.heap.size, 0, none⟩ = false := Lib.frozen_of_heap H4.out.2 _
        have c1 : w3.cell? ⟨w.heap.size, 1, none⟩ = some (.int .i32 0) := by rw [Lib.cell_of_heap H4.out.2]; rfl
        have f1 : w3.frozen? ⟨w.heap.size, 1, none⟩ = false := Lib.frozen_of_heap H4.out.2 _
        have c2 : w3.cell? ⟨w.heap.size, 2, none⟩ = some (.int .i64 0) := by rw [Lib.cell_of_heap H4.out.2]; rfl
        have f2 : w3.frozen? ⟨w.heap.size, 2, none⟩ = false := Lib.frozen_of_heap H4.out.2 _
        go_wp2
        (try simp only [Exit.inBlock, Exit.then])
        refine bodyPost_ret (results_cell2 rfl _ _ w.heap.size 106 #[.int .i32 0, .int .i32 0, .int .i64 0] (0, 0) _ rfl (pthree_cells H4.out.2) Tryz.underlying106 rfl (by kernel_rfl)) rfl ?_
        rw [HX.out]
        exact ⟨rfl, ((H4.out.1.setCell (Nat.le_refl _) _).setCell (Nat.le_refl _) _).setCell (Nat.le_refl _) _⟩
    · replace HX := Lib.hid (HX.out.trans (if_pos hs0))
      have b1 : ((sn : Int) != 0) = true := by simp; omega
      have b2 : ((sn : Int) == 0) = false := beq_eq_false_iff_ne.2 (by omega)
      have c0 : (w2.alloc (.cells #[.int .i32 lo, .int .i32 hi] 104)).cell? ⟨w.heap.size, 0, none⟩ = some (.int .i32 0) := by rw [Lib.cell_of_heap H2.out.2]; rfl
      have f0 : (w2.alloc (.cells #[.int .i32 lo, .int .i32 hi] 104)).frozen? ⟨w.heap.size, 0, none⟩ = false := Lib.frozen_of_heap H2.out.2 _
      have c1 : (w2.alloc (.cells #[.int .i32 lo, .int .i32 hi] 104)).cell? ⟨w.heap.size, 1, none⟩ = some (.int .i32 0) := by rw [Lib.cell_of_heap H2.out.2]; rfl
      have f1 : (w2.alloc (.cells #[.int .i32 lo, .int .i32 hi] 104)).frozen? ⟨w.heap.size, 1, none⟩ = false := Lib.frozen_of_heap H2.out.2 _
      have c2 : (w2.alloc (.cells #[.int .i32 lo, .int .i32 hi] 104)).cell? ⟨w.heap.size, 2, none⟩ = some (.int .i64 0) := by rw [Lib.cell_of_heap H2.out.2]; rfl
      have f2 : (w2.alloc (.cells #[.int .i32 lo, .int .i32 hi] 104)).frozen? ⟨w.heap.size, 2, none⟩ = false := Lib.frozen_of_heap H2.out.2 _
      go_wp2
      (try simp only [Exit.inBlock, Exit.then])
      refine bodyPost_ret (results_cell2 rfl _ _ w.heap.size 106 #[.int .i32 0, .int .i32 0, .int .i64 0] (0, 0) _ rfl (pthree_cells H2.out.2) Tryz.underlying106 rfl (by kernel_rfl)) rfl ?_
      rw [HX.out]
      exact ⟨rfl, ((H2.out.1.setCell (Nat.le_refl _) _).setCell (Nat.le_refl _) _).setCell (Nat.le_refl _) _⟩
end Go.Proofs.YthhepebkfokddaaGreatDoor
/- props: the words of a line. -/
namespace Go.Proofs.YthhepebkfokddaaGreatDoor
open Go Go.RowKit Go.Kt Go.Kt.Rg

def blkP (n : Nat) : Bool := n == 32 || n == 9
def lineP (l : List UInt8) : List UInt8 := (Lib.cut (Lib.trimSuffix (Lib.trimSuffix l [10]) [13]) [35]).1
def wrdP (l : List UInt8) : List (List UInt8) := (Lib.goFieldsP blkP ⟨(lineP l).toArray⟩).map (·.data.toList)

theorem spans_ok (p : Nat → Bool) (s : ByteArray) : ∀ f pos st acc, (∀ a, st = some a → a < pos ∧ a < s.size) → (∀ x ∈ acc, x.1 < x.2 ∧ x.2 ≤ s.size) →
    (∀ x ∈ (Lib.spansFromP p s f pos st acc).1, x.1 < x.2 ∧ x.2 ≤ s.size) ∧ ∀ a, (Lib.spansFromP p s f pos st acc).2 = some a → a < s.size := by
  intro f
  induction f with
  | zero => intro pos st acc h1 h2; exact ⟨h2, fun a h => (h1 a h).2⟩
  | succ f ih =>
    intro pos st acc h1 h2
    unfold Lib.spansFromP
    have hw := Lib.width_pos s pos
    split
    · rename_i hlt
      split
      · cases st with
        | some a => exact ih _ _ _ (fun a h => by cases h) (fun x hx => by
            rcases List.mem_append.1 hx with h | h
            · exact h2 x h
            · rw [List.mem_singleton] at h; subst h; exact ⟨(h1 a rfl).1, Nat.le_of_lt hlt⟩)
        | none => exact ih _ _ _ (fun a h => by cases h) h2
      · cases st with
        | some a => exact ih _ _ _ (fun b h => by injection h with h; subst h; have := h1 a rfl; exact ⟨by omega, this.2⟩) h2
        | none => exact ih _ _ _ (fun b h => by injection h with h; subst h; exact ⟨by omega, hlt⟩) h2
    · exact ⟨h2, fun a h => (h1 a h).2⟩
theorem pfields_ok (p : Nat → Bool) (s x : ByteArray) (h : x ∈ Lib.goFieldsP p s) : 0 < x.size ∧ x.size ≤ s.size := by
  unfold Lib.goFieldsP at h
  obtain ⟨q, hq, rfl⟩ := List.mem_map.1 h
  have hk : q.1 < q.2 ∧ q.2 ≤ s.size := by
    unfold Lib.spansOfP Lib.closeSpans at hq
    have h1 := spans_ok p s s.size 0 none [] (fun a h => by cases h) (fun x h => by cases h)
    split at hq
    · rename_i heq
      rw [heq] at h1
      rcases List.mem_append.1 hq with h | h
      · exact h1.1 q h
      · rw [List.mem_singleton] at h
        subst h
        exact ⟨h1.2 _ rfl, Nat.le_refl _⟩
    · rename_i heq
      rw [heq] at h1
      exact h1.1 q hq
  rw [ByteArray.size_extract]
  omega
theorem pspans_len (p : Nat → Bool) (s : ByteArray) : ∀ f pos st acc, (Lib.spansFromP p s f pos st acc).1.length ≤ acc.length + f := by
  intro f
  induction f with
  | zero => intro pos st acc; simp [Lib.spansFromP]
  | succ f ih =>
    intro pos st acc
    unfold Lib.spansFromP
    split
    · split
      · cases st with
        | some a => have := ih (pos + (Utf8.decode s pos).2) none (acc ++ [(a, pos)]); simp at this ⊢; omega
        | none => have := ih (pos + (Utf8.decode s pos).2) none acc; simp at this ⊢; omega
      · cases st with
        | some a => have := ih (pos + (Utf8.decode s pos).2) (some a) acc; simp at this ⊢; omega
        | none => have := ih (pos + (Utf8.decode s pos).2) (some pos) acc; simp at this ⊢; omega
    · simp
theorem pfields_len (p : Nat → Bool) (s : ByteArray) : (Lib.goFieldsP p s).length ≤ s.size + 1 := by
  unfold Lib.goFieldsP Lib.spansOfP Lib.closeSpans
  have := pspans_len p s s.size 0 none []
  rw [List.length_map]
  split <;> simp at * <;> omega
theorem trims_le (l p : List UInt8) : (Lib.trimSuffix l p).length ≤ l.length := by
  unfold Lib.trimSuffix
  split
  · rw [List.length_take]; omega
  · exact Nat.le_refl _
theorem lineP_le (l : List UInt8) : (lineP l).length ≤ l.length := by
  unfold lineP
  have h1 := (cut_le (Lib.trimSuffix (Lib.trimSuffix l [10]) [13]) [35]).1
  have h2 := trims_le (Lib.trimSuffix l [10]) [13]
  have h3 := trims_le l [10]
  omega
theorem wrdP_ok (l x : List UInt8) (h : x ∈ wrdP l) : x ≠ [] ∧ x.length ≤ l.length := by
  unfold wrdP at h
  obtain ⟨y, hy, rfl⟩ := List.mem_map.1 h
  have h1 := pfields_ok _ _ _ hy
  have h2 := lineP_le l
  rw [show (⟨(lineP l).toArray⟩ : ByteArray).size = (lineP l).length from bsize _] at h1
  have h3 : y.data.toList.length = y.size := (Lib.size_eq y).symm
  exact ⟨fun e => by rw [e] at h3; simp at h3; omega, by omega⟩

theorem pblank (w : World) : PredAtRunes Tryz.prog 45 #[] blkP w := fun W x _ _ => by
  unfold FnGives
  have : Calls Tryz.prog 45 #[.int .i32 (x : Int)] W fun e w' => e = .returned (.bool (blkP x)) ∧ w' = W := by
    have hb : blkP x = (((x : Int) == 32) || ((x : Int) == 9)) := by
      unfold blkP
      congr 1
      · by_cases h : x = 32
        · subst h; rfl
        · rw [beq_eq_false_iff_ne.2 h, beq_eq_false_iff_ne.2 (by omega)]
      · by_cases h : x = 9
        · subst h; rfl
        · rw [beq_eq_false_iff_ne.2 h, beq_eq_false_iff_ne.2 (by omega)]
    rw [hb]
    go_enter Tryz.func45, Tryz.ntmps45
    go_wp2
    all_goals go_ret
    all_goals simp [*]
  exact this.mono fun e w' ⟨h1, h2⟩ => ⟨h1, 0, h2⟩

set_option maxRecDepth 100000 in
set_option maxHeartbeats 2000000 in
theorem pwords (s : ByteArray) (w : World) (hs : s.size ≤ 1048576) (hE : PEnv w) :
    Calls Tryz.prog 20 #[.string s] w fun e w' => ∃ v, e = .returned v ∧ StrS v (wrdP s.data.toList) w' ∧ Below w.heap.size w w' := by
  obtain ⟨m, hm⟩ := hE.m
  have hln : s.data.toList.length = s.size := (Lib.size_eq s).symm
  have C1 := Lib.hid (Tryz.strings_TrimSuffix s ⟨#[10]⟩ w (by omega))
  have h1 := trims_le s.data.toList [10]
  have C2 := Lib.hid (Tryz.strings_TrimSuffix ⟨(Lib.trimSuffix s.data.toList [10]).toArray⟩ ⟨#[13]⟩ w (by rw [bsize]; omega))
  have h2 := trims_le (Lib.trimSuffix s.data.toList [10]) [13]
  have C3 := Lib.hid (Tryz.strings_Cut ⟨(Lib.trimSuffix (Lib.trimSuffix s.data.toList [10]) [13]).toArray⟩ ⟨#[35]⟩ m w (by rw [bsize]; omega) hm)
  have h3 := lineP_le s.data.toList
  have C4 := Lib.hid (fun W => Tryz.strings_FieldsFunc_runes 45 #[] (fun args w => enters_of Tryz.func45 (by kernel_rfl) rfl args w) blkP ⟨(lineP s.data.toList).toArray⟩ W (by rw [bsize]; omega) (pblank W))
  replace C3 : Hid (Calls Tryz.prog 43 #[.string ⟨(Lib.trimSuffix (Lib.trimSuffix s.data.toList [10]) [13]).toArray⟩, .string ⟨#[35]⟩] w fun e w' => e = .returned (.tuple #[.string ⟨(lineP s.data.toList).toArray⟩, .string ⟨(Lib.cut (Lib.trimSuffix (Lib.trimSuffix s.data.toList [10]) [13]) [35]).2.1.toArray⟩, .bool (Lib.cut (Lib.trimSuffix (Lib.trimSuffix s.data.toList [10]) [13]) [35]).2.2]) ∧ ∃ n, w' = w.drewN n) := C3
  have hfl : (Lib.goFieldsP blkP ⟨(lineP s.data.toList).toArray⟩).length ≤ 4611686018427387904 := by
    have := pfields_len blkP ⟨(lineP s.data.toList).toArray⟩
    rw [show (⟨(lineP s.data.toList).toArray⟩ : ByteArray).size = (lineP s.data.toList).length from bsize _] at this
    omega
  have HW : Hid (wrdP s.data.toList = (Lib.goFieldsP blkP ⟨(lineP s.data.toList).toArray⟩).map (·.data.toList)) := Lib.hid rfl
  generalize wrdP s.data.toList = WS at HW ⊢
  generalize Lib.goFieldsP blkP ⟨(lineP s.data.toList).toArray⟩ = FS at HW C4 hfl
  generalize (lineP s.data.toList) = L3 at C3 C4
  clear hE hm hln h1 h2 h3
  go_enter Tryz.func20, Tryz.ntmps20
  go_wp2_with fail
  refine C1.out.mono ?_
  rintro e w1 ⟨rfl, rfl⟩
  go_wp2_with fail
  refine C2.out.mono ?_
  rintro e w2 ⟨rfl, rfl⟩
  go_wp2_with fail
  refine C3.out.mono ?_
  rintro e w3 ⟨rfl, q, rfl⟩
  go_wp2_with fail
  refine (C4.out _).mono ?_
  rintro e w4 ⟨A, rfl, hA, hown, hb⟩
  go_wp2
  go_ret
  refine ⟨_, rfl, ⟨A, 0, FS.length, by rw [HW.out, List.length_map]; rfl, by rw [HW.out, List.length_map]; exact Nat.le_refl _, hfl, fun i x hx => ?_⟩, (below_drewN (Below.refl _ _) q).trans hb⟩
  rw [HW.out, List.getElem?_map] at hx
  obtain ⟨y, hy, rfl⟩ := Option.map_eq_some_iff.1 hx
  have := hown.cells (g := A) rfl i (.string y) (by simp [hy])
  rwa [Addr.add_lit] at this
end Go.Proofs.YthhepebkfokddaaGreatDoor
