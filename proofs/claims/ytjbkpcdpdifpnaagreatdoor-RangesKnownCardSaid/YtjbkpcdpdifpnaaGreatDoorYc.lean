/- The document's Of; the copies that are handed in (written by gen_yof.py). -/
import Derived.Test.YtjbkpcdpdifpnaaGreatDoorYb
import Derived.Test.YtjbkpcdpdifpnaaGreatDoorNt
namespace Go.Proofs.YtjbkpcdpdifpnaaGreatDoor
open Go Go.RowKit Go.Kt Go.Kt.Rg

def XofOut (l : List (Int × Int)) (w : World) (e : Ending) (w' : World) : Prop :=
  ((∃ k x, l[k]? = some x ∧ badR x ≠ 0 ∧ (∀ j y, j < k → l[j]? = some y → badR y = 0) ∧ e = .returned (.tuple #[.agg #[.slice none 0 0], .int .i64 (badR x), .int .i64 (k : Nat)])) ∨
   ((∀ x ∈ l, badR x = 0) ∧ ∃ v, e = .returned (.tuple #[.agg #[v], .int .i64 0, .int .i64 0]) ∧ SlR w' v ((canonOf (numsR l)).map dnR))) ∧ Below w.heap.size w w'
theorem numsR0 : canonOf (numsR []) = [] := canonOf_self (l := []) trivial
theorem PW.set {w V : World} {v u : Value} (h : PW w v V) : PW w u (V.setCell ⟨w.heap.size + 1, 0, none⟩ u) := by
  obtain ⟨h1, h2, h3, h4⟩ := h
  have hb : Below (w.heap.size + 1) V (V.setCell ⟨w.heap.size + 1, 0, none⟩ u) := (Below.refl _ _).setCell (p := ⟨w.heap.size + 1, 0, none⟩) (Nat.le_refl _) _
  exact ⟨(hb.block _ (by omega)).trans h1, one_cell h2, h3.trans (hb.mono (by omega)), Nat.le_trans h4 hb.size⟩
def pO5 (ad A : Addr) (n ca k : Nat) (x1 x2 n1 n2 : Int) (jx : Nat) (v : Value) (_W : World) : Prop := match jx with
  | 0 => v = .slice (some ad) n ca
  | 1 => v = .int .i64 (k : Nat)
  | 2 => v = .pointer (some A)
  | 3 => v = .pointer (some A)
  | 4 => v = .int .i32 x1
  | 5 => v = .int .i64 n1
  | 6 => v = .slice (some ad) n ca
  | 7 => v = .int .i64 (k : Nat)
  | 8 => v = .pointer (some A)
  | 9 => v = .pointer (some ⟨A.block, A.off + 1, none⟩)
  | 10 => v = .int .i32 x2
  | 11 => v = .int .i64 n2
  | 12 => v = .int .i64 n1
  | 13 => v = .int .i64 n2
  | _ => True
set_option maxRecDepth 100000 in
set_option maxHeartbeats 4000000 in
theorem xof_any (l : List (Int × Int)) (v : Value) (w : World) (h : SpA w v l) (hl : l.length ≤ 2199023255552) (hr : Runy l) :
    Calls Tryz.prog 17 #[v] w (XofOut l w) := by
  obtain ⟨aa, ca, rfl, h2⟩ := h
  have H2 := Lib.hid h2
  have HR := Lib.hid hr
  obtain ⟨n, hn⟩ : ∃ n, l.length = n := ⟨_, rfl⟩
  rw [hn] at hl ⊢
  have HN := Lib.hid hn
  clear h2 hn hr
  go_enter Tryz.func17, Tryz.ntmps17
  go_wp2_with fail
  go_loopw [6] (fun x wr => ∃ (k m cp : Nat) (ap : Option Addr), x = .int .i64 k ∧ k ≤ n ∧ (∀ j y, j < k → l[j]? = some y → badR y = 0) ∧ SlR wr (.slice ap m cp) ((canonOf (numsR (l.take k))).map dnR) ∧ PW w (.slice ap m cp) wr) (fun x _ => n - (RowKit.intOf x).toNat)
  case atStart => exact ⟨0, 0, 0, none, rfl, by omega, fun j y hj => by omega, ⟨none, 0, by rw [List.take_zero, numsR0]; rfl, .inl (by rw [List.take_zero, numsR0]; rfl)⟩, PW.start w⟩
  case round =>
    obtain ⟨k, m, cp, ap, rfl, hk, hgood, hsl, hpw⟩ := hrel
    have HI := Lib.hid (And.intro hgood (And.intro hsl hpw))
    clear hgood hsl hpw
    by_cases hlt : k < n
    · have hlt' : (k : Int) < n := by omega
      obtain ⟨x, hx⟩ : ∃ x, l[k]? = some x := ⟨_, List.getElem?_eq_getElem (by rw [HN.out]; exact hlt)⟩
      obtain ⟨ad, rfl, hca⟩ : ∃ a : Addr, aa = some a ∧ ∀ (i : Nat) (x : Int × Int), l[i]? = some x → w.cell? (a.add (i * 2)) = some (.int .i32 x.1) ∧ w.cell? (a.add (i * 2 + 1)) = some (.int .i32 x.2) := by
        rcases H2.out with h | h
        · subst h; simp at hx
        · exact h
      obtain ⟨x1, x2⟩ := x
      have q0 := hca k _ hx
      have HXK := Lib.hid hx
      obtain ⟨A, hA⟩ : ∃ A, ad.add (k * 2) = A := ⟨_, rfl⟩
      have q1 : w.cell? A = some (.int .i32 x1) := by rw [← hA]; exact q0.1
      have q2 : w.cell? ⟨A.block, A.off + 1, none⟩ = some (.int .i32 x2) := by
        rw [← hA, show (⟨(ad.add (k * 2)).block, (ad.add (k * 2)).off + 1, none⟩ : Addr) = (ad.add (k * 2)).add 1 from rfl, add_one_more]
        exact q0.2
      have hWB : ∀ X, Below wr.heap.size wr X → Below w.heap.size w X := fun X hX => HI.out.2.2.2.2.1.trans (hX.mono HI.out.2.2.2.2.1.size)
      have hix : ∀ X : World, (Instr.indexAt 25 (.slice (some ad) n ca) (.int .i64 (k : Nat))).run Tryz.prog X = .ok (.pointer (some A)) X := fun X => by
        rw [← hA]
        go_simp
      have hf0 : ∀ X : World, (Instr.fieldAt 27 (.pointer (some A)) 0).run Tryz.prog X = .ok (.pointer (some A)) X := fun X => by go_simp
      have hf1 : ∀ X : World, (Instr.fieldAt 27 (.pointer (some A)) 1).run Tryz.prog X = .ok (.pointer (some ⟨A.block, A.off + 1, none⟩)) X := fun X => by go_simp
      have hl1 : ∀ X, Below wr.heap.size wr X → (Instr.loadAt 21 (.pointer (some A))).run Tryz.prog X = .ok (.int .i32 x1) X := fun X hX => by
        have q : X.cell? A = some (.int .i32 x1) := ((hWB X hX).cell (lt_of_cell q1)).trans q1
        go_simp
      have hl2 : ∀ X, Below wr.heap.size wr X → (Instr.loadAt 21 (.pointer (some ⟨A.block, A.off + 1, none⟩))).run Tryz.prog X = .ok (.int .i32 x2) X := fun X hX => by
        have q : X.cell? ⟨A.block, A.off + 1, none⟩ = some (.int .i32 x2) := ((hWB X hX).cell (lt_of_cell q2)).trans q2
        go_simp
      obtain ⟨n1, hn1⟩ : ∃ n, dNum x1 = n := ⟨_, rfl⟩
      obtain ⟨n2, hn2⟩ : ∃ n, dNum x2 = n := ⟨_, rfl⟩
      have hrx := HR.out _ (List.mem_of_getElem? hx)
      simp only at hrx
      have CN1 := Lib.hid (fun X : World => xNumber_any x1 X hrx.1.1 hrx.1.2)
      have CN2 := Lib.hid (fun X : World => xNumber_any x2 X hrx.2.1 hrx.2.2)
      clear hrx
      rw [hn1] at CN1
      rw [hn2] at CN2
      have HNN := Lib.hid (And.intro hn1 hn2)
      have S5 : Below wr.heap.size wr wr.drew := below_drewN (Below.refl _ _) 1
      clear hx hca q0 hn1 hn2 hWB
      go_wp2_with fail
      refine wp_region_guarded (fun X => Below wr.heap.size wr X) (fun U V => Below U.heap.size U V) (pO5 ad A n ca k x1 x2 n1 n2) (by kernel_rfl) (by kernel_rfl) (by kernel_rfl) S5 ?hp ?hs ?hd
      case hp =>
        intro i v U V _ _ hk hv
        unfold pO5 at hv ⊢
        split at hv <;> exact hv
      case hs =>
        refine GSteps.cons ?_ (GSteps.cons ?_ (GSteps.cons ?_ (GSteps.cons ?_ (GSteps.cons ?_ (GSteps.cons ?_ (GSteps.cons ?_ (GSteps.cons ?_ (GSteps.cons ?_ (GSteps.cons ?_ (GSteps.cons ?_ (GSteps.cons ?_ (GSteps.cons ?_ (GSteps.cons ?_ (GSteps.nil))))))))))))))
        · intro a X hX hL hd
          refine .inl ⟨rfl, ?_⟩
          have e0 : a.eval (.tmp 0) = .slice (some ad) n ca := hL.far 0 (by kernel_rfl)
          exact wp_value (exec_move rfl e0) ⟨_, rfl, hX, Below.refl _ _, rfl⟩
        · intro a X hX hL hd
          refine .inl ⟨rfl, ?_⟩
          have e0 : a.eval (.tmp 6) = .int .i64 (k : Nat) := hL.far 6 (by kernel_rfl)
          exact wp_value (exec_move rfl e0) ⟨_, rfl, hX, Below.refl _ _, rfl⟩
        · intro a X hX hL hd
          refine .inl ⟨rfl, ?_⟩
          have e0 : a.eval (.tmp 15) = .slice (some ad) n ca := hd 0 15 (by kernel_rfl) (by kernel_rfl)
          have e1 : a.eval (.tmp 16) = .int .i64 (k : Nat) := hd 1 16 (by kernel_rfl) (by kernel_rfl)
          exact wp_value (exec_indexAddr rfl e0 e1 (hix X)) ⟨_, rfl, hX, Below.refl _ _, rfl⟩
        · intro a X hX hL hd
          refine .inl ⟨rfl, ?_⟩
          have e0 : a.eval (.tmp 17) = .pointer (some A) := hd 2 17 (by kernel_rfl) (by kernel_rfl)
          exact wp_value (exec_fieldAddr rfl e0 (hf0 X)) ⟨_, rfl, hX, Below.refl _ _, rfl⟩
        · intro a X hX hL hd
          refine .inl ⟨rfl, ?_⟩
          have e0 : a.eval (.tmp 18) = .pointer (some A) := hd 3 18 (by kernel_rfl) (by kernel_rfl)
          exact wp_value (exec_load rfl e0 (hl1 X hX)) ⟨_, rfl, hX, Below.refl _ _, rfl⟩
        · intro a X hX hL hd
          refine .inl ⟨rfl, ?_⟩
          have e0 : a.eval (.tmp 19) = .int .i32 x1 := hd 4 19 (by kernel_rfl) (by kernel_rfl)
          refine wp_enter (exec_call (vs := #[.int .i32 x1]) rfl (by simp only [List.map_toArray, List.map_cons, List.map_nil, e0]) Tryz.func44 rfl rfl) ?_
          refine (CN1.out X).mono ?_
          rintro e w' ⟨rfl, rfl⟩
          exact ⟨_, rfl, _, rfl, hX, Below.refl _ _, rfl⟩
        · intro a X hX hL hd
          refine .inl ⟨rfl, ?_⟩
          have e0 : a.eval (.tmp 0) = .slice (some ad) n ca := hL.far 0 (by kernel_rfl)
          exact wp_value (exec_move rfl e0) ⟨_, rfl, hX, Below.refl _ _, rfl⟩
        · intro a X hX hL hd
          refine .inl ⟨rfl, ?_⟩
          have e0 : a.eval (.tmp 6) = .int .i64 (k : Nat) := hL.far 6 (by kernel_rfl)
          exact wp_value (exec_move rfl e0) ⟨_, rfl, hX, Below.refl _ _, rfl⟩
        · intro a X hX hL hd
          refine .inl ⟨rfl, ?_⟩
          have e0 : a.eval (.tmp 21) = .slice (some ad) n ca := hd 6 21 (by kernel_rfl) (by kernel_rfl)
          have e1 : a.eval (.tmp 22) = .int .i64 (k : Nat) := hd 7 22 (by kernel_rfl) (by kernel_rfl)
          exact wp_value (exec_indexAddr rfl e0 e1 (hix X)) ⟨_, rfl, hX, Below.refl _ _, rfl⟩
        · intro a X hX hL hd
          refine .inl ⟨rfl, ?_⟩
          have e0 : a.eval (.tmp 23) = .pointer (some A) := hd 8 23 (by kernel_rfl) (by kernel_rfl)
          exact wp_value (exec_fieldAddr rfl e0 (hf1 X)) ⟨_, rfl, hX, Below.refl _ _, rfl⟩
        · intro a X hX hL hd
          refine .inl ⟨rfl, ?_⟩
          have e0 : a.eval (.tmp 24) = .pointer (some ⟨A.block, A.off + 1, none⟩) := hd 9 24 (by kernel_rfl) (by kernel_rfl)
          exact wp_value (exec_load rfl e0 (hl2 X hX)) ⟨_, rfl, hX, Below.refl _ _, rfl⟩
        · intro a X hX hL hd
          refine .inl ⟨rfl, ?_⟩
          have e0 : a.eval (.tmp 25) = .int .i32 x2 := hd 10 25 (by kernel_rfl) (by kernel_rfl)
          refine wp_enter (exec_call (vs := #[.int .i32 x2]) rfl (by simp only [List.map_toArray, List.map_cons, List.map_nil, e0]) Tryz.func44 rfl rfl) ?_
          refine (CN2.out X).mono ?_
          rintro e w' ⟨rfl, rfl⟩
          exact ⟨_, rfl, _, rfl, hX, Below.refl _ _, rfl⟩
        · intro a X hX hL hd
          refine .inl ⟨rfl, ?_⟩
          have e0 : a.eval (.tmp 20) = .int .i64 n1 := hd 5 20 (by kernel_rfl) (by kernel_rfl)
          exact wp_value (exec_asg rfl e0) ⟨_, rfl, hX, Below.refl _ _, rfl⟩
        · intro a X hX hL hd
          refine .inl ⟨rfl, ?_⟩
          have e0 : a.eval (.tmp 26) = .int .i64 n2 := hd 11 26 (by kernel_rfl) (by kernel_rfl)
          exact wp_value (exec_asg rfl e0) ⟨_, rfl, hX, Below.refl _ _, rfl⟩
      case hd =>
        intro a2 X hX hL hd _
        have h7 : a2.tmps.getD 7 undef = .int .i64 n1 := hd 12 7 (by kernel_rfl)
        have h8 : a2.tmps.getD 8 undef = .int .i64 n2 := hd 13 8 (by kernel_rfl)
        obtain ⟨f, ha, hf⟩ := hL.out [15, 16, 17, 18, 19, 20, 21, 22, 23, 24, 25, 26, 7, 8] (by kernel_rfl)
        have h7' : f 7 = .int .i64 n1 := (hf 7).trans h7
        have h8' : f 8 = .int .i64 n2 := (hf 8).trans h8
        simp only [List.foldl_cons, List.foldl_nil, List.setIfInBounds_toArray, List.set_cons_zero, List.set_cons_succ, h7', h8'] at ha
        clear hf hd hL h7 h8 hl1 hl2 hix hf0 hf1 q1 q2 S5
        subst ha
        have HH := HI.out.2.2.next hX
        have k0 : X.cell? ⟨w.heap.size, 0, none⟩ = some (.slice none 0 0) := by rw [Lib.cell_of_heap HH.1]; rfl
        have f0 : X.frozen? ⟨w.heap.size, 0, none⟩ = false := Lib.frozen_of_heap HH.1 _
        have k1 : X.cell? ⟨w.heap.size + 1, 0, none⟩ = some (.slice ap m cp) := by rw [Lib.cell_of_heap HH.2.1]; rfl
        have HB := Lib.hid HH
        have HS := Lib.hid (HI.out.2.1.below hX)
        clear HH hX h7' h8'
        by_cases h1 : n1 < 0
        · have HBad : Hid (badR (x1, x2) = 8) := Lib.hid (bad_point (.inl (by rw [HNN.out.1]; exact h1)))
          go_wp2_with fail
          (try simp only [Exit.inBlock, Exit.then])
          refine bodyPost_ret (results_cell3 rfl _ _ w.heap.size 44 #[.slice none 0 0] (0, 0) _ rfl (one_cell HB.out.1) Tryz.underlying44 rfl (by kernel_rfl)) rfl ?_
          exact ⟨.inl ⟨k, (x1, x2), HXK.out, by rw [HBad.out]; decide, HI.out.1, by rw [HBad.out]; rfl⟩, HB.out.2.2.1.setCell (Nat.le_refl _) _⟩
        · by_cases h2 : n2 < 0
          · have HBad : Hid (badR (x1, x2) = 8) := Lib.hid (bad_point (.inr (by rw [HNN.out.2]; exact h2)))
            go_wp2_with fail
            (try simp only [Exit.inBlock, Exit.then])
            refine bodyPost_ret (results_cell3 rfl _ _ w.heap.size 44 #[.slice none 0 0] (0, 0) _ rfl (one_cell HB.out.1) Tryz.underlying44 rfl (by kernel_rfl)) rfl ?_
            exact ⟨.inl ⟨k, (x1, x2), HXK.out, by rw [HBad.out]; decide, HI.out.1, by rw [HBad.out]; rfl⟩, HB.out.2.2.1.setCell (Nat.le_refl _) _⟩
          · by_cases h3 : n2 < n1
            · have HBad : Hid (badR (x1, x2) = 1) := Lib.hid (bad_turned (by rw [HNN.out.1]; omega) (by rw [HNN.out.2]; omega) (by rw [HNN.out.1, HNN.out.2]; exact h3))
              go_wp2_with fail
              (try simp only [Exit.inBlock, Exit.then])
              refine bodyPost_ret (results_cell3 rfl _ _ w.heap.size 44 #[.slice none 0 0] (0, 0) _ rfl (one_cell HB.out.1) Tryz.underlying44 rfl (by kernel_rfl)) rfl ?_
              exact ⟨.inl ⟨k, (x1, x2), HXK.out, by rw [HBad.out]; decide, HI.out.1, by rw [HBad.out]; rfl⟩, HB.out.2.2.1.setCell (Nat.le_refl _) _⟩
            · have hbn := bad_none (x := (x1, x2)) (by rw [HNN.out.1]; omega) (by rw [HNN.out.2]; omega) (by rw [HNN.out.1, HNN.out.2]; exact h3)
              simp only [HNN.out.1, HNN.out.2] at hbn
              have htk : l.take (k + 1) = l.take k ++ [(x1, x2)] := by rw [List.take_add_one, HXK.out]; rfl
              have hgt : ∀ y ∈ l.take k, badR y = 0 := fun y hy => by
                obtain ⟨j, hj, e⟩ := List.getElem_of_mem hy
                rw [List.length_take] at hj
                rw [List.getElem_take] at e
                exact HI.out.1 j y (by omega) (by rw [← e]; exact List.getElem?_eq_getElem _)
              obtain ⟨c1, c2, hmd⟩ := of_one_more hgt hbn.1
              rw [hbn.2] at c2 hmd
              have hal : Below X.heap.size X (X.alloc (.cells #[.int .i64 n1, .int .i64 n2] 103)) := (Below.refl _ _).alloc (Nat.le_refl _) _
              have hsx : SlR (X.alloc (.cells #[.int .i64 n1, .int .i64 n2] 103)) (.slice (some ⟨X.heap.size, 0, none⟩) 1 1) ([(n1, n2 + 1)].map dnR) := ⟨_, 1, rfl, .inr ⟨X.heap.size, rfl, fun i y hy => by
                cases i with
                | zero =>
                  simp [dnR] at hy
                  subst hy
                  exact ⟨by rw [Lib.cell_of_heap (alloc_at rfl)]; rfl, by rw [Lib.cell_of_heap (alloc_at rfl)]; simp⟩
                | succ i => simp at hy⟩⟩
              have CJ := Lib.hid (xjoin_any _ _ _ _ _ (HS.out.below hal) hsx c1 c2)
              rw [hmd, ← htk] at CJ
              have HPA := Lib.hid (HB.out.next hal)
              have HGN : Hid (∀ j y, j < k + 1 → l[j]? = some y → badR y = 0) := Lib.hid fun j y hj hy => by
                rcases Nat.lt_or_ge j k with h | h
                · exact HI.out.1 j y h hy
                · obtain rfl : j = k := by omega
                  rw [HXK.out] at hy
                  obtain rfl := Option.some.inj hy
                  exact hbn.1
              clear hbn htk hgt c1 c2 hmd hal hsx
              go_wp2_with fail
              refine CJ.out.mono ?_
              rintro e V ⟨v, rfl, hv, hbV⟩
              obtain ⟨av, cv, rfl, _⟩ := slr_at hv
              have HH := HPA.out.next hbV
              obtain ⟨lv, hlv⟩ : ∃ n, (canonOf (numsR (l.take (k + 1)))).length = n := ⟨_, rfl⟩
              rw [hlv] at hv ⊢
              clear k0 f0 k1
              have k1 : V.cell? ⟨w.heap.size + 1, 0, none⟩ = some (.slice ap m cp) := by rw [Lib.cell_of_heap HH.2.1]; rfl
              have f1 : V.frozen? ⟨w.heap.size + 1, 0, none⟩ = false := Lib.frozen_of_heap HH.2.1 _
              have HV := Lib.hid (And.intro (slr_set (u := .slice av lv cv) hv k1) (HH.set (u := .slice av lv cv)))
              clear hv hlv hbV HH
              go_wp2_with fail
              go_roundw
              case rel => exact ⟨k + 1, lv, cv, av, by go_num, by omega, HGN.out, HV.out.1, HV.out.2⟩
              case measure => simp [RowKit.intOf]; omega
    · have hlt' : ¬ (k : Int) < n := by omega
      obtain rfl : k = n := by omega
      have HH := HI.out.2.2
      have k0 : wr.cell? ⟨w.heap.size, 0, none⟩ = some (.slice none 0 0) := by rw [Lib.cell_of_heap HH.1]; rfl
      have f0 : wr.frozen? ⟨w.heap.size, 0, none⟩ = false := Lib.frozen_of_heap HH.1 _
      have k1 : wr.cell? ⟨w.heap.size + 1, 0, none⟩ = some (.slice ap m cp) := by rw [Lib.cell_of_heap HH.2.1]; rfl
      have HE : Hid ((∀ x ∈ l, badR x = 0) ∧ SlR (wr.setCell ⟨w.heap.size, 0, none⟩ (.slice ap m cp)) (.slice ap m cp) ((canonOf (numsR l)).map dnR)) := Lib.hid ⟨fun x hx => by
        obtain ⟨j, hj, rfl⟩ := List.getElem_of_mem hx
        exact HI.out.1 j _ (by rw [← HN.out]; exact hj) (List.getElem?_eq_getElem hj), by
        have e : l.take k = l := by rw [← HN.out, List.take_length]
        have hs := HI.out.2.1
        rw [e] at hs
        exact slr_set hs k0⟩
      have HB := Lib.hid HH
      clear HH
      go_wp2_with fail
      (try simp only [Exit.inBlock, Exit.then])
      refine bodyPost_ret (results_cell3 rfl _ _ w.heap.size 44 #[.slice ap m cp] (0, 0) _ rfl (one_cell HB.out.1) Tryz.underlying44 rfl (by kernel_rfl)) rfl ?_
      exact ⟨.inr ⟨HE.out.1, _, rfl, HE.out.2⟩, HB.out.2.2.1.setCell (Nat.le_refl _) _⟩

set_option maxRecDepth 100000 in
set_option maxHeartbeats 2000000 in
theorem copy_any (l : List (Int × Int)) (v : Value) (w : World) (h : SpA w v l) (hl : l.length ≤ 2199023255552) :
    Calls Tryz.prog 30 #[v] w fun e w' => ∃ ao cp, e = .returned (.slice ao l.length cp) ∧ OwnS (fun b => w.heap.size ≤ b) 27 2 (.slice ao l.length cp) l.length (encSp l) w' ∧ Below w.heap.size w w' := by
  obtain ⟨aa, ca, rfl, h2⟩ := h
  have H2 := Lib.hid h2
  obtain ⟨n, hn⟩ : ∃ n, l.length = n := ⟨_, rfl⟩
  rw [hn] at hl ⊢
  have HN := Lib.hid hn
  clear h2 hn
  go_enter Tryz.func30, Tryz.ntmps30
  go_wp2_with fail
  go_loopw [3, 4] (fun s x wr => ∃ (k : Nat) (a2 : Option Addr) (c2 : Nat), s = .slice a2 k c2 ∧ x = .int .i64 k ∧ k ≤ n ∧ OwnS (fun b => w.heap.size ≤ b) 27 2 (.slice a2 k c2) k (encSp (l.take k)) wr ∧ Below w.heap.size w wr) (fun _ x _ => n - (RowKit.intOf x).toNat)
  case atStart => exact ⟨0, none, 0, rfl, rfl, by omega, own_nil _ _ _ _, Below.refl _ _⟩
  case round =>
    obtain ⟨k, a2, c2, rfl, rfl, hk, ho, hb⟩ := hrel
    have HI := Lib.hid (And.intro ho hb)
    clear ho hb
    by_cases hlt : k < n
    · have hlt' : (k : Int) < n := by omega
      obtain ⟨x, hx⟩ : ∃ x, l[k]? = some x := ⟨_, List.getElem?_eq_getElem (by rw [HN.out]; exact hlt)⟩
      obtain ⟨a, rfl, hca⟩ : ∃ a : Addr, aa = some a ∧ ∀ (i : Nat) (x : Int × Int), l[i]? = some x → w.cell? (a.add (i * 2)) = some (.int .i32 x.1) ∧ w.cell? (a.add (i * 2 + 1)) = some (.int .i32 x.2) := by
        rcases H2.out with h | h
        · subst h; simp at hx
        · exact h
      have q0 := hca k _ hx
      have HT : Hid (l.take (k + 1) = l.take k ++ [x]) := Lib.hid (by rw [List.take_add_one, hx]; rfl)
      have q1 : wr.cell? (a.add (k * 2)) = some (.int .i32 x.1) := (HI.out.2.cell (lt_of_cell q0.1)).trans q0.1
      have q2 : wr.cell? ⟨(a.add (k * 2)).block, (a.add (k * 2)).off + 1, none⟩ = some (.int .i32 x.2) := by
        rw [show (⟨(a.add (k * 2)).block, (a.add (k * 2)).off + 1, none⟩ : Addr) = (a.add (k * 2)).add 1 from rfl, add_one_more]
        exact (HI.out.2.cell (lt_of_cell q0.2)).trans q0.2
      obtain ⟨g2, cap2, w2, hrun2, hown2, hz2, hk2⟩ := append_spn HI.out.1 (fun y hy => Nat.le_trans HI.out.2.size hy) x (by omega)
      rw [← HT.out] at hown2
      have HRun2 := Lib.hid hrun2
      have HO2 := Lib.hid (And.intro hown2 (HI.out.2.trans (hk2.below HI.out.2.size (fun b hb => HI.out.1.2 b hb))))
      clear hx hca q0 hrun2 hown2 hz2 hk2
      go_wp2_with (at_builtin; refine wpList_append_eq rfl rfl rfl rfl HRun2.out ?_)
      go_roundw
      case rel => exact ⟨k + 1, some ⟨g2, 0, none⟩, cap2, rfl, by go_num, by omega, HO2.out.1, HO2.out.2⟩
      case measure => simp [RowKit.intOf]; omega
    · have hlt' : ¬ (k : Int) < n := by omega
      obtain rfl : k = n := by omega
      have e : l.take k = l := by rw [← HN.out, List.take_length]
      have HE := HI.out
      rw [e] at HE
      have HE2 := Lib.hid HE
      clear HE e
      go_wp2
      go_ret
      exact ⟨_, _, rfl, HE2.out.1, HE2.out.2⟩
end Go.Proofs.YtjbkpcdpdifpnaaGreatDoor
