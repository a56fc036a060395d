/- RangesKnown's spans: each two of the numbers about the edges (written by gen_yk.py). -/
import Derived.Test.YtjbkpcdpdifpnaaGreatDoorYj
import Derived.Test.YtjbkpcdpdifpnaaGreatDoorYe
import Derived.Test.YtjbkpcdpdifpnaaGreatDoorHi
import Derived.Test.YtjbkpcdpdifpnaaGreatDoorNv
import Derived.Test.YtjbkpcdpdifpnaaGreatDoorK21
namespace Go.Proofs.YtjbkpcdpdifpnaaGreatDoor
open Go Go.RowKit Go.Kt Go.Kt.Rg
attribute [local go_sem] Oper.semAt_some

def E24 : List Int := [-2147483648, -1, 0, 1, 97, 98, 100, 55294, 55295, 55296, 57343, 57344, 57345, 65533, 1114110, 1114111, 1114112, 1114239, 1114240, 1114241, 1114366, 1114367, 1114368, 2147483647]
theorem E24_bd : ∀ x ∈ E24, -2147483648 ≤ x ∧ x ≤ 2147483647 := by decide
theorem ends_any (w : World) : Calls Tryz.prog 6 #[] w fun e w' => e = .returned (.slice (some ⟨w.heap.size, 0, none⟩) 24 24) ∧ w' = w.alloc (.cells (E24.map fun x => Value.int .i32 x).toArray 21) := by
  go_enter Tryz.func6, Tryz.ntmps6
  go_wp2
  go_ret
  exact ⟨rfl, rfl⟩
theorem ksl (gr m0 cr0 j : Nat) (hm : j < m0) (hc : m0 ≤ cr0) (_hz : cr0 ≤ 9223372036854775807) (X : World) : (Instr.sliceAt 25 (.slice (some ⟨gr, 0, none⟩) m0 cr0) (some (.int .i64 (j : Nat))) (some (.int .i64 ((j + 1 : Nat) : Int))) none).run Tryz.prog X = .ok (.slice (some ⟨gr, j * 2, none⟩) 1 (cr0 - j)) X := by
  have q1 : (j : Int) ≤ (j : Int) + 1 := by omega
  have q2 : (j : Int) + 1 ≤ cr0 := by omega
  have q3 : (0 : Int) ≤ (j : Int) + 1 := by omega
  have q5 : ¬ cr0 = j := by omega
  have e1 : j + 1 - j = 1 := by omega
  go_simp
theorem krem (X : World) (x y : Operand) (k q : Nat) (hq : k % 24 = q) : (do eqGuard .rem 3 x y (.int .i64 (k : Nat)) (.int .i64 24); binOp .rem 3 (.int .i64 (k : Nat)) (.int .i64 24) : Sem Value).run Tryz.prog X = .ok (.int .i64 (q : Nat)) X := by
  have e1 : (k : Int).tmod 24 = (q : Int) := by rw [Int.tmod_eq_emod_of_nonneg (by omega)]; omega
  go_simp
theorem kquo (X : World) (x y : Operand) (k q : Nat) (hq : k / 2 = q) (hk : k ≤ 1000) : (do eqGuard .quo 3 x y (.int .i64 (k : Nat)) (.int .i64 2); binOp .quo 3 (.int .i64 (k : Nat)) (.int .i64 2) : Sem Value).run Tryz.prog X = .ok (.int .i64 (q : Nat)) X := by
  have e1 : (k : Int).tdiv 2 = (q : Int) := by rw [Int.tdiv_eq_ediv_of_nonneg (by omega)]; omega
  have e2 : IntKind.i64.wrap (q : Int) = (q : Int) := IntWalk.i64_in _ (by omega)
  go_simp
theorem kadd (i : Nat) (hi : i ≤ 1000) (X : World) (x y : Operand) : (do eqGuard .add 3 x y (.int .i64 (i : Nat)) (.int .i64 1); binOp .add 3 (.int .i64 (i : Nat)) (.int .i64 1) : Sem Value).run Tryz.prog X = .ok (.int .i64 ((i + 1 : Nat) : Int)) X := by
  have e : IntKind.i64.wrap ((i : Int) + 1) = ((i + 1 : Nat) : Int) := by rw [IntWalk.i64_in _ (by omega)]; omega
  go_simp
theorem klen (gl : Nat) (X : World) : (Builtin.len_ #[23] 3 #[.slice (some ⟨gl, 0, none⟩) 24 24]).run Tryz.prog X = .ok (.int .i64 24) X := by
  go_simp
def BlkP (n : Nat) (vals : Array Value) (v : Value) (W : World) : Prop := ∃ g, v = .slice (some ⟨g, 0, none⟩) n n ∧ W.heap[g]? = some (.cells vals 27 (0, 0))
theorem BlkP.below {n : Nat} {vals : Array Value} {v : Value} {A B : World} (h : BlkP n vals v A) (hb : Below A.heap.size A B) : BlkP n vals v B := by
  obtain ⟨g, e, h⟩ := h
  exact ⟨g, e, (hb.block g (Array.getElem?_eq_some_iff.1 h).1).trans h⟩
def RgW (w1 : World) (ar : Option Addr) (m cr : Nat) (X : World) : Prop := ∃ R : List (Int × Int), m = R.length ∧ Runy R ∧ OwnS (fun b => w1.heap.size ≤ b) 27 2 (.slice ar m cr) m (encSp R) X ∧ Below w1.heap.size w1 X
theorem RgW.next {w1 X Y : World} {ar : Option Addr} {m cr : Nat} (h : RgW w1 ar m cr X) (hb : Below X.heap.size X Y) : RgW w1 ar m cr Y := by
  obtain ⟨R, h1, h2, h3, h4⟩ := h
  exact ⟨R, h1, h2, own_nx h3 hb, h4.trans (hb.mono h4.size)⟩
theorem spa_one {X : World} {R : List (Int × Int)} {Y : Nat → Prop} {gr m cr i c : Nat} (ho : OwnS Y 27 2 (.slice (some ⟨gr, 0, none⟩) m cr) m (encSp R) X) (hm : m = R.length) (hi : i < m) (hr : Runy R) : ∃ x, SpA X (.slice (some ⟨gr, i * 2, none⟩) 1 c) [x] ∧ Runy [x] := by
  obtain ⟨ao, cap, e, h⟩ := spg_of_own ho hm
  injection e with e1 e2 e3
  obtain ⟨x, hx⟩ : ∃ x, R[i]? = some x := ⟨_, List.getElem?_eq_getElem (by omega)⟩
  rcases h with h | ⟨g, off, e4, h⟩
  · subst h; simp at hx
  · rw [← e1] at e4
    injection e4 with e4
    injection e4 with e5 e6
    subst e5
    subst e6
    have h2 := h i x hx
    refine ⟨x, ⟨_, c, rfl, .inr ⟨⟨gr, i * 2, none⟩, rfl, fun j y hj => ?_⟩⟩, fun y hy => ?_⟩
    · cases j with
      | zero =>
        simp at hj
        subst hj
        rw [Addr.add_lit, Addr.add_lit]
        simpa using h2
      | succ j => simp at hj
    · rw [List.mem_singleton] at hy
      subst hy
      exact hr y (List.mem_of_getElem? hx)
def pS9 (gl i k : Nat) (x1 x2 : Int) (jx : Nat) (v : Value) (W : World) : Prop := match jx with
  | 0 => v = .slice (some ⟨gl, 0, none⟩) 24 24
  | 1 => v = .int .i64 (i : Nat)
  | 2 => v = .pointer (some ⟨gl, i, none⟩)
  | 3 => v = .int .i32 x1
  | 4 => v = .slice (some ⟨gl, 0, none⟩) 24 24
  | 5 => v = .int .i64 (k : Nat)
  | 6 => v = .pointer (some ⟨gl, k, none⟩)
  | 7 => v = .int .i32 x2
  | 8 => v = .agg #[.int .i32 x1, .int .i32 x2]
  | 9 => (BlkP 1 #[.int .i32 x1, .int .i32 x2]) v W
  | 10 => (BlkP 1 #[.int .i32 x1, .int .i32 x2]) v W
  | _ => True
def pS10 (gx : Nat) (x1 x2 : Int) (jx : Nat) (v : Value) (W : World) : Prop := match jx with
  | 0 => v = .slice (some ⟨gx, 0, none⟩) 1 1
  | 1 => v = .pointer (some ⟨gx, 0, none⟩)
  | 2 => v = .agg #[.int .i32 x1, .int .i32 x2]
  | 3 => v = .agg #[.int .i32 99, .int .i32 99]
  | 4 => v = .slice (some ⟨gx, 0, none⟩) 1 1
  | 5 => v = .pointer (some ⟨gx, 0, none⟩)
  | 6 => v = .agg #[.int .i32 x1, .int .i32 x2]
  | 7 => (BlkP 3 #[.int .i32 x1, .int .i32 x2, .int .i32 99, .int .i32 99, .int .i32 x1, .int .i32 x2]) v W
  | 8 => (BlkP 3 #[.int .i32 x1, .int .i32 x2, .int .i32 99, .int .i32 99, .int .i32 x1, .int .i32 x2]) v W
  | _ => True
def pS21 (gl gr m0 cr0 i k h q : Nat) (z : Int) (jx : Nat) (v : Value) (_W : World) : Prop := match jx with
  | 0 => v = .slice (some ⟨gr, 0, none⟩) m0 cr0
  | 1 => v = .int .i64 (i : Nat)
  | 2 => v = .int .i64 (i : Nat)
  | 3 => v = .int .i64 ((i + 1 : Nat) : Int)
  | 4 => v = .slice (some ⟨gr, i * 2, none⟩) 1 (cr0 - i)
  | 5 => v = .slice (some ⟨gr, 0, none⟩) m0 cr0
  | 6 => v = .int .i64 (k : Nat)
  | 7 => v = .int .i64 (k : Nat)
  | 8 => v = .int .i64 ((k + 1 : Nat) : Int)
  | 9 => v = .slice (some ⟨gr, k * 2, none⟩) 1 (cr0 - k)
  | 10 => v = .slice (some ⟨gl, 0, none⟩) 24 24
  | 11 => v = .bool true
  | 12 => v = .bool false
  | 13 => v = .bool false
  | 14 => v = .slice (some ⟨gr, 0, none⟩) m0 cr0
  | 15 => v = .int .i64 (i : Nat)
  | 16 => v = .int .i64 (i : Nat)
  | 17 => v = .int .i64 ((i + 1 : Nat) : Int)
  | 18 => v = .slice (some ⟨gr, i * 2, none⟩) 1 (cr0 - i)
  | 19 => v = .slice (some ⟨gr, 0, none⟩) m0 cr0
  | 20 => v = .int .i64 (k : Nat)
  | 21 => v = .int .i64 (k : Nat)
  | 22 => v = .int .i64 ((k + 1 : Nat) : Int)
  | 23 => v = .slice (some ⟨gr, k * 2, none⟩) 1 (cr0 - k)
  | 24 => v = .slice (some ⟨gr, 0, none⟩) m0 cr0
  | 25 => v = .int .i64 (i : Nat)
  | 26 => v = .int .i64 (h : Nat)
  | 27 => v = .int .i64 (i : Nat)
  | 28 => v = .int .i64 (h : Nat)
  | 29 => v = .int .i64 ((h + 1 : Nat) : Int)
  | 30 => v = .slice (some ⟨gr, h * 2, none⟩) 1 (cr0 - h)
  | 31 => v = .slice (some ⟨gl, 0, none⟩) 24 24
  | 32 => v = .int .i64 (k : Nat)
  | 33 => v = .slice (some ⟨gl, 0, none⟩) 24 24
  | 34 => v = .int .i64 24
  | 35 => v = .int .i64 (q : Nat)
  | 36 => v = .pointer (some ⟨gl, q, none⟩)
  | 37 => v = .int .i32 z
  | 38 => v = .bool true
  | 39 => v = .bool false
  | 40 => v = .bool false
  | _ => True
set_option maxRecDepth 100000 in
set_option maxHeartbeats 8000000 in
theorem kspans_any (w : World) (hF : FEnv w) (hP : PEnv w) : Calls Tryz.prog 4 #[] w fun e w' => e = .returned (.bool true) ∧ Below w.heap.size w w' := by
  have CE := Lib.hid (ends_any w)
  obtain ⟨w1, hw1⟩ : ∃ W, w.alloc (.cells (E24.map fun x => Value.int .i32 x).toArray 21) = W := ⟨_, rfl⟩
  have hb1 : Below w.heap.size w w1 := by rw [← hw1]; exact (Below.refl _ _).alloc (Nat.le_refl _) _
  have hg1 : w1.heap[w.heap.size]? = some (.cells (E24.map fun x => Value.int .i32 x).toArray 21 (0, 0)) := by rw [← hw1]; exact alloc_at rfl
  have hz1 : w.heap.size < w1.heap.size := by rw [← hw1]; simp
  rw [hw1] at CE
  obtain ⟨gl, hgl⟩ : ∃ n, w.heap.size = n := ⟨_, rfl⟩
  rw [hgl] at CE hg1 hz1
  have hce : ∀ X, Below w1.heap.size w1 X → ∀ (j : Nat) (x : Int), E24[j]? = some x → X.cell? ⟨gl, j, none⟩ = some (.int .i32 x) := fun X hX j x hx => by
    rw [Lib.cell_of_heap ((hX.block _ hz1).trans hg1)]
    simp [hx]
  have HCE := Lib.hid hce
  have HSL : Hid (∀ X, Below w1.heap.size w1 X → Slg .i32 X (.slice (some ⟨gl, 0, none⟩) 24 24) E24) := Lib.hid fun X hX => ⟨_, 24, rfl, .inr ⟨_, rfl, fun j x hx => by
    rw [Addr.add_lit, Nat.zero_add]
    exact hce X hX j x hx⟩⟩
  have HB1 : Hid (∀ X, Below w1.heap.size w1 X → Below w.heap.size w X) := Lib.hid fun X hX => hb1.trans (hX.mono hb1.size)
  have CO := Lib.hid (fun X v l (hX : Below w1.heap.size w1 X) (hs : SpA X v l) (hr : Runy l) => rof_c l E24 v (.slice (some ⟨gl, 0, none⟩) 24 24) X (hF.below (HB1.out X hX)) hs (HSL.out X hX) hr E24_bd (by decide))
  have CBK := Lib.hid (fun X v l (hX : Below w1.heap.size w1 X) (hs : SpA X v l) (hr : Runy l) (hl : l.length ≤ 1000) => rback_c v l X (hP.below (HB1.out X hX)) hs hr (by omega))
  have CMA := Lib.hid (fun X v u l m (hX : Below w1.heap.size w1 X) (hs : SpA X v l) (hs2 : SpA X u m) (hr : Runy l) (hr2 : Runy m) => rmade_c l m E24 v u (.slice (some ⟨gl, 0, none⟩) 24 24) X (hF.below (HB1.out X hX)) hs hs2 (HSL.out X hX) hr hr2 E24_bd (by decide))
  have CLA := Lib.hid (fun X v1 v2 v3 l1 l2 l3 r (hX : Below w1.heap.size w1 X) (h1 : SpA X v1 l1) (k1 : Runy l1) (m1 : l1.length ≤ 1000) (h2 : SpA X v2 l2) (k2 : Runy l2) (m2 : l2.length ≤ 1000) (h3 : SpA X v3 l3) (k3 : Runy l3) (m3 : l3.length ≤ 1000) (hr : -2147483648 ≤ r ∧ r ≤ 2147483647) => rlaws_c v1 l1 v2 l2 v3 l3 r X (hF.below (HB1.out X hX)).1 h1 k1 (by omega) h2 k2 (by omega) h3 k3 (by omega) hr)
  have CW := Lib.hid (fun X (hX : Below w1.heap.size w1 X) => rworks_any X (hF.below (HB1.out X hX)).1)
  have AL : Hid (∀ (X : World) (o : Obj), Below X.heap.size X (X.alloc o)) := Lib.hid fun X o => (Below.refl _ X).alloc (Nat.le_refl _) o
  have hixl : ∀ (j : Nat), j < 24 → ∀ X : World, (Instr.indexAt 23 (.slice (some ⟨gl, 0, none⟩) 24 24) (.int .i64 (j : Nat))).run Tryz.prog X = .ok (.pointer (some ⟨gl, j, none⟩)) X := fun j hj X => by
    have q : (j : Int) < 24 := by omega
    go_simp
  have HIX := Lib.hid hixl
  have BD : ∀ (x1 x2 : Int) (W : World), (Instr.build 27 #[(0, .int .i32 x1), (1, .int .i32 x2)]).run Tryz.prog W = .ok (.agg #[.int .i32 x1, .int .i32 x2]) W := fun x1 x2 W => by go_simp
  have HBD := Lib.hid BD
  have HBS : Hid (∀ (x1 x2 : Int) (W : World), (Instr.buildSlice 25 1 #[(0, .agg #[.int .i32 x1, .int .i32 x2])]).run Tryz.prog W = .ok (.slice (some ⟨W.heap.size, 0, none⟩) 1 1) (W.alloc (.cells #[.int .i32 x1, .int .i32 x2] 27))) := Lib.hid fun x1 x2 W => by go_simp
  have HBS6 : Hid (∀ (x1 x2 : Int) (W : World), (Instr.buildSlice 25 3 #[(0, .agg #[.int .i32 x1, .int .i32 x2]), (1, .agg #[.int .i32 99, .int .i32 99]), (2, .agg #[.int .i32 x1, .int .i32 x2])]).run Tryz.prog W = .ok (.slice (some ⟨W.heap.size, 0, none⟩) 3 3) (W.alloc (.cells #[.int .i32 x1, .int .i32 x2, .int .i32 99, .int .i32 99, .int .i32 x1, .int .i32 x2] 27))) := Lib.hid fun x1 x2 W => by go_simp
  clear hce hF hP hg1 hz1 hb1 hw1 hixl BD
  go_enter Tryz.func4, Tryz.ntmps4
  go_wp2_with fail
  refine CE.out.mono ?_
  rintro e w2 ⟨rfl, hw2⟩
  obtain rfl : w1 = w2 := hw2.symm
  clear CE
  try rw [hgl]
  clear hgl
  go_wp2_with fail
  go_loopw [2, 3] (fun rv iv wr => ∃ (i m cr : Nat) (ar : Option Addr), i ≤ 24 ∧ iv = .int .i64 i ∧ rv = .slice ar m cr ∧ RgW w1 ar m cr wr ∧ m ≤ 24 * i) (fun _ iv _ => 24 - (RowKit.intOf iv).toNat)
  case atStart => exact ⟨0, 0, 0, none, by omega, rfl, rfl, ⟨[], rfl, (fun x hx => by cases hx), own_nil _ _ _ _, Below.refl _ _⟩, by omega⟩
  case round =>
    obtain ⟨i, m0, cr0, ar0, hi, rfl, rfl, hrg, hm0⟩ := hrel
    have HR0 := Lib.hid hrg
    clear hrg
    by_cases hlt : i < 24
    · have hlt' : (i : Int) < 24 := by omega
      go_wp2_with fail
      go_loopw [2, 4] (fun rv kv wr => ∃ (k m cr : Nat) (ar : Option Addr), k ≤ 24 ∧ kv = .int .i64 k ∧ rv = .slice ar m cr ∧ RgW w1 ar m cr wr ∧ m ≤ 24 * i + k) (fun _ kv _ => 24 - (RowKit.intOf kv).toNat)
      case atStart => exact ⟨0, m0, cr0, ar0, by omega, rfl, rfl, HR0.out, by omega⟩
      case round =>
        clear HR0
        obtain ⟨k, m, cr, ar, hk, rfl, rfl, hrg, hm⟩ := hrel
        have HR := Lib.hid hrg
        clear hrg hm0
        by_cases hkt : k < 24
        · have hkt' : (k : Int) < 24 := by omega
          obtain ⟨x1, hx1⟩ : ∃ x, E24[i]? = some x := ⟨_, List.getElem?_eq_getElem hlt⟩
          obtain ⟨x2, hx2⟩ : ∃ x, E24[k]? = some x := ⟨_, List.getElem?_eq_getElem hkt⟩
          have hr12 := And.intro (E24_bd x1 (List.mem_of_getElem? hx1)) (E24_bd x2 (List.mem_of_getElem? hx2))
          have HX := Lib.hid (And.intro hx1 (And.intro hx2 hr12))
          have HW1 : Hid (∀ X, Below wr.heap.size wr X → Below w1.heap.size w1 X) := Lib.hid fun X hX => by
            obtain ⟨_, _, _, _, h4⟩ := HR.out
            exact h4.trans (hX.mono h4.size)
          have SNX : Hid (∀ X Y, Below wr.heap.size wr X → Below X.heap.size X Y → Below wr.heap.size wr Y) := Lib.hid fun X Y h k => h.trans (k.mono h.size)
          have hixi := HIX.out i hlt
          have hixk := HIX.out k hkt
          have hl1 : ∀ X, Below wr.heap.size wr X → (Instr.loadAt 21 (.pointer (some ⟨gl, i, none⟩))).run Tryz.prog X = .ok (.int .i32 x1) X := fun X hX => by
            have q := HCE.out X (HW1.out X hX) i x1 hx1
            go_simp
          have hl2 : ∀ X, Below wr.heap.size wr X → (Instr.loadAt 21 (.pointer (some ⟨gl, k, none⟩))).run Tryz.prog X = .ok (.int .i32 x2) X := fun X hX => by
            have q := HCE.out X (HW1.out X hX) k x2 hx2
            go_simp
          have BD := HBD.out x1 x2
          have BS := HBS.out x1 x2
          have S9 : Below wr.heap.size wr wr.drew := below_drewN (Below.refl _ _) 1
          clear hx1 hx2 hr12
          go_wp2_with fail
          refine wp_region_guarded (fun X => Below wr.heap.size wr X) (fun U V => Below U.heap.size U V) (pS9 gl i k x1 x2) (by kernel_rfl) (by kernel_rfl) (by kernel_rfl) S9 ?hp ?hs ?hd
          case hp =>
            intro i v U V _ _ hk hv
            unfold pS9 at hv ⊢
            split at hv <;> first | exact hv | exact BlkP.below hv hk
          case hs =>
            refine GSteps.cons ?_ (GSteps.cons ?_ (GSteps.cons ?_ (GSteps.cons ?_ (GSteps.cons ?_ (GSteps.cons ?_ (GSteps.cons ?_ (GSteps.cons ?_ (GSteps.cons ?_ (GSteps.cons ?_ (GSteps.cons ?_ (GSteps.nil)))))))))))
            · intro a X hX hL hd
              refine .inl ⟨rfl, ?_⟩
              have e0 : a.eval (.tmp 1) = .slice (some ⟨gl, 0, none⟩) 24 24 := hL.far 1 (by kernel_rfl)
              exact wp_value (exec_move rfl e0) ⟨_, rfl, hX, Below.refl _ _, rfl⟩
            · intro a X hX hL hd
              refine .inl ⟨rfl, ?_⟩
              have e0 : a.eval (.tmp 3) = .int .i64 (i : Nat) := hL.far 3 (by kernel_rfl)
              exact wp_value (exec_move rfl e0) ⟨_, rfl, hX, Below.refl _ _, rfl⟩
            · intro a X hX hL hd
              refine .inl ⟨rfl, ?_⟩
              have e0 : a.eval (.tmp 22) = .slice (some ⟨gl, 0, none⟩) 24 24 := hd 0 22 (by kernel_rfl) (by kernel_rfl)
              have e1 : a.eval (.tmp 23) = .int .i64 (i : Nat) := hd 1 23 (by kernel_rfl) (by kernel_rfl)
              exact wp_value (exec_indexAddr rfl e0 e1 (hixi X)) ⟨_, rfl, hX, Below.refl _ _, rfl⟩
            · intro a X hX hL hd
              refine .inl ⟨rfl, ?_⟩
              have e0 : a.eval (.tmp 24) = .pointer (some ⟨gl, i, none⟩) := hd 2 24 (by kernel_rfl) (by kernel_rfl)
              exact wp_value (exec_load rfl e0 (hl1 X hX)) ⟨_, rfl, hX, Below.refl _ _, rfl⟩
            · intro a X hX hL hd
              refine .inl ⟨rfl, ?_⟩
              have e0 : a.eval (.tmp 1) = .slice (some ⟨gl, 0, none⟩) 24 24 := hL.far 1 (by kernel_rfl)
              exact wp_value (exec_move rfl e0) ⟨_, rfl, hX, Below.refl _ _, rfl⟩
            · intro a X hX hL hd
              refine .inl ⟨rfl, ?_⟩
              have e0 : a.eval (.tmp 4) = .int .i64 (k : Nat) := hL.far 4 (by kernel_rfl)
              exact wp_value (exec_move rfl e0) ⟨_, rfl, hX, Below.refl _ _, rfl⟩
            · intro a X hX hL hd
              refine .inl ⟨rfl, ?_⟩
              have e0 : a.eval (.tmp 26) = .slice (some ⟨gl, 0, none⟩) 24 24 := hd 4 26 (by kernel_rfl) (by kernel_rfl)
              have e1 : a.eval (.tmp 27) = .int .i64 (k : Nat) := hd 5 27 (by kernel_rfl) (by kernel_rfl)
              exact wp_value (exec_indexAddr rfl e0 e1 (hixk X)) ⟨_, rfl, hX, Below.refl _ _, rfl⟩
            · intro a X hX hL hd
              refine .inl ⟨rfl, ?_⟩
              have e0 : a.eval (.tmp 28) = .pointer (some ⟨gl, k, none⟩) := hd 6 28 (by kernel_rfl) (by kernel_rfl)
              exact wp_value (exec_load rfl e0 (hl2 X hX)) ⟨_, rfl, hX, Below.refl _ _, rfl⟩
            · intro a X hX hL hd
              refine .inl ⟨rfl, ?_⟩
              have e0 : a.eval (.tmp 25) = .int .i32 x1 := hd 3 25 (by kernel_rfl) (by kernel_rfl)
              have e1 : a.eval (.tmp 29) = .int .i32 x2 := hd 7 29 (by kernel_rfl) (by kernel_rfl)
              exact wp_value (exec_build rfl (ps := #[(0, .int .i32 x1), (1, .int .i32 x2)]) (by simp only [List.map_toArray, List.map_cons, List.map_nil, e0, e1] <;> rfl) (BD X)) ⟨_, rfl, hX, Below.refl _ _, rfl⟩
            · intro a X hX hL hd
              refine .inl ⟨rfl, ?_⟩
              have e0 : a.eval (.tmp 30) = .agg #[.int .i32 x1, .int .i32 x2] := hd 8 30 (by kernel_rfl) (by kernel_rfl)
              refine wp_value (exec_buildSlice rfl (ps := #[(0, .agg #[.int .i32 x1, .int .i32 x2])]) (by simp only [List.map_toArray, List.map_cons, List.map_nil, e0] <;> rfl) (BS X)) ⟨_, rfl, SNX.out _ _ hX (AL.out X _), AL.out X _, ⟨X.heap.size, rfl, alloc_at rfl⟩⟩
            · intro a X hX hL hd
              refine .inl ⟨rfl, ?_⟩
              have q0 : (BlkP 1 #[.int .i32 x1, .int .i32 x2]) (a.eval (.tmp 31)) X := hd 9 31 (by kernel_rfl) (by kernel_rfl)
              exact wp_value (exec_asg rfl rfl) ⟨_, rfl, hX, Below.refl _ _, q0⟩
          case hd =>
            intro a2 X hX hL hd _
            obtain ⟨gx, h5, hgx⟩ : BlkP 1 #[.int .i32 x1, .int .i32 x2] (a2.tmps.getD 5 undef) X := hd 10 5 (by kernel_rfl)
            obtain ⟨f, ha, hf⟩ := hL.out [22, 23, 24, 25, 26, 27, 28, 29, 30, 31, 5] (by kernel_rfl)
            have h5' : f 5 = .slice (some ⟨gx, 0, none⟩) 1 1 := (hf 5).trans h5
            simp only [List.foldl_cons, List.foldl_nil, List.setIfInBounds_toArray, List.set_cons_zero, List.set_cons_succ, h5'] at ha
            clear hf hd hL h5 S9 hixi hixk hl1 hl2 h5'
            subst ha
            have HGX : Hid (∀ Y, Below X.heap.size X Y → Y.heap[gx]? = some (.cells #[.int .i32 x1, .int .i32 x2] 27 (0, 0))) := Lib.hid fun Y hY => (hY.block _ (Array.getElem?_eq_some_iff.1 hgx).1).trans hgx
            have HXX := Lib.hid hX
            have SNX2 : Hid (∀ Y Z, Below X.heap.size X Y → Below Y.heap.size Y Z → Below X.heap.size X Z) := Lib.hid fun X Y h k => h.trans (k.mono h.size)
            have hix0 : ∀ Y : World, (Instr.indexAt 25 (.slice (some ⟨gx, 0, none⟩) 1 1) (.int .i64 0)).run Tryz.prog Y = .ok (.pointer (some ⟨gx, 0, none⟩)) Y := fun Y => by go_simp
            have hlx : ∀ Y, Below X.heap.size X Y → (Instr.loadAt 27 (.pointer (some ⟨gx, 0, none⟩))).run Tryz.prog Y = .ok (.agg #[.int .i32 x1, .int .i32 x2]) Y := fun Y hY => by
              have q0 : Y.cell? ⟨gx, 0, none⟩ = some (.int .i32 x1) := by rw [Lib.cell_of_heap (HGX.out Y hY)]; rfl
              have q1 : Y.cell? ⟨gx, 1, none⟩ = some (.int .i32 x2) := by rw [Lib.cell_of_heap (HGX.out Y hY)]; rfl
              go_simp
            have BD9 := HBD.out 99 99
            have BS6 := HBS6.out x1 x2
            have S10 : Below X.heap.size X X.drew := below_drewN (Below.refl _ _) 1
            clear hX hgx
            go_wp2_with fail
            refine wp_region_guarded (fun Y => Below X.heap.size X Y) (fun U V => Below U.heap.size U V) (pS10 gx x1 x2) (by kernel_rfl) (by kernel_rfl) (by kernel_rfl) S10 ?hp ?hs ?hd
            case hp =>
              intro i v U V _ _ hk hv
              unfold pS10 at hv ⊢
              split at hv <;> first | exact hv | exact BlkP.below hv hk
            case hs =>
                refine GSteps.cons ?_ (GSteps.cons ?_ (GSteps.cons ?_ (GSteps.cons ?_ (GSteps.cons ?_ (GSteps.cons ?_ (GSteps.cons ?_ (GSteps.cons ?_ (GSteps.cons ?_ (GSteps.nil)))))))))
                · intro a X hX hL hd
                  refine .inl ⟨rfl, ?_⟩
                  have e0 : a.eval (.tmp 5) = .slice (some ⟨gx, 0, none⟩) 1 1 := hL.far 5 (by kernel_rfl)
                  exact wp_value (exec_move rfl e0) ⟨_, rfl, hX, Below.refl _ _, rfl⟩
                · intro a X hX hL hd
                  refine .inl ⟨rfl, ?_⟩
                  have e0 : a.eval (.tmp 32) = .slice (some ⟨gx, 0, none⟩) 1 1 := hd 0 32 (by kernel_rfl) (by kernel_rfl)
                  exact wp_value (exec_indexAddr rfl e0 rfl (hix0 X)) ⟨_, rfl, hX, Below.refl _ _, rfl⟩
                · intro a X hX hL hd
                  refine .inl ⟨rfl, ?_⟩
                  have e0 : a.eval (.tmp 33) = .pointer (some ⟨gx, 0, none⟩) := hd 1 33 (by kernel_rfl) (by kernel_rfl)
                  exact wp_value (exec_load rfl e0 (hlx X hX)) ⟨_, rfl, hX, Below.refl _ _, rfl⟩
                · intro a X hX hL hd
                  refine .inl ⟨rfl, ?_⟩
                  exact wp_value (exec_build rfl (ps := #[(0, .int .i32 99), (1, .int .i32 99)]) (by simp only [List.map_toArray, List.map_cons, List.map_nil] <;> rfl) (BD9 X)) ⟨_, rfl, hX, Below.refl _ _, rfl⟩
                · intro a X hX hL hd
                  refine .inl ⟨rfl, ?_⟩
                  have e0 : a.eval (.tmp 5) = .slice (some ⟨gx, 0, none⟩) 1 1 := hL.far 5 (by kernel_rfl)
                  exact wp_value (exec_move rfl e0) ⟨_, rfl, hX, Below.refl _ _, rfl⟩
                · intro a X hX hL hd
                  refine .inl ⟨rfl, ?_⟩
                  have e0 : a.eval (.tmp 36) = .slice (some ⟨gx, 0, none⟩) 1 1 := hd 4 36 (by kernel_rfl) (by kernel_rfl)
                  exact wp_value (exec_indexAddr rfl e0 rfl (hix0 X)) ⟨_, rfl, hX, Below.refl _ _, rfl⟩
                · intro a X hX hL hd
                  refine .inl ⟨rfl, ?_⟩
                  have e0 : a.eval (.tmp 37) = .pointer (some ⟨gx, 0, none⟩) := hd 5 37 (by kernel_rfl) (by kernel_rfl)
                  exact wp_value (exec_load rfl e0 (hlx X hX)) ⟨_, rfl, hX, Below.refl _ _, rfl⟩
                · intro a X hX hL hd
                  refine .inl ⟨rfl, ?_⟩
                  have e0 : a.eval (.tmp 34) = .agg #[.int .i32 x1, .int .i32 x2] := hd 2 34 (by kernel_rfl) (by kernel_rfl)
                  have e1 : a.eval (.tmp 35) = .agg #[.int .i32 99, .int .i32 99] := hd 3 35 (by kernel_rfl) (by kernel_rfl)
                  have e2 : a.eval (.tmp 38) = .agg #[.int .i32 x1, .int .i32 x2] := hd 6 38 (by kernel_rfl) (by kernel_rfl)
                  refine wp_value (exec_buildSlice rfl (ps := #[(0, .agg #[.int .i32 x1, .int .i32 x2]), (1, .agg #[.int .i32 99, .int .i32 99]), (2, .agg #[.int .i32 x1, .int .i32 x2])]) (by simp only [List.map_toArray, List.map_cons, List.map_nil, e0, e1, e2] <;> rfl) (BS6 X)) ⟨_, rfl, SNX2.out _ _ hX (AL.out X _), AL.out X _, ⟨X.heap.size, rfl, alloc_at rfl⟩⟩
                · intro a X hX hL hd
                  refine .inl ⟨rfl, ?_⟩
                  have q0 : (BlkP 3 #[.int .i32 x1, .int .i32 x2, .int .i32 99, .int .i32 99, .int .i32 x1, .int .i32 x2]) (a.eval (.tmp 39)) X := hd 7 39 (by kernel_rfl) (by kernel_rfl)
                  exact wp_value (exec_asg rfl rfl) ⟨_, rfl, hX, Below.refl _ _, q0⟩
            case hd =>
              intro a3 Y hY hL hd _
              obtain ⟨gy, h6, hgy⟩ : BlkP 3 #[.int .i32 x1, .int .i32 x2, .int .i32 99, .int .i32 99, .int .i32 x1, .int .i32 x2] (a3.tmps.getD 6 undef) Y := hd 8 6 (by kernel_rfl)
              obtain ⟨f2, ha, hf⟩ := hL.out [32, 33, 34, 35, 36, 37, 38, 39, 6] (by kernel_rfl)
              have h6' : f2 6 = .slice (some ⟨gy, 0, none⟩) 3 3 := (hf 6).trans h6
              simp only [List.foldl_cons, List.foldl_nil, List.setIfInBounds_toArray, List.set_cons_zero, List.set_cons_succ, h6'] at ha
              clear hf hd hL h6 S10 hix0 hlx h6' BD9 BS6 BD BS
              subst ha
              have HY := Lib.hid (And.intro hY (And.intro (HXX.out.trans (hY.mono HXX.out.size)) hgy))
              have hs1 : SpA Y (.slice (some ⟨gx, 0, none⟩) 1 1) [(x1, x2)] := ⟨_, 1, rfl, .inr ⟨_, rfl, fun j y hj => by
                cases j with
                | zero =>
                  simp at hj
                  subst hj
                  rw [Addr.add_lit, Addr.add_lit]
                  exact ⟨by rw [Lib.cell_of_heap (HGX.out Y hY)]; rfl, by rw [Lib.cell_of_heap (HGX.out Y hY)]; rfl⟩
                | succ j => simp at hj⟩⟩
              have hs2 : SpA Y (.slice (some ⟨gy, 0, none⟩) 3 3) [(x1, x2), (99, 99), (x1, x2)] := ⟨_, 3, rfl, .inr ⟨_, rfl, fun j y hj => by
                rw [Addr.add_lit, Addr.add_lit]
                match j, hj with
                | 0, hj => simp at hj; subst hj; exact ⟨by rw [Lib.cell_of_heap hgy]; rfl, by rw [Lib.cell_of_heap hgy]; rfl⟩
                | 1, hj => simp at hj; subst hj; exact ⟨by rw [Lib.cell_of_heap hgy]; rfl, by rw [Lib.cell_of_heap hgy]; rfl⟩
                | 2, hj => simp at hj; subst hj; exact ⟨by rw [Lib.cell_of_heap hgy]; rfl, by rw [Lib.cell_of_heap hgy]; rfl⟩
                | j + 3, hj => simp at hj⟩⟩
              have hr1 : Runy [(x1, x2)] := fun x hx => by
                rw [List.mem_singleton] at hx
                subst hx
                exact HX.out.2.2
              have hr2 : Runy [(x1, x2), (99, 99), (x1, x2)] := fun x hx => by
                simp only [List.mem_cons, List.not_mem_nil, or_false] at hx
                rcases hx with rfl | rfl | rfl
                · exact HX.out.2.2
                · decide
                · exact HX.out.2.2
              have HS := Lib.hid (And.intro hs1 hs2)
              have C1 := Lib.hid (CO.out Y _ _ (HW1.out Y HY.out.2.1) hs1 hr1)
              have HRY := Lib.hid (And.intro hr1 hr2)
              clear hY hgy hs1 hs2 hr1 hr2
              go_wp2_with fail
              refine C1.out.mono ?_
              rintro e y1 ⟨rfl, hb1⟩
              have C2 := Lib.hid (CO.out y1 _ _ (HW1.out y1 (SNX.out _ _ HY.out.2.1 hb1)) (HS.out.2.below hb1) HRY.out.2)
              have HY1 := Lib.hid hb1
              clear hb1 C1
              go_wp2_with fail
              refine C2.out.mono ?_
              rintro e y2 ⟨rfl, hb2⟩
              have hb12 := HY1.out.trans (hb2.mono HY1.out.size)
              have C3 := Lib.hid (CBK.out y2 _ _ (HW1.out y2 (SNX.out _ _ HY.out.2.1 hb12)) (HS.out.1.below hb12) HRY.out.1 (by simp))
              have HY2 := Lib.hid hb12
              clear hb2 C2 hb12
              go_wp2_with fail
              refine C3.out.mono ?_
              rintro e y3 ⟨rfl, hb3⟩
              have hb13 := HY2.out.trans (hb3.mono HY2.out.size)
              have HB3 := Lib.hid (And.intro (SNX.out _ _ HY.out.2.1 hb13) (HGX.out y3 (SNX2.out _ _ HY.out.1 hb13)))
              have c1 := HCE.out y3 (HW1.out y3 HB3.out.1) i x1 HX.out.1
              have c2 := HCE.out y3 (HW1.out y3 HB3.out.1) k x2 HX.out.2.1
              clear hb3 hb13 C3
              by_cases hle : x1 ≤ x2
              · go_wp2_with fail
                go_quiet (fail)
                have hrg := (HR.out.next HB3.out.1).next (below_drewN (Below.refl _ _) nq)
                have hgx3 : (y3.drewN nq).heap[gx]? = some (.cells #[.int .i32 x1, .int .i32 x2] 27 (0, 0)) := HB3.out.2
                generalize y3.drewN nq = Z at *
                obtain ⟨Q, hq1, hq2, hq3, hq4⟩ := hrg
                obtain ⟨g2, cap2, z2, hrun2, hown2, hz2, hk2⟩ := append_spn hq3 (fun y hy => Nat.le_trans hq4.size hy) (x1, x2) (by omega)
                have q0 : Z.cell? ⟨gx, 0, none⟩ = some (.int .i32 x1) := by rw [Lib.cell_of_heap hgx3]; rfl
                have q1 : Z.cell? ⟨gx, 1, none⟩ = some (.int .i32 x2) := by rw [Lib.cell_of_heap hgx3]; rfl
                have HRun2 := Lib.hid hrun2
                have HN : Hid (RgW w1 (some ⟨g2, 0, none⟩) (m + 1) cap2 z2) := Lib.hid ⟨Q ++ [(x1, x2)], by rw [List.length_append, hq1]; rfl, fun x hx => by
                  rcases List.mem_append.1 hx with h | h
                  · exact hq2 x h
                  · exact HRY.out.1 x h, hown2, hq4.trans (hk2.below hq4.size (fun b hb => hq3.2 b hb))⟩
                clear hq1 hq2 hq3 hq4 hrun2 hown2 hz2 hk2 hgx3 c1 c2
                go_wp2_with (at_builtin; refine wpList_append_eq rfl rfl rfl rfl HRun2.out ?_)
                go_roundw
                case rel => exact ⟨k + 1, m + 1, cap2, some ⟨g2, 0, none⟩, by omega, by go_num, rfl, HN.out, by omega⟩
                case measure => simp [RowKit.intOf]; omega
              · go_wp2_with fail
                go_quiet (fail)
                have HN := Lib.hid ((HR.out.next HB3.out.1).next (below_drewN (Below.refl _ _) nq))
                clear c1 c2
                go_wp2_with fail
                go_roundw
                case rel => exact ⟨k + 1, m, cr, ar, by omega, by go_num, rfl, HN.out, by omega⟩
                case measure => simp [RowKit.intOf]; omega
        · obtain rfl : k = 24 := by omega
          go_wp2_with fail
          go_roundw
          case rel => exact ⟨i + 1, m, cr, ar, by omega, by go_num, rfl, HR.out, by omega⟩
          case measure => simp [RowKit.intOf]; omega
    · obtain rfl : i = 24 := by omega
      obtain ⟨W2, hW2⟩ : ∃ W : World, W = wr := ⟨_, rfl⟩
      rw [← hW2] at HR0
      have HW2 := Lib.hid hW2
      have hm1 : m0 ≤ 576 := by omega
      clear hm0
      go_wp2_with fail
      go_loopw [7] (fun iv X => ∃ i : Nat, i ≤ m0 ∧ iv = .int .i64 i ∧ Below W2.heap.size W2 X) (fun iv _ => m0 - (RowKit.intOf iv).toNat)
      case atStart => exact ⟨0, by omega, rfl, by rw [hW2]; exact Below.refl _ _⟩
      case round =>
        obtain ⟨i, hi, rfl, hbi⟩ := hrel
        have HBI := Lib.hid hbi
        clear hbi
        by_cases hlt : i < m0
        · have hlt' : (i : Int) < m0 := by omega
          obtain ⟨k7, hk7⟩ : ∃ n, i % 7 = n := ⟨_, rfl⟩
          have hrm : (i : Int) % 7 = (k7 : Int) := by omega
          have hrt : (i : Int).tmod 7 = (k7 : Int) := by rw [Int.tmod_eq_emod_of_nonneg (by omega)]; exact hrm
          have hk77 : k7 < 7 := by omega
          obtain ⟨gr, rfl, hmc, hcz⟩ : ∃ gr, ar0 = some ⟨gr, 0, none⟩ ∧ m0 ≤ cr0 ∧ cr0 ≤ maxLen := by
            obtain ⟨R, h1, h2, h3, h4⟩ := HR0.out
            rcases h3.1.2 with ⟨h, h0⟩ | ⟨g, cap, cur, h, _, _, hc, hm, _⟩
            · omega
            · injection h with e1 e2 e3
              subst e3
              exact ⟨g, e1, hc, hm⟩
          unfold maxLen at hcz
          have HRX : Hid (∀ X, Below W2.heap.size W2 X → ∀ j, j < m0 → ∃ x, SpA X (.slice (some ⟨gr, j * 2, none⟩) 1 (cr0 - j)) [x] ∧ Runy [x]) := Lib.hid fun X hX j hj => by
            obtain ⟨R, h1, h2, h3, h4⟩ := HR0.out.next hX
            exact spa_one h3 h1 hj h2
          clear hk7
          go_wp2_with fail
          go_loopw [8] (fun kv X => ∃ k : Nat, k ≤ m0 + 7 ∧ kv = .int .i64 k ∧ Below W2.heap.size W2 X) (fun kv _ => m0 + 7 - (RowKit.intOf kv).toNat)
          case atStart => exact ⟨k7, by omega, rfl, HBI.out⟩
          case round =>
            clear hrm hrt
            obtain ⟨k, hk, rfl, hbk⟩ := hrel
            have HBK := Lib.hid hbk
            clear hbk
            by_cases hkt : k < m0
            · have hkt' : (k : Int) < m0 := by omega
              obtain ⟨h, hh⟩ : ∃ n, i / 2 = n := ⟨_, rfl⟩
              obtain ⟨q, hq⟩ : ∃ n, k % 24 = n := ⟨_, rfl⟩
              have hhm : h < m0 := by omega
              have hq24 : q < 24 := by omega
              obtain ⟨z, hz⟩ : ∃ x, E24[q]? = some x := ⟨_, List.getElem?_eq_getElem hq24⟩
              have hzb := E24_bd z (List.mem_of_getElem? hz)
              have SNX : Hid (∀ X Y, Below wr.heap.size wr X → Below X.heap.size X Y → Below wr.heap.size wr Y) := Lib.hid fun X Y h k => h.trans (k.mono h.size)
              have HXW : Hid (∀ X, Below wr.heap.size wr X → Below w1.heap.size w1 X) := Lib.hid fun X hX => by
                obtain ⟨_, _, _, _, h4⟩ := HR0.out
                exact (h4.trans (HBK.out.mono h4.size)).trans (hX.mono (Nat.le_trans h4.size HBK.out.size))
              obtain ⟨xi, hsi, hri⟩ := HRX.out wr HBK.out i hlt
              obtain ⟨xk, hsk, hrk⟩ := HRX.out wr HBK.out k hkt
              obtain ⟨xh, hsh, hrh⟩ := HRX.out wr HBK.out h hhm
              have HSX := Lib.hid (And.intro hsi (And.intro hsk hsh))
              have CMD := Lib.hid (fun X (hX : Below wr.heap.size wr X) => CMA.out X _ _ _ _ (HXW.out X hX) (HSX.out.1.below hX) (HSX.out.2.1.below hX) hri hrk)
              have CLW := Lib.hid (fun X (hX : Below wr.heap.size wr X) => CLA.out X _ _ _ _ _ _ z (HXW.out X hX) (HSX.out.1.below hX) hri (by simp) (HSX.out.2.1.below hX) hrk (by simp) (HSX.out.2.2.below hX) hrh (by simp) hzb)
              have hsli := fun X => ksl gr m0 cr0 i hlt hmc hcz X
              have hslk := fun X => ksl gr m0 cr0 k hkt hmc hcz X
              have hslh := fun X => ksl gr m0 cr0 h hhm hmc hcz X
              have haddi := fun X x y => kadd i (by omega) X x y
              have haddk := fun X x y => kadd k (by omega) X x y
              have haddh := fun X x y => kadd h (by omega) X x y
              have hquo := fun X x y => kquo X x y i h hh (by omega)
              have hrem := fun X x y => krem X x y k q hq
              have hlen := fun X => klen gl X
              have hixq := HIX.out q hq24
              have hlz : ∀ X, Below wr.heap.size wr X → (Instr.loadAt 21 (.pointer (some ⟨gl, q, none⟩))).run Tryz.prog X = .ok (.int .i32 z) X := fun X hX => by
                have q2 := HCE.out X (HXW.out X hX) q z hz
                go_simp
              have S21 : Below wr.heap.size wr wr.drew := below_drewN (Below.refl _ _) 1
              clear hsi hsk hsh hri hrk hrh hh hq
              go_wp2_with fail
              refine wp_region_guarded (fun X => Below wr.heap.size wr X) (fun U V => Below U.heap.size U V) (pS21 gl gr m0 cr0 i k h q z) (by kernel_rfl) (by kernel_rfl) (by kernel_rfl) S21 ?hp ?hs ?hd
              case hp =>
                intro i v U V _ _ hk hv
                unfold pS21 at hv ⊢
                split at hv <;> exact hv
              case hs =>
                refine GSteps.cons ?_ (GSteps.cons ?_ (GSteps.cons ?_ (GSteps.cons ?_ (GSteps.cons ?_ (GSteps.cons ?_ (GSteps.cons ?_ (GSteps.cons ?_ (GSteps.cons ?_ (GSteps.cons ?_ (GSteps.cons ?_ (GSteps.cons ?_ (GSteps.cons ?_ (GSteps.cons ?_ (GSteps.cons ?_ (GSteps.cons ?_ (GSteps.cons ?_ (GSteps.cons ?_ (GSteps.cons ?_ (GSteps.cons ?_ (GSteps.cons ?_ (GSteps.cons ?_ (GSteps.cons ?_ (GSteps.cons ?_ (GSteps.cons ?_ (GSteps.cons ?_ (GSteps.cons ?_ (GSteps.cons ?_ (GSteps.cons ?_ (GSteps.cons ?_ (GSteps.cons ?_ (GSteps.cons ?_ (GSteps.cons ?_ (GSteps.cons ?_ (GSteps.cons ?_ (GSteps.cons ?_ (GSteps.cons ?_ (GSteps.cons ?_ (GSteps.cons ?_ (GSteps.cons ?_ (GSteps.cons ?_ (GSteps.nil)))))))))))))))))))))))))))))))))))))))))
                · intro a X hX hL hd
                  refine .inl ⟨rfl, ?_⟩
                  have e0 : a.eval (.tmp 2) = .slice (some ⟨gr, 0, none⟩) m0 cr0 := hL.far 2 (by kernel_rfl)
                  exact wp_value (exec_move rfl e0) ⟨_, rfl, hX, Below.refl _ _, rfl⟩
                · intro a X hX hL hd
                  refine .inl ⟨rfl, ?_⟩
                  have e0 : a.eval (.tmp 7) = .int .i64 (i : Nat) := hL.far 7 (by kernel_rfl)
                  exact wp_value (exec_move rfl e0) ⟨_, rfl, hX, Below.refl _ _, rfl⟩
                · intro a X hX hL hd
                  refine .inl ⟨rfl, ?_⟩
                  have e0 : a.eval (.tmp 7) = .int .i64 (i : Nat) := hL.far 7 (by kernel_rfl)
                  exact wp_value (exec_move rfl e0) ⟨_, rfl, hX, Below.refl _ _, rfl⟩
                · intro a X hX hL hd
                  refine .inl ⟨rfl, ?_⟩
                  have e0 : a.eval (.tmp 86) = .int .i64 (i : Nat) := hd 2 86 (by kernel_rfl) (by kernel_rfl)
                  exact wp_value (exec_binop rfl e0 rfl (haddi X _ _)) ⟨_, rfl, hX, Below.refl _ _, rfl⟩
                · intro a X hX hL hd
                  refine .inl ⟨rfl, ?_⟩
                  have e0 : a.eval (.tmp 84) = .slice (some ⟨gr, 0, none⟩) m0 cr0 := hd 0 84 (by kernel_rfl) (by kernel_rfl)
                  have e1 : a.eval (.tmp 85) = .int .i64 (i : Nat) := hd 1 85 (by kernel_rfl) (by kernel_rfl)
                  have e2 : a.eval (.tmp 87) = .int .i64 ((i + 1 : Nat) : Int) := hd 3 87 (by kernel_rfl) (by kernel_rfl)
                  exact wp_value (exec_slice rfl e0 (by rw [Option.map_some, e1]) (by rw [Option.map_some, e2]) rfl (hsli X)) ⟨_, rfl, hX, Below.refl _ _, rfl⟩
                · intro a X hX hL hd
                  refine .inl ⟨rfl, ?_⟩
                  have e0 : a.eval (.tmp 2) = .slice (some ⟨gr, 0, none⟩) m0 cr0 := hL.far 2 (by kernel_rfl)
                  exact wp_value (exec_move rfl e0) ⟨_, rfl, hX, Below.refl _ _, rfl⟩
                · intro a X hX hL hd
                  refine .inl ⟨rfl, ?_⟩
                  have e0 : a.eval (.tmp 8) = .int .i64 (k : Nat) := hL.far 8 (by kernel_rfl)
                  exact wp_value (exec_move rfl e0) ⟨_, rfl, hX, Below.refl _ _, rfl⟩
                · intro a X hX hL hd
                  refine .inl ⟨rfl, ?_⟩
                  have e0 : a.eval (.tmp 8) = .int .i64 (k : Nat) := hL.far 8 (by kernel_rfl)
                  exact wp_value (exec_move rfl e0) ⟨_, rfl, hX, Below.refl _ _, rfl⟩
                · intro a X hX hL hd
                  refine .inl ⟨rfl, ?_⟩
                  have e0 : a.eval (.tmp 91) = .int .i64 (k : Nat) := hd 7 91 (by kernel_rfl) (by kernel_rfl)
                  exact wp_value (exec_binop rfl e0 rfl (haddk X _ _)) ⟨_, rfl, hX, Below.refl _ _, rfl⟩
                · intro a X hX hL hd
                  refine .inl ⟨rfl, ?_⟩
                  have e0 : a.eval (.tmp 89) = .slice (some ⟨gr, 0, none⟩) m0 cr0 := hd 5 89 (by kernel_rfl) (by kernel_rfl)
                  have e1 : a.eval (.tmp 90) = .int .i64 (k : Nat) := hd 6 90 (by kernel_rfl) (by kernel_rfl)
                  have e2 : a.eval (.tmp 92) = .int .i64 ((k + 1 : Nat) : Int) := hd 8 92 (by kernel_rfl) (by kernel_rfl)
                  exact wp_value (exec_slice rfl e0 (by rw [Option.map_some, e1]) (by rw [Option.map_some, e2]) rfl (hslk X)) ⟨_, rfl, hX, Below.refl _ _, rfl⟩
                · intro a X hX hL hd
                  refine .inl ⟨rfl, ?_⟩
                  have e0 : a.eval (.tmp 1) = .slice (some ⟨gl, 0, none⟩) 24 24 := hL.far 1 (by kernel_rfl)
                  exact wp_value (exec_move rfl e0) ⟨_, rfl, hX, Below.refl _ _, rfl⟩
                · intro a X hX hL hd
                  refine .inl ⟨rfl, ?_⟩
                  have e0 : a.eval (.tmp 88) = .slice (some ⟨gr, i * 2, none⟩) 1 (cr0 - i) := hd 4 88 (by kernel_rfl) (by kernel_rfl)
                  have e1 : a.eval (.tmp 93) = .slice (some ⟨gr, k * 2, none⟩) 1 (cr0 - k) := hd 9 93 (by kernel_rfl) (by kernel_rfl)
                  have e2 : a.eval (.tmp 94) = .slice (some ⟨gl, 0, none⟩) 24 24 := hd 10 94 (by kernel_rfl) (by kernel_rfl)
                  refine wp_enter (exec_call (vs := #[.slice (some ⟨gr, i * 2, none⟩) 1 (cr0 - i), .slice (some ⟨gr, k * 2, none⟩) 1 (cr0 - k), .slice (some ⟨gl, 0, none⟩) 24 24]) rfl (by simp only [List.map_toArray, List.map_cons, List.map_nil, e0, e1, e2]) Tryz.func9 rfl rfl) ?_
                  refine (CMD.out X hX).mono ?_
                  rintro e w' ⟨rfl, hb⟩
                  exact ⟨_, rfl, _, rfl, SNX.out _ _ hX hb, hb, rfl⟩
                · intro a X hX hL hd
                  refine .inl ⟨rfl, ?_⟩
                  have e0 : a.eval (.tmp 95) = .bool true := hd 11 95 (by kernel_rfl) (by kernel_rfl)
                  exact wp_value (exec_unop rfl e0 rfl) ⟨_, rfl, hX, Below.refl _ _, rfl⟩
                · intro a X hX hL hd
                  refine .inl ⟨rfl, ?_⟩
                  have e0 : a.eval (.tmp 96) = .bool false := hd 12 96 (by kernel_rfl) (by kernel_rfl)
                  exact wp_value (exec_move rfl e0) ⟨_, rfl, hX, Below.refl _ _, rfl⟩
                · intro a X hX hL hd
                  refine .inl ⟨wanted_true 97 rfl (by kernel_rfl) (hd 13 97 (by kernel_rfl) (by kernel_rfl)), ?_⟩
                  have e0 : a.eval (.tmp 2) = .slice (some ⟨gr, 0, none⟩) m0 cr0 := hL.far 2 (by kernel_rfl)
                  exact wp_value (exec_move rfl e0) ⟨_, rfl, hX, Below.refl _ _, rfl⟩
                · intro a X hX hL hd
                  refine .inl ⟨wanted_true 97 rfl (by kernel_rfl) (hd 13 97 (by kernel_rfl) (by kernel_rfl)), ?_⟩
                  have e0 : a.eval (.tmp 7) = .int .i64 (i : Nat) := hL.far 7 (by kernel_rfl)
                  exact wp_value (exec_move rfl e0) ⟨_, rfl, hX, Below.refl _ _, rfl⟩
                · intro a X hX hL hd
                  refine .inl ⟨wanted_true 97 rfl (by kernel_rfl) (hd 13 97 (by kernel_rfl) (by kernel_rfl)), ?_⟩
                  have e0 : a.eval (.tmp 7) = .int .i64 (i : Nat) := hL.far 7 (by kernel_rfl)
                  exact wp_value (exec_move rfl e0) ⟨_, rfl, hX, Below.refl _ _, rfl⟩
                · intro a X hX hL hd
                  refine .inl ⟨wanted_true 97 rfl (by kernel_rfl) (hd 13 97 (by kernel_rfl) (by kernel_rfl)), ?_⟩
                  have e0 : a.eval (.tmp 100) = .int .i64 (i : Nat) := hd 16 100 (by kernel_rfl) (by kernel_rfl)
                  exact wp_value (exec_binop rfl e0 rfl (haddi X _ _)) ⟨_, rfl, hX, Below.refl _ _, rfl⟩
                · intro a X hX hL hd
                  refine .inl ⟨wanted_true 97 rfl (by kernel_rfl) (hd 13 97 (by kernel_rfl) (by kernel_rfl)), ?_⟩
                  have e0 : a.eval (.tmp 98) = .slice (some ⟨gr, 0, none⟩) m0 cr0 := hd 14 98 (by kernel_rfl) (by kernel_rfl)
                  have e1 : a.eval (.tmp 99) = .int .i64 (i : Nat) := hd 15 99 (by kernel_rfl) (by kernel_rfl)
                  have e2 : a.eval (.tmp 101) = .int .i64 ((i + 1 : Nat) : Int) := hd 17 101 (by kernel_rfl) (by kernel_rfl)
                  exact wp_value (exec_slice rfl e0 (by rw [Option.map_some, e1]) (by rw [Option.map_some, e2]) rfl (hsli X)) ⟨_, rfl, hX, Below.refl _ _, rfl⟩
                · intro a X hX hL hd
                  refine .inl ⟨wanted_true 97 rfl (by kernel_rfl) (hd 13 97 (by kernel_rfl) (by kernel_rfl)), ?_⟩
                  have e0 : a.eval (.tmp 2) = .slice (some ⟨gr, 0, none⟩) m0 cr0 := hL.far 2 (by kernel_rfl)
                  exact wp_value (exec_move rfl e0) ⟨_, rfl, hX, Below.refl _ _, rfl⟩
                · intro a X hX hL hd
                  refine .inl ⟨wanted_true 97 rfl (by kernel_rfl) (hd 13 97 (by kernel_rfl) (by kernel_rfl)), ?_⟩
                  have e0 : a.eval (.tmp 8) = .int .i64 (k : Nat) := hL.far 8 (by kernel_rfl)
                  exact wp_value (exec_move rfl e0) ⟨_, rfl, hX, Below.refl _ _, rfl⟩
                · intro a X hX hL hd
                  refine .inl ⟨wanted_true 97 rfl (by kernel_rfl) (hd 13 97 (by kernel_rfl) (by kernel_rfl)), ?_⟩
                  have e0 : a.eval (.tmp 8) = .int .i64 (k : Nat) := hL.far 8 (by kernel_rfl)
                  exact wp_value (exec_move rfl e0) ⟨_, rfl, hX, Below.refl _ _, rfl⟩
                · intro a X hX hL hd
                  refine .inl ⟨wanted_true 97 rfl (by kernel_rfl) (hd 13 97 (by kernel_rfl) (by kernel_rfl)), ?_⟩
                  have e0 : a.eval (.tmp 105) = .int .i64 (k : Nat) := hd 21 105 (by kernel_rfl) (by kernel_rfl)
                  exact wp_value (exec_binop rfl e0 rfl (haddk X _ _)) ⟨_, rfl, hX, Below.refl _ _, rfl⟩
                · intro a X hX hL hd
                  refine .inl ⟨wanted_true 97 rfl (by kernel_rfl) (hd 13 97 (by kernel_rfl) (by kernel_rfl)), ?_⟩
                  have e0 : a.eval (.tmp 103) = .slice (some ⟨gr, 0, none⟩) m0 cr0 := hd 19 103 (by kernel_rfl) (by kernel_rfl)
                  have e1 : a.eval (.tmp 104) = .int .i64 (k : Nat) := hd 20 104 (by kernel_rfl) (by kernel_rfl)
                  have e2 : a.eval (.tmp 106) = .int .i64 ((k + 1 : Nat) : Int) := hd 22 106 (by kernel_rfl) (by kernel_rfl)
                  exact wp_value (exec_slice rfl e0 (by rw [Option.map_some, e1]) (by rw [Option.map_some, e2]) rfl (hslk X)) ⟨_, rfl, hX, Below.refl _ _, rfl⟩
                · intro a X hX hL hd
                  refine .inl ⟨wanted_true 97 rfl (by kernel_rfl) (hd 13 97 (by kernel_rfl) (by kernel_rfl)), ?_⟩
                  have e0 : a.eval (.tmp 2) = .slice (some ⟨gr, 0, none⟩) m0 cr0 := hL.far 2 (by kernel_rfl)
                  exact wp_value (exec_move rfl e0) ⟨_, rfl, hX, Below.refl _ _, rfl⟩
                · intro a X hX hL hd
                  refine .inl ⟨wanted_true 97 rfl (by kernel_rfl) (hd 13 97 (by kernel_rfl) (by kernel_rfl)), ?_⟩
                  have e0 : a.eval (.tmp 7) = .int .i64 (i : Nat) := hL.far 7 (by kernel_rfl)
                  exact wp_value (exec_move rfl e0) ⟨_, rfl, hX, Below.refl _ _, rfl⟩
                · intro a X hX hL hd
                  refine .inl ⟨wanted_true 97 rfl (by kernel_rfl) (hd 13 97 (by kernel_rfl) (by kernel_rfl)), ?_⟩
                  have e0 : a.eval (.tmp 109) = .int .i64 (i : Nat) := hd 25 109 (by kernel_rfl) (by kernel_rfl)
                  exact wp_value (exec_binop rfl e0 rfl (hquo X _ _)) ⟨_, rfl, hX, Below.refl _ _, rfl⟩
                · intro a X hX hL hd
                  refine .inl ⟨wanted_true 97 rfl (by kernel_rfl) (hd 13 97 (by kernel_rfl) (by kernel_rfl)), ?_⟩
                  have e0 : a.eval (.tmp 7) = .int .i64 (i : Nat) := hL.far 7 (by kernel_rfl)
                  exact wp_value (exec_move rfl e0) ⟨_, rfl, hX, Below.refl _ _, rfl⟩
                · intro a X hX hL hd
                  refine .inl ⟨wanted_true 97 rfl (by kernel_rfl) (hd 13 97 (by kernel_rfl) (by kernel_rfl)), ?_⟩
                  have e0 : a.eval (.tmp 111) = .int .i64 (i : Nat) := hd 27 111 (by kernel_rfl) (by kernel_rfl)
                  exact wp_value (exec_binop rfl e0 rfl (hquo X _ _)) ⟨_, rfl, hX, Below.refl _ _, rfl⟩
                · intro a X hX hL hd
                  refine .inl ⟨wanted_true 97 rfl (by kernel_rfl) (hd 13 97 (by kernel_rfl) (by kernel_rfl)), ?_⟩
                  have e0 : a.eval (.tmp 112) = .int .i64 (h : Nat) := hd 28 112 (by kernel_rfl) (by kernel_rfl)
                  exact wp_value (exec_binop rfl e0 rfl (haddh X _ _)) ⟨_, rfl, hX, Below.refl _ _, rfl⟩
                · intro a X hX hL hd
                  refine .inl ⟨wanted_true 97 rfl (by kernel_rfl) (hd 13 97 (by kernel_rfl) (by kernel_rfl)), ?_⟩
                  have e0 : a.eval (.tmp 108) = .slice (some ⟨gr, 0, none⟩) m0 cr0 := hd 24 108 (by kernel_rfl) (by kernel_rfl)
                  have e1 : a.eval (.tmp 110) = .int .i64 (h : Nat) := hd 26 110 (by kernel_rfl) (by kernel_rfl)
                  have e2 : a.eval (.tmp 113) = .int .i64 ((h + 1 : Nat) : Int) := hd 29 113 (by kernel_rfl) (by kernel_rfl)
                  exact wp_value (exec_slice rfl e0 (by rw [Option.map_some, e1]) (by rw [Option.map_some, e2]) rfl (hslh X)) ⟨_, rfl, hX, Below.refl _ _, rfl⟩
                · intro a X hX hL hd
                  refine .inl ⟨wanted_true 97 rfl (by kernel_rfl) (hd 13 97 (by kernel_rfl) (by kernel_rfl)), ?_⟩
                  have e0 : a.eval (.tmp 1) = .slice (some ⟨gl, 0, none⟩) 24 24 := hL.far 1 (by kernel_rfl)
                  exact wp_value (exec_move rfl e0) ⟨_, rfl, hX, Below.refl _ _, rfl⟩
                · intro a X hX hL hd
                  refine .inl ⟨wanted_true 97 rfl (by kernel_rfl) (hd 13 97 (by kernel_rfl) (by kernel_rfl)), ?_⟩
                  have e0 : a.eval (.tmp 8) = .int .i64 (k : Nat) := hL.far 8 (by kernel_rfl)
                  exact wp_value (exec_move rfl e0) ⟨_, rfl, hX, Below.refl _ _, rfl⟩
                · intro a X hX hL hd
                  refine .inl ⟨wanted_true 97 rfl (by kernel_rfl) (hd 13 97 (by kernel_rfl) (by kernel_rfl)), ?_⟩
                  have e0 : a.eval (.tmp 1) = .slice (some ⟨gl, 0, none⟩) 24 24 := hL.far 1 (by kernel_rfl)
                  exact wp_value (exec_move rfl e0) ⟨_, rfl, hX, Below.refl _ _, rfl⟩
                · intro a X hX hL hd
                  refine .inl ⟨wanted_true 97 rfl (by kernel_rfl) (hd 13 97 (by kernel_rfl) (by kernel_rfl)), ?_⟩
                  have e0 : a.eval (.tmp 117) = .slice (some ⟨gl, 0, none⟩) 24 24 := hd 33 117 (by kernel_rfl) (by kernel_rfl)
                  exact wp_len_run rfl e0 (hlen X) ⟨_, rfl, hX, Below.refl _ _, rfl⟩
                · intro a X hX hL hd
                  refine .inl ⟨wanted_true 97 rfl (by kernel_rfl) (hd 13 97 (by kernel_rfl) (by kernel_rfl)), ?_⟩
                  have e0 : a.eval (.tmp 116) = .int .i64 (k : Nat) := hd 32 116 (by kernel_rfl) (by kernel_rfl)
                  have e1 : a.eval (.tmp 118) = .int .i64 24 := hd 34 118 (by kernel_rfl) (by kernel_rfl)
                  exact wp_value (exec_binop rfl e0 e1 (hrem X _ _)) ⟨_, rfl, hX, Below.refl _ _, rfl⟩
                · intro a X hX hL hd
                  refine .inl ⟨wanted_true 97 rfl (by kernel_rfl) (hd 13 97 (by kernel_rfl) (by kernel_rfl)), ?_⟩
                  have e0 : a.eval (.tmp 115) = .slice (some ⟨gl, 0, none⟩) 24 24 := hd 31 115 (by kernel_rfl) (by kernel_rfl)
                  have e1 : a.eval (.tmp 119) = .int .i64 (q : Nat) := hd 35 119 (by kernel_rfl) (by kernel_rfl)
                  exact wp_value (exec_indexAddr rfl e0 e1 (hixq X)) ⟨_, rfl, hX, Below.refl _ _, rfl⟩
                · intro a X hX hL hd
                  refine .inl ⟨wanted_true 97 rfl (by kernel_rfl) (hd 13 97 (by kernel_rfl) (by kernel_rfl)), ?_⟩
                  have e0 : a.eval (.tmp 120) = .pointer (some ⟨gl, q, none⟩) := hd 36 120 (by kernel_rfl) (by kernel_rfl)
                  exact wp_value (exec_load rfl e0 (hlz X hX)) ⟨_, rfl, hX, Below.refl _ _, rfl⟩
                · intro a X hX hL hd
                  refine .inl ⟨wanted_true 97 rfl (by kernel_rfl) (hd 13 97 (by kernel_rfl) (by kernel_rfl)), ?_⟩
                  have e0 : a.eval (.tmp 102) = .slice (some ⟨gr, i * 2, none⟩) 1 (cr0 - i) := hd 18 102 (by kernel_rfl) (by kernel_rfl)
                  have e1 : a.eval (.tmp 107) = .slice (some ⟨gr, k * 2, none⟩) 1 (cr0 - k) := hd 23 107 (by kernel_rfl) (by kernel_rfl)
                  have e2 : a.eval (.tmp 114) = .slice (some ⟨gr, h * 2, none⟩) 1 (cr0 - h) := hd 30 114 (by kernel_rfl) (by kernel_rfl)
                  have e3 : a.eval (.tmp 121) = .int .i32 z := hd 37 121 (by kernel_rfl) (by kernel_rfl)
                  refine wp_enter (exec_call (vs := #[.slice (some ⟨gr, i * 2, none⟩) 1 (cr0 - i), .slice (some ⟨gr, k * 2, none⟩) 1 (cr0 - k), .slice (some ⟨gr, h * 2, none⟩) 1 (cr0 - h), .int .i32 z]) rfl (by simp only [List.map_toArray, List.map_cons, List.map_nil, e0, e1, e2, e3]) Tryz.func10 rfl rfl) ?_
                  refine (CLW.out X hX).mono ?_
                  rintro e w' ⟨rfl, hb⟩
                  exact ⟨_, rfl, _, rfl, SNX.out _ _ hX hb, hb, rfl⟩
                · intro a X hX hL hd
                  refine .inl ⟨wanted_true 97 rfl (by kernel_rfl) (hd 13 97 (by kernel_rfl) (by kernel_rfl)), ?_⟩
                  have e0 : a.eval (.tmp 122) = .bool true := hd 38 122 (by kernel_rfl) (by kernel_rfl)
                  exact wp_value (exec_unop rfl e0 rfl) ⟨_, rfl, hX, Below.refl _ _, rfl⟩
                · intro a X hX hL hd
                  refine .inl ⟨rfl, ?_⟩
                  have e0 : a.eval (.tmp 97) = .bool false := hd 13 97 (by kernel_rfl) (by kernel_rfl)
                  have e1 : a.eval (.tmp 123) = .bool false := hd 39 123 (by kernel_rfl) (by kernel_rfl)
                  exact wp_value (exec_pick rfl e0 rfl e1) ⟨_, rfl, hX, Below.refl _ _, rfl⟩
              case hd =>
                intro a2 X hX hL hd _
                have h124 : a2.tmps.getD 124 undef = .bool false := hd 40 124 (by kernel_rfl)
                obtain ⟨f, ha, hf⟩ := hL.out [84, 85, 86, 87, 88, 89, 90, 91, 92, 93, 94, 95, 96, 97, 98, 99, 100, 101, 102, 103, 104, 105, 106, 107, 108, 109, 110, 111, 112, 113, 114, 115, 116, 117, 118, 119, 120, 121, 122, 123, 124] (by kernel_rfl)
                have h124' : f 124 = .bool false := (hf 124).trans h124
                simp only [List.foldl_cons, List.foldl_nil, List.setIfInBounds_toArray, List.set_cons_zero, List.set_cons_succ, h124'] at ha
                clear hf hd hL h124 S21 h124' hsli hslk hslh haddi haddk haddh hquo hrem hlen hixq hlz
                subst ha
                have HN := Lib.hid (HBK.out.trans (hX.mono HBK.out.size))
                clear hX
                go_wp2_with fail
                go_roundw
                case rel => exact ⟨k + 7, by omega, by go_num, HN.out⟩
                case measure => simp [RowKit.intOf]; omega
            · have hkt' : ¬ (k : Int) < m0 := by omega
              go_wp2_with fail
              go_roundw
              case rel => exact ⟨i + 1, by omega, by go_num, HBK.out⟩
              case measure => simp [RowKit.intOf]; omega
        · have hlt' : ¬ (i : Int) < m0 := by omega
          obtain rfl : i = m0 := by omega
          have HXW : Hid (Below w1.heap.size w1 wr) := Lib.hid (by
            obtain ⟨_, _, _, _, h4⟩ := HR0.out
            exact h4.trans (HBI.out.mono h4.size))
          have C1 := Lib.hid (CO.out wr (.slice none 0 0) [] HXW.out ⟨none, 0, rfl, .inl rfl⟩ (fun x hx => by cases hx))
          go_wp2_with fail
          refine C1.out.mono ?_
          rintro e y1 ⟨rfl, hb1⟩
          have HY1 := Lib.hid (HXW.out.trans (hb1.mono HXW.out.size))
          have C2 := Lib.hid (CMA.out y1 (.slice none 0 0) (.slice none 0 0) [] [] HY1.out ⟨none, 0, rfl, .inl rfl⟩ ⟨none, 0, rfl, .inl rfl⟩ (fun x hx => by cases hx) (fun x hx => by cases hx))
          clear hb1 C1
          go_wp2_with fail
          refine C2.out.mono ?_
          rintro e y2 ⟨rfl, hb2⟩
          have HY2 := Lib.hid (HY1.out.trans (hb2.mono HY1.out.size))
          have C3 := Lib.hid (CW.out y2 HY2.out)
          clear hb2 C2
          go_wp2_with fail
          refine C3.out.mono ?_
          rintro e y3 ⟨rfl, hb3⟩
          have HY3 := Lib.hid (HY2.out.trans (hb3.mono HY2.out.size))
          clear hb3 C3
          go_wp2_with fail
          go_ret
          exact ⟨rfl, HB1.out _ HY3.out⟩
end Go.Proofs.YtjbkpcdpdifpnaaGreatDoor
