/- RangesKnown's texts: printed ones, spoilt (written by gen_yl.py). -/
import Derived.Test.YtjbkpcdpdifpnaaGreatDoorRy
import Derived.Test.YtjbkpcdpdifpnaaGreatDoorHg
import Derived.Test.YtjbkpcdpdifpnaaGreatDoorK21
namespace Go.Proofs.YtjbkpcdpdifpnaaGreatDoor
open Go Go.RowKit Go.Kt Go.Kt.Rg
attribute [local go_sem] Oper.semAt_some

def S26 : List ByteArray := [⟨#[]⟩, ⟨#[91]⟩, ⟨#[93]⟩, ⟨#[91, 93]⟩, ⟨#[91, 93, 120]⟩, ⟨#[91, 97, 93]⟩, ⟨#[91, 92, 117, 123, 100, 56, 48, 48, 125, 93]⟩, ⟨#[91, 92, 117, 123, 48, 54, 49, 125, 93]⟩, ⟨#[91, 92, 117, 123, 54, 49, 125, 45, 93]⟩, ⟨#[91, 92, 117, 123, 54, 50, 125, 45, 92, 117, 123, 54, 49, 125, 93]⟩, ⟨#[91, 92, 117, 123, 54, 49, 125, 45, 92, 117, 123, 54, 49, 125, 93]⟩, ⟨#[91, 92, 117, 123, 54, 49, 125, 92, 117, 123, 54, 50, 125, 93]⟩, ⟨#[91, 92, 117, 123, 54, 49, 125, 92, 117, 123, 54, 51, 125, 92, 120, 70, 70, 93]⟩, ⟨#[91, 92, 120, 55, 102, 93]⟩, ⟨#[91, 92, 120, 56, 48, 93]⟩, ⟨#[91, 92, 117, 123, 49, 49, 48, 48, 56, 48, 125, 93]⟩, ⟨#[91, 92, 117, 123, 125, 93]⟩, ⟨#[91, 92, 117, 123, 48, 48, 48, 48, 48, 48, 49, 125, 93]⟩, ⟨#[91, 92, 117, 123, 48, 125, 93]⟩, ⟨#[91, 92, 117, 123, 48, 48, 125, 93]⟩, ⟨#[91, 92, 117, 123, 49, 48, 102, 102, 102, 102, 125, 92, 120, 56, 48, 93]⟩, ⟨#[91, 92, 117, 123, 100, 55, 102, 102, 125, 92, 117, 123, 101, 48, 48, 48, 125, 93]⟩, ⟨#[91, 92, 117, 123, 100, 55, 102, 101, 125, 45, 92, 117, 123, 101, 48, 48, 48, 125, 92, 120, 56, 49, 45, 92, 120, 102, 102, 93]⟩, ⟨#[91, 92, 117, 123, 49, 48, 70, 70, 70, 70, 125, 93]⟩, ⟨#[91, 92, 117, 123, 102, 102, 102, 102, 102, 102, 102, 102, 125, 93]⟩, ⟨#[91, 92, 117, 123, 49, 48, 48, 48, 48, 48, 48, 54, 49, 125, 93]⟩]
theorem S26_bd : ∀ s ∈ S26, s.size ≤ 100 := by decide
def C18 : List UInt8 := [0, 91, 93, 45, 92, 117, 120, 123, 125, 48, 57, 97, 102, 103, 65, 47, 58, 255]
theorem scat (X : World) (x y : Operand) (a b : ByteArray) (h : a.size + b.size ≤ 1000) : (do eqGuard .add 9 x y (.string a) (.string b); binOp .add 9 (.string a) (.string b) : Sem Value).run Tryz.prog X = .ok (.string (a ++ b)) X := by
  have h2 : ¬ a.size + b.size > 9223372036854775807 := by omega
  go_simp
theorem slTo (T : ByteArray) (i : Nat) (hT : i ≤ T.size) (X : World) : (Instr.sliceAt 9 (.string T) none (some (.int .i64 (i : Nat))) none).run Tryz.prog X = .ok (.string (T.extract 0 i)) X := by
  have q : (i : Int) ≤ T.size := by omega
  go_simp
theorem slFrom (T : ByteArray) (i : Nat) (hT : i ≤ T.size) (X : World) : (Instr.sliceAt 9 (.string T) (some (.int .i64 (i : Nat))) none none).run Tryz.prog X = .ok (.string (T.extract i T.size)) X := by
  have q : (i : Int) ≤ T.size := by omega
  go_simp
theorem tadd (i : Nat) (hi : i < 30) (X : World) (x y : Operand) : (do eqGuard .add 3 x y (.int .i64 (i : Nat)) (.int .i64 1); binOp .add 3 (.int .i64 (i : Nat)) (.int .i64 1) : Sem Value).run Tryz.prog X = .ok (.int .i64 ((i + 1 : Nat) : Int)) X := by
  have e : IntKind.i64.wrap ((i : Int) + 1) = ((i + 1 : Nat) : Int) := by rw [IntWalk.i64_in _ (by omega)]; omega
  go_simp
theorem newB1 {c : UInt8} {w : World} : OwnB (fun b => w.heap.size ≤ b) (.slice (some ⟨w.heap.size, 0, none⟩) 1 1) [c] (w.alloc (.cells #[.int .u8 (c.toNat : Int)] 5)) := by
  refine ⟨⟨by simp [Lib.byteCells], .inr ⟨w.heap.size, 1, #[.int .u8 (c.toNat : Int)], (0, 0), rfl, Nat.zero_le _, World.alloc_heap_new w _, Nat.zero_le _, Nat.le_refl _, by unfold maxLen; omega, by simp, by simp [Lib.byteCells]⟩⟩, fun g hg => ?_⟩
  have : w.heap.size = g := by simpa [Value.ownBlock] using hg
  omega
def pT11 (i : Nat) (T sA sB sC : ByteArray) (jx : Nat) (v : Value) (_W : World) : Prop := match jx with
  | 0 => v = .string T
  | 1 => v = .int .i64 (i : Nat)
  | 2 => v = .string sA
  | 3 => v = .bool true
  | 4 => v = .bool false
  | 5 => v = .bool false
  | 6 => v = .string T
  | 7 => v = .int .i64 (i : Nat)
  | 8 => v = .string sB
  | 9 => v = .bool true
  | 10 => v = .bool false
  | 11 => v = .bool false
  | 12 => v = .bool false
  | 13 => v = .string T
  | 14 => v = .int .i64 (i : Nat)
  | 15 => v = .string sA
  | 16 => v = .string T
  | 17 => v = .int .i64 (i : Nat)
  | 18 => v = .int .i64 ((i + 1 : Nat) : Int)
  | 19 => v = .string sC
  | 20 => v = .string (sA ++ sC)
  | 21 => v = .bool true
  | 22 => v = .bool false
  | 23 => v = .bool false
  | _ => True
def pT17 (i : Nat) (T b1 sA sB sC : ByteArray) (jx : Nat) (v : Value) (_W : World) : Prop := match jx with
  | 0 => v = .string T
  | 1 => v = .int .i64 (i : Nat)
  | 2 => v = .string sA
  | 3 => v = .string b1
  | 4 => v = .string (sA ++ b1)
  | 5 => v = .string T
  | 6 => v = .int .i64 (i : Nat)
  | 7 => v = .int .i64 ((i + 1 : Nat) : Int)
  | 8 => v = .string sC
  | 9 => v = .string (sA ++ b1 ++ sC)
  | 10 => v = .bool true
  | 11 => v = .bool false
  | 12 => v = .bool false
  | 13 => v = .string T
  | 14 => v = .int .i64 (i : Nat)
  | 15 => v = .string sA
  | 16 => v = .string b1
  | 17 => v = .string (sA ++ b1)
  | 18 => v = .string T
  | 19 => v = .int .i64 (i : Nat)
  | 20 => v = .string sB
  | 21 => v = .string (sA ++ b1 ++ sB)
  | 22 => v = .bool true
  | 23 => v = .bool false
  | 24 => v = .bool false
  | 25 => v = .bool false
  | 26 => v = .string T
  | 27 => v = .int .i64 (i : Nat)
  | 28 => v = .string sA
  | 29 => v = .string b1
  | 30 => v = .string (sA ++ b1)
  | 31 => v = .string T
  | 32 => v = .int .i64 (i : Nat)
  | 33 => v = .int .i64 ((i + 1 : Nat) : Int)
  | 34 => v = .string sC
  | 35 => v = .string (sA ++ b1 ++ sC)
  | 36 => v = .bool true
  | 37 => v = .bool false
  | 38 => v = .bool false
  | _ => True
set_option maxRecDepth 100000 in
set_option maxHeartbeats 8000000 in
theorem ktexts_any (w : World) (hF : FEnv w) (hP : PEnv w) : Calls Tryz.prog 5 #[] w fun e w' => e = .returned (.bool true) ∧ Below w.heap.size w w' := by
  have HF := Lib.hid (fun X (hX : Below w.heap.size w X) => hF.below hX)
  have CR := Lib.hid (fun X s (hX : Below w.heap.size w X) (hs : s.size ≤ 1000) => rreads_c s X (hP.below hX) (hF.below hX) (by omega))
  have CFO := Lib.hid (fun X s (hX : Below w.heap.size w X) (hs : s.size ≤ 1000) => rforms_c s X (hP.below hX) (by omega))
  obtain ⟨w1, hw1⟩ : ∃ W, w.alloc (.cells #[.string ⟨#[]⟩, .string ⟨#[91]⟩, .string ⟨#[93]⟩, .string ⟨#[91, 93]⟩, .string ⟨#[91, 93, 120]⟩, .string ⟨#[91, 97, 93]⟩, .string ⟨#[91, 92, 117, 123, 100, 56, 48, 48, 125, 93]⟩, .string ⟨#[91, 92, 117, 123, 48, 54, 49, 125, 93]⟩, .string ⟨#[91, 92, 117, 123, 54, 49, 125, 45, 93]⟩, .string ⟨#[91, 92, 117, 123, 54, 50, 125, 45, 92, 117, 123, 54, 49, 125, 93]⟩, .string ⟨#[91, 92, 117, 123, 54, 49, 125, 45, 92, 117, 123, 54, 49, 125, 93]⟩, .string ⟨#[91, 92, 117, 123, 54, 49, 125, 92, 117, 123, 54, 50, 125, 93]⟩, .string ⟨#[91, 92, 117, 123, 54, 49, 125, 92, 117, 123, 54, 51, 125, 92, 120, 70, 70, 93]⟩, .string ⟨#[91, 92, 120, 55, 102, 93]⟩, .string ⟨#[91, 92, 120, 56, 48, 93]⟩, .string ⟨#[91, 92, 117, 123, 49, 49, 48, 48, 56, 48, 125, 93]⟩, .string ⟨#[91, 92, 117, 123, 125, 93]⟩, .string ⟨#[91, 92, 117, 123, 48, 48, 48, 48, 48, 48, 49, 125, 93]⟩, .string ⟨#[91, 92, 117, 123, 48, 125, 93]⟩, .string ⟨#[91, 92, 117, 123, 48, 48, 125, 93]⟩, .string ⟨#[91, 92, 117, 123, 49, 48, 102, 102, 102, 102, 125, 92, 120, 56, 48, 93]⟩, .string ⟨#[91, 92, 117, 123, 100, 55, 102, 102, 125, 92, 117, 123, 101, 48, 48, 48, 125, 93]⟩, .string ⟨#[91, 92, 117, 123, 100, 55, 102, 101, 125, 45, 92, 117, 123, 101, 48, 48, 48, 125, 92, 120, 56, 49, 45, 92, 120, 102, 102, 93]⟩, .string ⟨#[91, 92, 117, 123, 49, 48, 70, 70, 70, 70, 125, 93]⟩, .string ⟨#[91, 92, 117, 123, 102, 102, 102, 102, 102, 102, 102, 102, 125, 93]⟩, .string ⟨#[91, 92, 117, 123, 49, 48, 48, 48, 48, 48, 48, 54, 49, 125, 93]⟩] 9) = W := ⟨_, rfl⟩
  have hb1 : Below w.heap.size w w1 := by rw [← hw1]; exact (Below.refl _ _).alloc (Nat.le_refl _) _
  have hg1 : w1.heap[w.heap.size]? = some (.cells (S26.map fun s => Value.string s).toArray 9 (0, 0)) := by rw [← hw1]; exact alloc_at rfl
  have hz1 : w.heap.size < w1.heap.size := by rw [← hw1]; simp
  obtain ⟨gt, hgt⟩ : ∃ n, w.heap.size = n := ⟨_, rfl⟩
  rw [hgt] at hg1 hz1
  have HCE : Hid (∀ X, Below w1.heap.size w1 X → ∀ (j : Nat) (s : ByteArray), S26[j]? = some s → X.cell? ⟨gt, j, none⟩ = some (.string s)) := Lib.hid fun X hX j x hx => by
    rw [Lib.cell_of_heap ((hX.block _ hz1).trans hg1)]
    simp [hx]
  have HB1 : Hid (∀ X, Below w1.heap.size w1 X → Below w.heap.size w X) := Lib.hid fun X hX => hb1.trans (hX.mono hb1.size)
  have HW1 := Lib.hid hw1
  obtain ⟨T, hT⟩ : ∃ T : ByteArray, (⟨#[91, 92, 117, 123, 54, 49, 125, 45, 92, 117, 123, 55, 97, 125, 92, 117, 123, 102, 102, 125, 92, 120, 56, 48, 45, 92, 120, 102, 102, 93]⟩ : ByteArray) = T := ⟨_, rfl⟩
  have hTs : T.size = 30 := by rw [← hT]; rfl
  have HT := Lib.hid hT
  have CW := Lib.hid (fun X (hX : Below w.heap.size w X) => rworks_any X (hF.below hX).1)
  clear hF hP hg1 hz1 hb1 hw1 hT
  go_enter Tryz.func5, Tryz.ntmps5
  go_wp2_with fail
  rw [HW1.out]
  try rw [hgt]
  clear hgt
  go_loopw [10] (fun iv X => ∃ j : Nat, j ≤ 26 ∧ iv = .int .i64 j ∧ Below w1.heap.size w1 X) (fun iv _ => 26 - (RowKit.intOf iv).toNat)
  case atStart => exact ⟨0, by omega, rfl, Below.refl _ _⟩
  case round =>
    obtain ⟨j, hj, rfl, hb⟩ := hrel
    have HB := Lib.hid hb
    clear hb
    by_cases hlt : j < 26
    · have hlt' : (j : Int) < 26 := by omega
      obtain ⟨s, hs⟩ : ∃ s, S26[j]? = some s := ⟨_, List.getElem?_eq_getElem hlt⟩
      have q := HCE.out wr HB.out j s hs
      have hsz := S26_bd s (List.mem_of_getElem? hs)
      have C1 := Lib.hid (CR.out wr s (HB1.out _ HB.out) (by omega))
      clear hs
      go_wp2_with fail
      refine C1.out.mono ?_
      rintro e y1 ⟨rfl, hb1⟩
      have HY1 := Lib.hid (HB.out.trans (hb1.mono HB.out.size))
      have C2 := Lib.hid (CFO.out y1 s (HB1.out _ HY1.out) (by omega))
      clear hb1 C1
      go_wp2_with fail
      refine C2.out.mono ?_
      rintro e y2 ⟨rfl, hb2⟩
      have HY2 := Lib.hid (HY1.out.trans (hb2.mono HY1.out.size))
      clear hb2 C2
      go_wp2_with fail
      go_roundw
      case rel => exact ⟨j + 1, by omega, by go_num, HY2.out⟩
      case measure => simp [RowKit.intOf]; omega
    · obtain rfl : j = 26 := by omega
      have HB2 := Lib.hid (HB1.out _ HB.out)
      clear hlt hj
      go_wp2_with fail
      rw [HT.out]
      obtain ⟨W2, hW2⟩ : ∃ W : World, W = wr := ⟨_, rfl⟩
      subst hW2
      go_loopw [4] (fun iv X => ∃ i : Nat, i ≤ 30 ∧ iv = .int .i64 i ∧ Below w.heap.size w X) (fun iv _ => 30 - (RowKit.intOf iv).toNat)
      case atStart => exact ⟨0, by omega, rfl, HB2.out⟩
      case round =>
        obtain ⟨i, hi, rfl, hbi⟩ := hrel
        have HBI := Lib.hid hbi
        clear hbi
        by_cases hlt : i < 30
        · have hlt' : (i : Int) < T.size := by omega
          obtain ⟨sA, hsA⟩ : ∃ s, T.extract 0 i = s := ⟨_, rfl⟩
          obtain ⟨sB, hsB⟩ : ∃ s, T.extract i T.size = s := ⟨_, rfl⟩
          obtain ⟨sC, hsC⟩ : ∃ s, T.extract (i + 1) T.size = s := ⟨_, rfl⟩
          have zA : sA.size ≤ 30 := by rw [← hsA, ByteArray.size_extract]; omega
          have zB : sB.size ≤ 30 := by rw [← hsB, ByteArray.size_extract]; omega
          have zC : sC.size ≤ 30 := by rw [← hsC, ByteArray.size_extract]; omega
          have hslA : ∀ X : World, (Instr.sliceAt 9 (.string T) none (some (.int .i64 (i : Nat))) none).run Tryz.prog X = .ok (.string sA) X := fun X => by rw [← hsA]; exact slTo T i (by omega) X
          have hslB : ∀ X : World, (Instr.sliceAt 9 (.string T) (some (.int .i64 (i : Nat))) none none).run Tryz.prog X = .ok (.string sB) X := fun X => by rw [← hsB]; exact slFrom T i (by omega) X
          have hslC : ∀ X : World, (Instr.sliceAt 9 (.string T) (some (.int .i64 ((i + 1 : Nat) : Int))) none none).run Tryz.prog X = .ok (.string sC) X := fun X => by rw [← hsC]; exact slFrom T (i + 1) (by omega) X
          have haddi := fun X x y => tadd i hlt X x y
          have SNX : Hid (∀ X Y, Below wr.heap.size wr X → Below X.heap.size X Y → Below wr.heap.size wr Y) := Lib.hid fun X Y h k => h.trans (k.mono h.size)
          have HWW : Hid (∀ X, Below wr.heap.size wr X → Below w.heap.size w X) := Lib.hid fun X hX => HBI.out.trans (hX.mono HBI.out.size)
          have hAC : sA.size + sC.size ≤ 1000 := by omega
          have CA := Lib.hid (fun X (hX : Below wr.heap.size wr X) => CR.out X sA (HWW.out X hX) (by omega))
          have CB := Lib.hid (fun X (hX : Below wr.heap.size wr X) => CR.out X sB (HWW.out X hX) (by omega))
          have CAC := Lib.hid (fun X (hX : Below wr.heap.size wr X) => CR.out X (sA ++ sC) (HWW.out X hX) (by rw [ByteArray.size_append]; omega))
          have S11 : Below wr.heap.size wr wr.drew := below_drewN (Below.refl _ _) 1
          clear hsA hsB hsC
          go_wp2_with fail
          refine wp_region_guarded (fun X => Below wr.heap.size wr X) (fun U V => Below U.heap.size U V) (pT11 i T sA sB sC) (by kernel_rfl) (by kernel_rfl) (by kernel_rfl) S11 ?hp ?hs ?hd
          case hp =>
            intro i v U V _ _ hk hv
            unfold pT11 at hv ⊢
            split at hv <;> exact hv
          case hs =>
            refine GSteps.cons ?_ (GSteps.cons ?_ (GSteps.cons ?_ (GSteps.cons ?_ (GSteps.cons ?_ (GSteps.cons ?_ (GSteps.cons ?_ (GSteps.cons ?_ (GSteps.cons ?_ (GSteps.cons ?_ (GSteps.cons ?_ (GSteps.cons ?_ (GSteps.cons ?_ (GSteps.cons ?_ (GSteps.cons ?_ (GSteps.cons ?_ (GSteps.cons ?_ (GSteps.cons ?_ (GSteps.cons ?_ (GSteps.cons ?_ (GSteps.cons ?_ (GSteps.cons ?_ (GSteps.cons ?_ (GSteps.cons ?_ (GSteps.nil))))))))))))))))))))))))
            · intro a X hX hL hd
              refine .inl ⟨rfl, ?_⟩
              have e0 : a.eval (.tmp 3) = .string T := hL.far 3 (by kernel_rfl)
              exact wp_value (exec_move rfl e0) ⟨_, rfl, hX, Below.refl _ _, rfl⟩
            · intro a X hX hL hd
              refine .inl ⟨rfl, ?_⟩
              have e0 : a.eval (.tmp 4) = .int .i64 (i : Nat) := hL.far 4 (by kernel_rfl)
              exact wp_value (exec_move rfl e0) ⟨_, rfl, hX, Below.refl _ _, rfl⟩
            · intro a X hX hL hd
              refine .inl ⟨rfl, ?_⟩
              have e0 : a.eval (.tmp 29) = .string T := hd 0 29 (by kernel_rfl) (by kernel_rfl)
              have e1 : a.eval (.tmp 30) = .int .i64 (i : Nat) := hd 1 30 (by kernel_rfl) (by kernel_rfl)
              exact wp_value (exec_slice rfl e0 rfl (by rw [Option.map_some, e1]) rfl (hslA X)) ⟨_, rfl, hX, Below.refl _ _, rfl⟩
            · intro a X hX hL hd
              refine .inl ⟨rfl, ?_⟩
              have e0 : a.eval (.tmp 31) = .string sA := hd 2 31 (by kernel_rfl) (by kernel_rfl)
              refine wp_enter (exec_call (vs := #[.string sA]) rfl (by simp only [List.map_toArray, List.map_cons, List.map_nil, e0]) Tryz.func12 rfl rfl) ?_
              refine (CA.out X hX).mono ?_
              rintro e w' ⟨rfl, hb⟩
              exact ⟨_, rfl, _, rfl, SNX.out _ _ hX hb, hb, rfl⟩
            · intro a X hX hL hd
              refine .inl ⟨rfl, ?_⟩
              have e0 : a.eval (.tmp 32) = .bool true := hd 3 32 (by kernel_rfl) (by kernel_rfl)
              exact wp_value (exec_unop rfl e0 rfl) ⟨_, rfl, hX, Below.refl _ _, rfl⟩
            · intro a X hX hL hd
              refine .inl ⟨rfl, ?_⟩
              have e0 : a.eval (.tmp 33) = .bool false := hd 4 33 (by kernel_rfl) (by kernel_rfl)
              exact wp_value (exec_move rfl e0) ⟨_, rfl, hX, Below.refl _ _, rfl⟩
            · intro a X hX hL hd
              refine .inl ⟨wanted_true 34 rfl (by kernel_rfl) (hd 5 34 (by kernel_rfl) (by kernel_rfl)), ?_⟩
              have e0 : a.eval (.tmp 3) = .string T := hL.far 3 (by kernel_rfl)
              exact wp_value (exec_move rfl e0) ⟨_, rfl, hX, Below.refl _ _, rfl⟩
            · intro a X hX hL hd
              refine .inl ⟨wanted_true 34 rfl (by kernel_rfl) (hd 5 34 (by kernel_rfl) (by kernel_rfl)), ?_⟩
              have e0 : a.eval (.tmp 4) = .int .i64 (i : Nat) := hL.far 4 (by kernel_rfl)
              exact wp_value (exec_move rfl e0) ⟨_, rfl, hX, Below.refl _ _, rfl⟩
            · intro a X hX hL hd
              refine .inl ⟨wanted_true 34 rfl (by kernel_rfl) (hd 5 34 (by kernel_rfl) (by kernel_rfl)), ?_⟩
              have e0 : a.eval (.tmp 35) = .string T := hd 6 35 (by kernel_rfl) (by kernel_rfl)
              have e1 : a.eval (.tmp 36) = .int .i64 (i : Nat) := hd 7 36 (by kernel_rfl) (by kernel_rfl)
              exact wp_value (exec_slice rfl e0 (by rw [Option.map_some, e1]) rfl rfl (hslB X)) ⟨_, rfl, hX, Below.refl _ _, rfl⟩
            · intro a X hX hL hd
              refine .inl ⟨wanted_true 34 rfl (by kernel_rfl) (hd 5 34 (by kernel_rfl) (by kernel_rfl)), ?_⟩
              have e0 : a.eval (.tmp 37) = .string sB := hd 8 37 (by kernel_rfl) (by kernel_rfl)
              refine wp_enter (exec_call (vs := #[.string sB]) rfl (by simp only [List.map_toArray, List.map_cons, List.map_nil, e0]) Tryz.func12 rfl rfl) ?_
              refine (CB.out X hX).mono ?_
              rintro e w' ⟨rfl, hb⟩
              exact ⟨_, rfl, _, rfl, SNX.out _ _ hX hb, hb, rfl⟩
            · intro a X hX hL hd
              refine .inl ⟨wanted_true 34 rfl (by kernel_rfl) (hd 5 34 (by kernel_rfl) (by kernel_rfl)), ?_⟩
              have e0 : a.eval (.tmp 38) = .bool true := hd 9 38 (by kernel_rfl) (by kernel_rfl)
              exact wp_value (exec_unop rfl e0 rfl) ⟨_, rfl, hX, Below.refl _ _, rfl⟩
            · intro a X hX hL hd
              refine .inl ⟨rfl, ?_⟩
              have e0 : a.eval (.tmp 34) = .bool false := hd 5 34 (by kernel_rfl) (by kernel_rfl)
              have e1 : a.eval (.tmp 39) = .bool false := hd 10 39 (by kernel_rfl) (by kernel_rfl)
              exact wp_value (exec_pick rfl e0 rfl e1) ⟨_, rfl, hX, Below.refl _ _, rfl⟩
            · intro a X hX hL hd
              refine .inl ⟨rfl, ?_⟩
              have e0 : a.eval (.tmp 40) = .bool false := hd 11 40 (by kernel_rfl) (by kernel_rfl)
              exact wp_value (exec_move rfl e0) ⟨_, rfl, hX, Below.refl _ _, rfl⟩
            · intro a X hX hL hd
              refine .inl ⟨wanted_true 41 rfl (by kernel_rfl) (hd 12 41 (by kernel_rfl) (by kernel_rfl)), ?_⟩
              have e0 : a.eval (.tmp 3) = .string T := hL.far 3 (by kernel_rfl)
              exact wp_value (exec_move rfl e0) ⟨_, rfl, hX, Below.refl _ _, rfl⟩
            · intro a X hX hL hd
              refine .inl ⟨wanted_true 41 rfl (by kernel_rfl) (hd 12 41 (by kernel_rfl) (by kernel_rfl)), ?_⟩
              have e0 : a.eval (.tmp 4) = .int .i64 (i : Nat) := hL.far 4 (by kernel_rfl)
              exact wp_value (exec_move rfl e0) ⟨_, rfl, hX, Below.refl _ _, rfl⟩
            · intro a X hX hL hd
              refine .inl ⟨wanted_true 41 rfl (by kernel_rfl) (hd 12 41 (by kernel_rfl) (by kernel_rfl)), ?_⟩
              have e0 : a.eval (.tmp 42) = .string T := hd 13 42 (by kernel_rfl) (by kernel_rfl)
              have e1 : a.eval (.tmp 43) = .int .i64 (i : Nat) := hd 14 43 (by kernel_rfl) (by kernel_rfl)
              exact wp_value (exec_slice rfl e0 rfl (by rw [Option.map_some, e1]) rfl (hslA X)) ⟨_, rfl, hX, Below.refl _ _, rfl⟩
            · intro a X hX hL hd
              refine .inl ⟨wanted_true 41 rfl (by kernel_rfl) (hd 12 41 (by kernel_rfl) (by kernel_rfl)), ?_⟩
              have e0 : a.eval (.tmp 3) = .string T := hL.far 3 (by kernel_rfl)
              exact wp_value (exec_move rfl e0) ⟨_, rfl, hX, Below.refl _ _, rfl⟩
            · intro a X hX hL hd
              refine .inl ⟨wanted_true 41 rfl (by kernel_rfl) (hd 12 41 (by kernel_rfl) (by kernel_rfl)), ?_⟩
              have e0 : a.eval (.tmp 4) = .int .i64 (i : Nat) := hL.far 4 (by kernel_rfl)
              exact wp_value (exec_move rfl e0) ⟨_, rfl, hX, Below.refl _ _, rfl⟩
            · intro a X hX hL hd
              refine .inl ⟨wanted_true 41 rfl (by kernel_rfl) (hd 12 41 (by kernel_rfl) (by kernel_rfl)), ?_⟩
              have e0 : a.eval (.tmp 46) = .int .i64 (i : Nat) := hd 17 46 (by kernel_rfl) (by kernel_rfl)
              exact wp_value (exec_binop rfl e0 rfl (haddi X _ _)) ⟨_, rfl, hX, Below.refl _ _, rfl⟩
            · intro a X hX hL hd
              refine .inl ⟨wanted_true 41 rfl (by kernel_rfl) (hd 12 41 (by kernel_rfl) (by kernel_rfl)), ?_⟩
              have e0 : a.eval (.tmp 45) = .string T := hd 16 45 (by kernel_rfl) (by kernel_rfl)
              have e1 : a.eval (.tmp 47) = .int .i64 ((i + 1 : Nat) : Int) := hd 18 47 (by kernel_rfl) (by kernel_rfl)
              exact wp_value (exec_slice rfl e0 (by rw [Option.map_some, e1]) rfl rfl (hslC X)) ⟨_, rfl, hX, Below.refl _ _, rfl⟩
            · intro a X hX hL hd
              refine .inl ⟨wanted_true 41 rfl (by kernel_rfl) (hd 12 41 (by kernel_rfl) (by kernel_rfl)), ?_⟩
              have e0 : a.eval (.tmp 44) = .string sA := hd 15 44 (by kernel_rfl) (by kernel_rfl)
              have e1 : a.eval (.tmp 48) = .string sC := hd 19 48 (by kernel_rfl) (by kernel_rfl)
              exact wp_value (exec_binop rfl e0 e1 (scat X _ _ sA sC hAC)) ⟨_, rfl, hX, Below.refl _ _, rfl⟩
            · intro a X hX hL hd
              refine .inl ⟨wanted_true 41 rfl (by kernel_rfl) (hd 12 41 (by kernel_rfl) (by kernel_rfl)), ?_⟩
              have e0 : a.eval (.tmp 49) = .string (sA ++ sC) := hd 20 49 (by kernel_rfl) (by kernel_rfl)
              refine wp_enter (exec_call (vs := #[.string (sA ++ sC)]) rfl (by simp only [List.map_toArray, List.map_cons, List.map_nil, e0]) Tryz.func12 rfl rfl) ?_
              refine (CAC.out X hX).mono ?_
              rintro e w' ⟨rfl, hb⟩
              exact ⟨_, rfl, _, rfl, SNX.out _ _ hX hb, hb, rfl⟩
            · intro a X hX hL hd
              refine .inl ⟨wanted_true 41 rfl (by kernel_rfl) (hd 12 41 (by kernel_rfl) (by kernel_rfl)), ?_⟩
              have e0 : a.eval (.tmp 50) = .bool true := hd 21 50 (by kernel_rfl) (by kernel_rfl)
              exact wp_value (exec_unop rfl e0 rfl) ⟨_, rfl, hX, Below.refl _ _, rfl⟩
            · intro a X hX hL hd
              refine .inl ⟨rfl, ?_⟩
              have e0 : a.eval (.tmp 41) = .bool false := hd 12 41 (by kernel_rfl) (by kernel_rfl)
              have e1 : a.eval (.tmp 51) = .bool false := hd 22 51 (by kernel_rfl) (by kernel_rfl)
              exact wp_value (exec_pick rfl e0 rfl e1) ⟨_, rfl, hX, Below.refl _ _, rfl⟩
          case hd =>
            intro a2 X hX hL hd _
            have h52 : a2.tmps.getD 52 undef = .bool false := hd 23 52 (by kernel_rfl)
            obtain ⟨f, ha, hf⟩ := hL.out [29, 30, 31, 32, 33, 34, 35, 36, 37, 38, 39, 40, 41, 42, 43, 44, 45, 46, 47, 48, 49, 50, 51, 52] (by kernel_rfl)
            have h52' : f 52 = .bool false := (hf 52).trans h52
            simp only [List.foldl_cons, List.foldl_nil, List.setIfInBounds_toArray, List.set_cons_zero, List.set_cons_succ, h52'] at ha
            clear hf hd hL h52 S11 h52' CA CB CAC
            subst ha
            obtain ⟨w3, hw3⟩ : ∃ W, X.alloc (.cells #[.int .u8 0, .int .u8 91, .int .u8 93, .int .u8 45, .int .u8 92, .int .u8 117, .int .u8 120, .int .u8 123, .int .u8 125, .int .u8 48, .int .u8 57, .int .u8 97, .int .u8 102, .int .u8 103, .int .u8 65, .int .u8 47, .int .u8 58, .int .u8 255] 5) = W := ⟨_, rfl⟩
            have hb3 : Below X.heap.size X w3 := by rw [← hw3]; exact (Below.refl _ _).alloc (Nat.le_refl _) _
            have hg3 : w3.heap[X.heap.size]? = some (.cells (C18.map fun c => Value.int .u8 (c.toNat : Int)).toArray 5 (0, 0)) := by rw [← hw3]; exact alloc_at rfl
            have hz3 : X.heap.size < w3.heap.size := by rw [← hw3]; simp
            obtain ⟨gc, hgc⟩ : ∃ n, X.heap.size = n := ⟨_, rfl⟩
            rw [hgc] at hg3 hz3
            have HCB : Hid (∀ Y, Below w3.heap.size w3 Y → ∀ (j : Nat) (c : UInt8), C18[j]? = some c → Y.cell? ⟨gc, j, none⟩ = some (.int .u8 (c.toNat : Int))) := Lib.hid fun Y hY j x hx => by
              rw [Lib.cell_of_heap ((hY.block _ hz3).trans hg3)]
              simp [hx]
            have HX3 := Lib.hid (And.intro (hX.trans (hb3.mono hX.size)) hz3)
            have HW3 := Lib.hid hw3
            clear hX hb3 hg3 hw3 hz3
            go_wp2_with fail
            rw [HW3.out]
            try rw [hgc]
            clear hgc
            obtain ⟨Wi, hWi⟩ : ∃ W : World, W = wr := ⟨_, rfl⟩
            subst hWi
            go_loopw [55] (fun iv Y => ∃ j : Nat, j ≤ 18 ∧ iv = .int .i64 j ∧ Below w3.heap.size w3 Y) (fun iv _ => 18 - (RowKit.intOf iv).toNat)
            case atStart => exact ⟨0, by omega, rfl, Below.refl _ _⟩
            case round =>
              obtain ⟨j, hj, rfl, hbj⟩ := hrel
              have HBJ := Lib.hid hbj
              clear hbj
              by_cases hjt : j < 18
              · have hjt' : (j : Int) < 18 := by omega
                obtain ⟨c, hc⟩ : ∃ c, C18[j]? = some c := ⟨_, List.getElem?_eq_getElem hjt⟩
                have q := HCB.out wr HBJ.out j c hc
                have ht := (newB1 (c := c) (w := wr)).text
                have hbl : Below wr.heap.size wr (wr.alloc (.cells #[.int .u8 (c.toNat : Int)] 5)) := (Below.refl _ _).alloc (Nat.le_refl _) _
                have HV := Lib.hid (HBJ.out.trans (hbl.mono HBJ.out.size))
                obtain ⟨b1, hb1⟩ : ∃ b : ByteArray, (⟨[c].toArray⟩ : ByteArray) = b := ⟨_, rfl⟩
                have zb : b1.size = 1 := by rw [← hb1]; rfl
                rw [hb1] at ht
                obtain ⟨V0, hV0⟩ : ∃ W, wr.alloc (.cells #[.int .u8 (c.toNat : Int)] 5) = W := ⟨_, rfl⟩
                have HV0 := Lib.hid hV0
                rw [hV0] at HV
                clear hc hbl hb1 hV0
                go_wp2_with (simp only [ht])
                rw [HV0.out]
                have hbw : ∀ X, Below V0.heap.size V0 X → Below w.heap.size w X := fun X hX => by
                  have h3 := HWW.out w3 HX3.out.1
                  have h4 := h3.trans (HV.out.mono h3.size)
                  exact h4.trans (hX.mono h4.size)
                clear SNX
                have SNX : Hid (∀ X Y, Below V0.heap.size V0 X → Below X.heap.size X Y → Below V0.heap.size V0 Y) := Lib.hid fun X Y h k => h.trans (k.mono h.size)
                have hAb : sA.size + b1.size ≤ 1000 := by omega
                have hAbC : (sA ++ b1).size + sC.size ≤ 1000 := by rw [ByteArray.size_append]; omega
                have hAbB : (sA ++ b1).size + sB.size ≤ 1000 := by rw [ByteArray.size_append]; omega
                have CABC := Lib.hid (fun X (hX : Below V0.heap.size V0 X) => CR.out X (sA ++ b1 ++ sC) (hbw X hX) (by rw [ByteArray.size_append]; exact hAbC))
                have CABB := Lib.hid (fun X (hX : Below V0.heap.size V0 X) => CR.out X (sA ++ b1 ++ sB) (hbw X hX) (by rw [ByteArray.size_append]; exact hAbB))
                have CFBC := Lib.hid (fun X (hX : Below V0.heap.size V0 X) => CFO.out X (sA ++ b1 ++ sC) (hbw X hX) (by rw [ByteArray.size_append]; exact hAbC))
                have S17 : Below V0.heap.size V0 V0.drew := below_drewN (Below.refl _ _) 1
                clear ht q
                refine wp_region_guarded (fun X => Below V0.heap.size V0 X) (fun U V => Below U.heap.size U V) (pT17 i T b1 sA sB sC) (by kernel_rfl) (by kernel_rfl) (by kernel_rfl) S17 ?hp ?hs ?hd
                case hp =>
                  intro i v U V _ _ hk hv
                  unfold pT17 at hv ⊢
                  split at hv <;> exact hv
                case hs =>
                  refine GSteps.cons ?_ (GSteps.cons ?_ (GSteps.cons ?_ (GSteps.cons ?_ (GSteps.cons ?_ (GSteps.cons ?_ (GSteps.cons ?_ (GSteps.cons ?_ (GSteps.cons ?_ (GSteps.cons ?_ (GSteps.cons ?_ (GSteps.cons ?_ (GSteps.cons ?_ (GSteps.cons ?_ (GSteps.cons ?_ (GSteps.cons ?_ (GSteps.cons ?_ (GSteps.cons ?_ (GSteps.cons ?_ (GSteps.cons ?_ (GSteps.cons ?_ (GSteps.cons ?_ (GSteps.cons ?_ (GSteps.cons ?_ (GSteps.cons ?_ (GSteps.cons ?_ (GSteps.cons ?_ (GSteps.cons ?_ (GSteps.cons ?_ (GSteps.cons ?_ (GSteps.cons ?_ (GSteps.cons ?_ (GSteps.cons ?_ (GSteps.cons ?_ (GSteps.cons ?_ (GSteps.cons ?_ (GSteps.cons ?_ (GSteps.cons ?_ (GSteps.cons ?_ (GSteps.nil)))))))))))))))))))))))))))))))))))))))
                  · intro a X hX hL hd
                    refine .inl ⟨rfl, ?_⟩
                    have e0 : a.eval (.tmp 3) = .string T := hL.far 3 (by kernel_rfl)
                    exact wp_value (exec_move rfl e0) ⟨_, rfl, hX, Below.refl _ _, rfl⟩
                  · intro a X hX hL hd
                    refine .inl ⟨rfl, ?_⟩
                    have e0 : a.eval (.tmp 4) = .int .i64 (i : Nat) := hL.far 4 (by kernel_rfl)
                    exact wp_value (exec_move rfl e0) ⟨_, rfl, hX, Below.refl _ _, rfl⟩
                  · intro a X hX hL hd
                    refine .inl ⟨rfl, ?_⟩
                    have e0 : a.eval (.tmp 62) = .string T := hd 0 62 (by kernel_rfl) (by kernel_rfl)
                    have e1 : a.eval (.tmp 63) = .int .i64 (i : Nat) := hd 1 63 (by kernel_rfl) (by kernel_rfl)
                    exact wp_value (exec_slice rfl e0 rfl (by rw [Option.map_some, e1]) rfl (hslA X)) ⟨_, rfl, hX, Below.refl _ _, rfl⟩
                  · intro a X hX hL hd
                    refine .inl ⟨rfl, ?_⟩
                    have e0 : a.eval (.tmp 7) = .string b1 := hL.far 7 (by kernel_rfl)
                    exact wp_value (exec_move rfl e0) ⟨_, rfl, hX, Below.refl _ _, rfl⟩
                  · intro a X hX hL hd
                    refine .inl ⟨rfl, ?_⟩
                    have e0 : a.eval (.tmp 64) = .string sA := hd 2 64 (by kernel_rfl) (by kernel_rfl)
                    have e1 : a.eval (.tmp 65) = .string b1 := hd 3 65 (by kernel_rfl) (by kernel_rfl)
                    exact wp_value (exec_binop rfl e0 e1 (scat X _ _ sA b1 hAb)) ⟨_, rfl, hX, Below.refl _ _, rfl⟩
                  · intro a X hX hL hd
                    refine .inl ⟨rfl, ?_⟩
                    have e0 : a.eval (.tmp 3) = .string T := hL.far 3 (by kernel_rfl)
                    exact wp_value (exec_move rfl e0) ⟨_, rfl, hX, Below.refl _ _, rfl⟩
                  · intro a X hX hL hd
                    refine .inl ⟨rfl, ?_⟩
                    have e0 : a.eval (.tmp 4) = .int .i64 (i : Nat) := hL.far 4 (by kernel_rfl)
                    exact wp_value (exec_move rfl e0) ⟨_, rfl, hX, Below.refl _ _, rfl⟩
                  · intro a X hX hL hd
                    refine .inl ⟨rfl, ?_⟩
                    have e0 : a.eval (.tmp 68) = .int .i64 (i : Nat) := hd 6 68 (by kernel_rfl) (by kernel_rfl)
                    exact wp_value (exec_binop rfl e0 rfl (haddi X _ _)) ⟨_, rfl, hX, Below.refl _ _, rfl⟩
                  · intro a X hX hL hd
                    refine .inl ⟨rfl, ?_⟩
                    have e0 : a.eval (.tmp 67) = .string T := hd 5 67 (by kernel_rfl) (by kernel_rfl)
                    have e1 : a.eval (.tmp 69) = .int .i64 ((i + 1 : Nat) : Int) := hd 7 69 (by kernel_rfl) (by kernel_rfl)
                    exact wp_value (exec_slice rfl e0 (by rw [Option.map_some, e1]) rfl rfl (hslC X)) ⟨_, rfl, hX, Below.refl _ _, rfl⟩
                  · intro a X hX hL hd
                    refine .inl ⟨rfl, ?_⟩
                    have e0 : a.eval (.tmp 66) = .string (sA ++ b1) := hd 4 66 (by kernel_rfl) (by kernel_rfl)
                    have e1 : a.eval (.tmp 70) = .string sC := hd 8 70 (by kernel_rfl) (by kernel_rfl)
                    exact wp_value (exec_binop rfl e0 e1 (scat X _ _ (sA ++ b1) sC hAbC)) ⟨_, rfl, hX, Below.refl _ _, rfl⟩
                  · intro a X hX hL hd
                    refine .inl ⟨rfl, ?_⟩
                    have e0 : a.eval (.tmp 71) = .string (sA ++ b1 ++ sC) := hd 9 71 (by kernel_rfl) (by kernel_rfl)
                    refine wp_enter (exec_call (vs := #[.string (sA ++ b1 ++ sC)]) rfl (by simp only [List.map_toArray, List.map_cons, List.map_nil, e0]) Tryz.func12 rfl rfl) ?_
                    refine (CABC.out X hX).mono ?_
                    rintro e w' ⟨rfl, hb⟩
                    exact ⟨_, rfl, _, rfl, SNX.out _ _ hX hb, hb, rfl⟩
                  · intro a X hX hL hd
                    refine .inl ⟨rfl, ?_⟩
                    have e0 : a.eval (.tmp 72) = .bool true := hd 10 72 (by kernel_rfl) (by kernel_rfl)
                    exact wp_value (exec_unop rfl e0 rfl) ⟨_, rfl, hX, Below.refl _ _, rfl⟩
                  · intro a X hX hL hd
                    refine .inl ⟨rfl, ?_⟩
                    have e0 : a.eval (.tmp 73) = .bool false := hd 11 73 (by kernel_rfl) (by kernel_rfl)
                    exact wp_value (exec_move rfl e0) ⟨_, rfl, hX, Below.refl _ _, rfl⟩
                  · intro a X hX hL hd
                    refine .inl ⟨wanted_true 74 rfl (by kernel_rfl) (hd 12 74 (by kernel_rfl) (by kernel_rfl)), ?_⟩
                    have e0 : a.eval (.tmp 3) = .string T := hL.far 3 (by kernel_rfl)
                    exact wp_value (exec_move rfl e0) ⟨_, rfl, hX, Below.refl _ _, rfl⟩
                  · intro a X hX hL hd
                    refine .inl ⟨wanted_true 74 rfl (by kernel_rfl) (hd 12 74 (by kernel_rfl) (by kernel_rfl)), ?_⟩
                    have e0 : a.eval (.tmp 4) = .int .i64 (i : Nat) := hL.far 4 (by kernel_rfl)
                    exact wp_value (exec_move rfl e0) ⟨_, rfl, hX, Below.refl _ _, rfl⟩
                  · intro a X hX hL hd
                    refine .inl ⟨wanted_true 74 rfl (by kernel_rfl) (hd 12 74 (by kernel_rfl) (by kernel_rfl)), ?_⟩
                    have e0 : a.eval (.tmp 75) = .string T := hd 13 75 (by kernel_rfl) (by kernel_rfl)
                    have e1 : a.eval (.tmp 76) = .int .i64 (i : Nat) := hd 14 76 (by kernel_rfl) (by kernel_rfl)
                    exact wp_value (exec_slice rfl e0 rfl (by rw [Option.map_some, e1]) rfl (hslA X)) ⟨_, rfl, hX, Below.refl _ _, rfl⟩
                  · intro a X hX hL hd
                    refine .inl ⟨wanted_true 74 rfl (by kernel_rfl) (hd 12 74 (by kernel_rfl) (by kernel_rfl)), ?_⟩
                    have e0 : a.eval (.tmp 7) = .string b1 := hL.far 7 (by kernel_rfl)
                    exact wp_value (exec_move rfl e0) ⟨_, rfl, hX, Below.refl _ _, rfl⟩
                  · intro a X hX hL hd
                    refine .inl ⟨wanted_true 74 rfl (by kernel_rfl) (hd 12 74 (by kernel_rfl) (by kernel_rfl)), ?_⟩
                    have e0 : a.eval (.tmp 77) = .string sA := hd 15 77 (by kernel_rfl) (by kernel_rfl)
                    have e1 : a.eval (.tmp 78) = .string b1 := hd 16 78 (by kernel_rfl) (by kernel_rfl)
                    exact wp_value (exec_binop rfl e0 e1 (scat X _ _ sA b1 hAb)) ⟨_, rfl, hX, Below.refl _ _, rfl⟩
                  · intro a X hX hL hd
                    refine .inl ⟨wanted_true 74 rfl (by kernel_rfl) (hd 12 74 (by kernel_rfl) (by kernel_rfl)), ?_⟩
                    have e0 : a.eval (.tmp 3) = .string T := hL.far 3 (by kernel_rfl)
                    exact wp_value (exec_move rfl e0) ⟨_, rfl, hX, Below.refl _ _, rfl⟩
                  · intro a X hX hL hd
                    refine .inl ⟨wanted_true 74 rfl (by kernel_rfl) (hd 12 74 (by kernel_rfl) (by kernel_rfl)), ?_⟩
                    have e0 : a.eval (.tmp 4) = .int .i64 (i : Nat) := hL.far 4 (by kernel_rfl)
                    exact wp_value (exec_move rfl e0) ⟨_, rfl, hX, Below.refl _ _, rfl⟩
                  · intro a X hX hL hd
                    refine .inl ⟨wanted_true 74 rfl (by kernel_rfl) (hd 12 74 (by kernel_rfl) (by kernel_rfl)), ?_⟩
                    have e0 : a.eval (.tmp 80) = .string T := hd 18 80 (by kernel_rfl) (by kernel_rfl)
                    have e1 : a.eval (.tmp 81) = .int .i64 (i : Nat) := hd 19 81 (by kernel_rfl) (by kernel_rfl)
                    exact wp_value (exec_slice rfl e0 (by rw [Option.map_some, e1]) rfl rfl (hslB X)) ⟨_, rfl, hX, Below.refl _ _, rfl⟩
                  · intro a X hX hL hd
                    refine .inl ⟨wanted_true 74 rfl (by kernel_rfl) (hd 12 74 (by kernel_rfl) (by kernel_rfl)), ?_⟩
                    have e0 : a.eval (.tmp 79) = .string (sA ++ b1) := hd 17 79 (by kernel_rfl) (by kernel_rfl)
                    have e1 : a.eval (.tmp 82) = .string sB := hd 20 82 (by kernel_rfl) (by kernel_rfl)
                    exact wp_value (exec_binop rfl e0 e1 (scat X _ _ (sA ++ b1) sB hAbB)) ⟨_, rfl, hX, Below.refl _ _, rfl⟩
                  · intro a X hX hL hd
                    refine .inl ⟨wanted_true 74 rfl (by kernel_rfl) (hd 12 74 (by kernel_rfl) (by kernel_rfl)), ?_⟩
                    have e0 : a.eval (.tmp 83) = .string (sA ++ b1 ++ sB) := hd 21 83 (by kernel_rfl) (by kernel_rfl)
                    refine wp_enter (exec_call (vs := #[.string (sA ++ b1 ++ sB)]) rfl (by simp only [List.map_toArray, List.map_cons, List.map_nil, e0]) Tryz.func12 rfl rfl) ?_
                    refine (CABB.out X hX).mono ?_
                    rintro e w' ⟨rfl, hb⟩
                    exact ⟨_, rfl, _, rfl, SNX.out _ _ hX hb, hb, rfl⟩
                  · intro a X hX hL hd
                    refine .inl ⟨wanted_true 74 rfl (by kernel_rfl) (hd 12 74 (by kernel_rfl) (by kernel_rfl)), ?_⟩
                    have e0 : a.eval (.tmp 84) = .bool true := hd 22 84 (by kernel_rfl) (by kernel_rfl)
                    exact wp_value (exec_unop rfl e0 rfl) ⟨_, rfl, hX, Below.refl _ _, rfl⟩
                  · intro a X hX hL hd
                    refine .inl ⟨rfl, ?_⟩
                    have e0 : a.eval (.tmp 74) = .bool false := hd 12 74 (by kernel_rfl) (by kernel_rfl)
                    have e1 : a.eval (.tmp 85) = .bool false := hd 23 85 (by kernel_rfl) (by kernel_rfl)
                    exact wp_value (exec_pick rfl e0 rfl e1) ⟨_, rfl, hX, Below.refl _ _, rfl⟩
                  · intro a X hX hL hd
                    refine .inl ⟨rfl, ?_⟩
                    have e0 : a.eval (.tmp 86) = .bool false := hd 24 86 (by kernel_rfl) (by kernel_rfl)
                    exact wp_value (exec_move rfl e0) ⟨_, rfl, hX, Below.refl _ _, rfl⟩
                  · intro a X hX hL hd
                    refine .inl ⟨wanted_true 87 rfl (by kernel_rfl) (hd 25 87 (by kernel_rfl) (by kernel_rfl)), ?_⟩
                    have e0 : a.eval (.tmp 3) = .string T := hL.far 3 (by kernel_rfl)
                    exact wp_value (exec_move rfl e0) ⟨_, rfl, hX, Below.refl _ _, rfl⟩
                  · intro a X hX hL hd
                    refine .inl ⟨wanted_true 87 rfl (by kernel_rfl) (hd 25 87 (by kernel_rfl) (by kernel_rfl)), ?_⟩
                    have e0 : a.eval (.tmp 4) = .int .i64 (i : Nat) := hL.far 4 (by kernel_rfl)
                    exact wp_value (exec_move rfl e0) ⟨_, rfl, hX, Below.refl _ _, rfl⟩
                  · intro a X hX hL hd
                    refine .inl ⟨wanted_true 87 rfl (by kernel_rfl) (hd 25 87 (by kernel_rfl) (by kernel_rfl)), ?_⟩
                    have e0 : a.eval (.tmp 88) = .string T := hd 26 88 (by kernel_rfl) (by kernel_rfl)
                    have e1 : a.eval (.tmp 89) = .int .i64 (i : Nat) := hd 27 89 (by kernel_rfl) (by kernel_rfl)
                    exact wp_value (exec_slice rfl e0 rfl (by rw [Option.map_some, e1]) rfl (hslA X)) ⟨_, rfl, hX, Below.refl _ _, rfl⟩
                  · intro a X hX hL hd
                    refine .inl ⟨wanted_true 87 rfl (by kernel_rfl) (hd 25 87 (by kernel_rfl) (by kernel_rfl)), ?_⟩
                    have e0 : a.eval (.tmp 7) = .string b1 := hL.far 7 (by kernel_rfl)
                    exact wp_value (exec_move rfl e0) ⟨_, rfl, hX, Below.refl _ _, rfl⟩
                  · intro a X hX hL hd
                    refine .inl ⟨wanted_true 87 rfl (by kernel_rfl) (hd 25 87 (by kernel_rfl) (by kernel_rfl)), ?_⟩
                    have e0 : a.eval (.tmp 90) = .string sA := hd 28 90 (by kernel_rfl) (by kernel_rfl)
                    have e1 : a.eval (.tmp 91) = .string b1 := hd 29 91 (by kernel_rfl) (by kernel_rfl)
                    exact wp_value (exec_binop rfl e0 e1 (scat X _ _ sA b1 hAb)) ⟨_, rfl, hX, Below.refl _ _, rfl⟩
                  · intro a X hX hL hd
                    refine .inl ⟨wanted_true 87 rfl (by kernel_rfl) (hd 25 87 (by kernel_rfl) (by kernel_rfl)), ?_⟩
                    have e0 : a.eval (.tmp 3) = .string T := hL.far 3 (by kernel_rfl)
                    exact wp_value (exec_move rfl e0) ⟨_, rfl, hX, Below.refl _ _, rfl⟩
                  · intro a X hX hL hd
                    refine .inl ⟨wanted_true 87 rfl (by kernel_rfl) (hd 25 87 (by kernel_rfl) (by kernel_rfl)), ?_⟩
                    have e0 : a.eval (.tmp 4) = .int .i64 (i : Nat) := hL.far 4 (by kernel_rfl)
                    exact wp_value (exec_move rfl e0) ⟨_, rfl, hX, Below.refl _ _, rfl⟩
                  · intro a X hX hL hd
                    refine .inl ⟨wanted_true 87 rfl (by kernel_rfl) (hd 25 87 (by kernel_rfl) (by kernel_rfl)), ?_⟩
                    have e0 : a.eval (.tmp 94) = .int .i64 (i : Nat) := hd 32 94 (by kernel_rfl) (by kernel_rfl)
                    exact wp_value (exec_binop rfl e0 rfl (haddi X _ _)) ⟨_, rfl, hX, Below.refl _ _, rfl⟩
                  · intro a X hX hL hd
                    refine .inl ⟨wanted_true 87 rfl (by kernel_rfl) (hd 25 87 (by kernel_rfl) (by kernel_rfl)), ?_⟩
                    have e0 : a.eval (.tmp 93) = .string T := hd 31 93 (by kernel_rfl) (by kernel_rfl)
                    have e1 : a.eval (.tmp 95) = .int .i64 ((i + 1 : Nat) : Int) := hd 33 95 (by kernel_rfl) (by kernel_rfl)
                    exact wp_value (exec_slice rfl e0 (by rw [Option.map_some, e1]) rfl rfl (hslC X)) ⟨_, rfl, hX, Below.refl _ _, rfl⟩
                  · intro a X hX hL hd
                    refine .inl ⟨wanted_true 87 rfl (by kernel_rfl) (hd 25 87 (by kernel_rfl) (by kernel_rfl)), ?_⟩
                    have e0 : a.eval (.tmp 92) = .string (sA ++ b1) := hd 30 92 (by kernel_rfl) (by kernel_rfl)
                    have e1 : a.eval (.tmp 96) = .string sC := hd 34 96 (by kernel_rfl) (by kernel_rfl)
                    exact wp_value (exec_binop rfl e0 e1 (scat X _ _ (sA ++ b1) sC hAbC)) ⟨_, rfl, hX, Below.refl _ _, rfl⟩
                  · intro a X hX hL hd
                    refine .inl ⟨wanted_true 87 rfl (by kernel_rfl) (hd 25 87 (by kernel_rfl) (by kernel_rfl)), ?_⟩
                    have e0 : a.eval (.tmp 97) = .string (sA ++ b1 ++ sC) := hd 35 97 (by kernel_rfl) (by kernel_rfl)
                    refine wp_enter (exec_call (vs := #[.string (sA ++ b1 ++ sC)]) rfl (by simp only [List.map_toArray, List.map_cons, List.map_nil, e0]) Tryz.func13 rfl rfl) ?_
                    refine (CFBC.out X hX).mono ?_
                    rintro e w' ⟨rfl, hb⟩
                    exact ⟨_, rfl, _, rfl, SNX.out _ _ hX hb, hb, rfl⟩
                  · intro a X hX hL hd
                    refine .inl ⟨wanted_true 87 rfl (by kernel_rfl) (hd 25 87 (by kernel_rfl) (by kernel_rfl)), ?_⟩
                    have e0 : a.eval (.tmp 98) = .bool true := hd 36 98 (by kernel_rfl) (by kernel_rfl)
                    exact wp_value (exec_unop rfl e0 rfl) ⟨_, rfl, hX, Below.refl _ _, rfl⟩
                  · intro a X hX hL hd
                    refine .inl ⟨rfl, ?_⟩
                    have e0 : a.eval (.tmp 87) = .bool false := hd 25 87 (by kernel_rfl) (by kernel_rfl)
                    have e1 : a.eval (.tmp 99) = .bool false := hd 37 99 (by kernel_rfl) (by kernel_rfl)
                    exact wp_value (exec_pick rfl e0 rfl e1) ⟨_, rfl, hX, Below.refl _ _, rfl⟩
                case hd =>
                  intro a3 Y hY hL hd _
                  have h100 : a3.tmps.getD 100 undef = .bool false := hd 38 100 (by kernel_rfl)
                  obtain ⟨f2, ha, hf⟩ := hL.out [62, 63, 64, 65, 66, 67, 68, 69, 70, 71, 72, 73, 74, 75, 76, 77, 78, 79, 80, 81, 82, 83, 84, 85, 86, 87, 88, 89, 90, 91, 92, 93, 94, 95, 96, 97, 98, 99, 100] (by kernel_rfl)
                  have h100' : f2 100 = .bool false := (hf 100).trans h100
                  simp only [List.foldl_cons, List.foldl_nil, List.setIfInBounds_toArray, List.set_cons_zero, List.set_cons_succ, h100'] at ha
                  clear hf hd hL h100 S17 h100' hslA hslB hslC haddi CABC CABB CFBC
                  subst ha
                  have HN := Lib.hid (HV.out.trans (hY.mono HV.out.size))
                  clear hY hbw
                  go_wp2_with fail
                  go_roundw
                  case rel => exact ⟨j + 1, by omega, by go_num, HN.out⟩
                  case measure => simp [RowKit.intOf]; omega
              · obtain rfl : j = 18 := by omega
                have h3 := HWW.out w3 HX3.out.1
                have HN := Lib.hid (h3.trans (HBJ.out.mono h3.size))
                clear h3 hslA hslB hslC haddi
                go_wp2_with fail
                go_roundw
                case rel => exact ⟨i + 1, by omega, by go_num, HN.out⟩
                case measure => simp [RowKit.intOf]; omega
        · obtain rfl : i = 30 := by omega
          have hlt' : ¬ ((30 : Nat) : Int) < T.size := by omega
          have C9 := Lib.hid (CW.out wr HBI.out)
          go_wp2_with fail
          refine C9.out.mono ?_
          rintro e y9 ⟨rfl, hb9⟩
          have HB9 := Lib.hid (HBI.out.trans (hb9.mono HBI.out.size))
          clear hb9
          go_wp2_with fail
          go_ret
          exact ⟨rfl, HB9.out⟩
end Go.Proofs.YtjbkpcdpdifpnaaGreatDoor
