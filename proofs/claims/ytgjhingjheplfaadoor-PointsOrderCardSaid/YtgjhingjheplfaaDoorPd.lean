/- The text of points: the document's Bytes, Point. -/
import Derived.Test.YtgjhingjheplfaaDoorPb
import Derived.Test.YtgjhingjheplfaaDoorCf
import Derived.Test.YtgjhingjheplfaaDoorCk
import Derived.Test.YtgjhingjheplfaaDoorK4
namespace Go.Proofs.YtgjhingjheplfaaDoor
open Go Go.RowKit Go.Kt Go.Shelf

def pointB (c : Int) : Bool := charB c || decide (1114240 ≤ c ∧ c ≤ 1114367)
theorem pointB_iff (c : Int) : pointB c = true ↔ ((0 ≤ c ∧ c < 55296) ∨ (57343 < c ∧ c ≤ 1114111)) ∨ (1114240 ≤ c ∧ c ≤ 1114367) := by
  unfold pointB; rw [Bool.or_eq_true, charB_iff]; simp
/-- A point's bytes. -/
def bytesP (c : Int) : List UInt8 := if 1114112 < c then [UInt8.ofNat (c - 1114112).toNat] else (encC c).data.toList
def textP (l : List Int) : List UInt8 := l.flatMap bytesP
theorem textP_snoc (l : List Int) (c : Int) : textP (l ++ [c]) = textP l ++ bytesP c := by simp [textP]
theorem bytesP_len (c : Int) : 1 ≤ (bytesP c).length ∧ (bytesP c).length ≤ 4 := by
  unfold bytesP encC
  repeat' split
  all_goals simp
theorem textP_len (l : List Int) : (textP l).length ≤ 4 * l.length := by
  induction l with
  | nil => simp [textP]
  | cons c l ih => have := bytesP_len c; simp [textP] at *; omega

theorem point_any (c : Int) (w : World) :
    Calls Tryd.prog 70 #[.int .i64 c] w fun e w' => e = .returned (.bool (pointB c)) ∧ w = w' := by
  have C := Lib.hid (char_any c w)
  obtain ⟨R, hR⟩ : ∃ R, pointB c = R := ⟨_, rfl⟩
  have HR := Lib.hid hR
  rw [hR]; clear hR
  cases hc : charB c
  · rw [hc] at C
    have HC := Lib.hid hc
    clear hc
    go_enter Tryd.func70, Tryd.ntmps70
    go_wp2_with fail
    refine C.out.mono ?_
    rintro e w' ⟨rfl, rfl⟩
    go_wp2
    all_goals go_ret
    all_goals
      refine ⟨congrArg (fun b => Ending.returned (Value.bool b)) ?_, rfl⟩
      rw [← HR.out]
      unfold pointB
      rw [HC.out, Bool.eq_iff_iff]
      simp
      try omega
  · rw [hc] at C
    have HC := Lib.hid hc
    clear hc
    go_enter Tryd.func70, Tryd.ntmps70
    go_wp2_with fail
    refine C.out.mono ?_
    rintro e w' ⟨rfl, rfl⟩
    go_wp2
    all_goals go_ret
    all_goals
      refine ⟨congrArg (fun b => Ending.returned (Value.bool b)) ?_, rfl⟩
      rw [← HR.out]
      unfold pointB
      rw [HC.out]
      rfl

/-- A new block of bytes. -/
def NewB (l : List UInt8) (w : World) (e : Ending) (w' : World) : Prop :=
  e = .returned (.slice (some ⟨w.heap.size, 0, none⟩) l.length l.length) ∧ w' = w.alloc (.cells (Lib.byteCells l).toArray 5)

theorem ofNat_toNat (x : Int) (h0 : 0 ≤ x) (h1 : x < 256) : (((UInt8.ofNat x.toNat).toNat : Nat) : Int) = x := by
  simp; omega

set_option maxRecDepth 100000 in
set_option maxHeartbeats 1000000 in
theorem refBytes_any (c : Int) (w : World) (hc : pointB c = true) :
    Calls Tryd.prog 71 #[.int .i32 c] w (NewB (bytesP c) w) := by
  have hb := (pointB_iff c).1 hc
  have h0 : 0 ≤ c := by omega
  have h1 : c ≤ 1114367 := by omega
  have fin : ∀ l : List UInt8, bytesP c = l → NewB (bytesP c) w (.returned (.slice (some ⟨w.heap.size, 0, none⟩) l.length l.length)) (w.alloc (.cells (Lib.byteCells l).toArray 5)) := fun l h => by rw [h]; exact ⟨rfl, rfl⟩
  have Fin := Lib.hid fin
  clear fin
  by_cases a0 : 1114112 < c
  · have HF := Lib.hid (Fin.out [UInt8.ofNat (c - 1114112).toNat] (by unfold bytesP; rw [if_pos a0]))
    have e1 := Lib.hid (ofNat_toNat (c - 1114112) (by omega) (by omega))
    have hlo : 1114240 ≤ c := by omega
    clear Fin hb hc
    go_enter Tryd.func71, Tryd.ntmps71
    go_wp2
    go_ret
    have := HF.out
    simp only [Lib.byteCells, List.map_cons, List.map_nil, e1.out, List.length_cons, List.length_nil] at this
    exact this
  have h2 : c ≤ 1114111 := by omega
  by_cases a1 : c < 128
  · have HF := Lib.hid (Fin.out [UInt8.ofNat (c).toNat] (by unfold bytesP encC; rw [if_neg a0, if_pos a1]))
    have e1 := Lib.hid (ofNat_toNat (c) (by omega) (by omega))
    clear Fin hb hc
    go_enter Tryd.func71, Tryd.ntmps71
    go_wp2
    go_ret
    have := HF.out
    simp only [Lib.byteCells, List.map_cons, List.map_nil, e1.out, List.length_cons, List.length_nil] at this
    exact this
  by_cases a2 : c < 2048
  · have HF := Lib.hid (Fin.out [UInt8.ofNat (192 + c / 64).toNat, UInt8.ofNat (128 + c % 64).toNat] (by unfold bytesP encC; rw [if_neg a0, if_neg a1, if_pos a2]))
    have e1 := Lib.hid (ofNat_toNat (192 + c / 64) (by omega) (by omega))
    have e2 := Lib.hid (ofNat_toNat (128 + c % 64) (by omega) (by omega))
    clear Fin hb hc
    go_enter Tryd.func71, Tryd.ntmps71
    go_wp2
    go_ret
    have := HF.out
    simp only [Lib.byteCells, List.map_cons, List.map_nil, e1.out, e2.out, List.length_cons, List.length_nil] at this
    exact this
  by_cases a3 : c < 65536
  · have HF := Lib.hid (Fin.out [UInt8.ofNat (224 + c / 4096).toNat, UInt8.ofNat (128 + c / 64 % 64).toNat, UInt8.ofNat (128 + c % 64).toNat] (by unfold bytesP encC; rw [if_neg a0, if_neg a1, if_neg a2, if_pos a3]))
    have e1 := Lib.hid (ofNat_toNat (224 + c / 4096) (by omega) (by omega))
    have e2 := Lib.hid (ofNat_toNat (128 + c / 64 % 64) (by omega) (by omega))
    have e3 := Lib.hid (ofNat_toNat (128 + c % 64) (by omega) (by omega))
    clear Fin hb hc
    go_enter Tryd.func71, Tryd.ntmps71
    go_wp2
    go_ret
    have := HF.out
    simp only [Lib.byteCells, List.map_cons, List.map_nil, e1.out, e2.out, e3.out, List.length_cons, List.length_nil] at this
    exact this
  · have HF := Lib.hid (Fin.out [UInt8.ofNat (240 + c / 262144).toNat, UInt8.ofNat (128 + c / 4096 % 64).toNat, UInt8.ofNat (128 + c / 64 % 64).toNat, UInt8.ofNat (128 + c % 64).toNat] (by unfold bytesP encC; rw [if_neg a0, if_neg a1, if_neg a2, if_neg a3]))
    have e1 := Lib.hid (ofNat_toNat (240 + c / 262144) (by omega) (by omega))
    have e2 := Lib.hid (ofNat_toNat (128 + c / 4096 % 64) (by omega) (by omega))
    have e3 := Lib.hid (ofNat_toNat (128 + c / 64 % 64) (by omega) (by omega))
    have e4 := Lib.hid (ofNat_toNat (128 + c % 64) (by omega) (by omega))
    clear Fin hb hc
    go_enter Tryd.func71, Tryd.ntmps71
    go_wp2
    go_ret
    have := HF.out
    simp only [Lib.byteCells, List.map_cons, List.map_nil, e1.out, e2.out, e3.out, e4.out, List.length_cons, List.length_nil] at this
    exact this
end Go.Proofs.YtgjhingjheplfaaDoor
