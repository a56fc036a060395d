/- props: which points are Hangul. WRITTEN by wip/tools/gen_jk.py. -/
import Derived.Test.YtdmimdiffjpjpaaGreatDoorGz3
namespace Go.Proofs.YtdmimdiffjpjpaaGreatDoor
open Go Go.RowKit Go.Kt Go.Kt.Rg

def sylP (r : Int) : Bool := decide (44032 ≤ r) && decide (r < 55204)
def leadP (r : Int) : Bool := decide (4352 ≤ r) && decide (r < 4371)
def vowP (r : Int) : Bool := decide (4449 ≤ r) && decide (r < 4470)
def tailP (r : Int) : Bool := decide (4520 ≤ r) && decide (r < 4547)
def hanP (r : Int) : Bool := sylP r || leadP r || vowP r || tailP r

set_option maxRecDepth 100000 in
theorem psyl (r : Int) (w : World) : Calls Tryz.prog 46 #[.int .i32 r] w fun e w' => e = .returned (.bool (sylP r)) ∧ w' = w := by
  by_cases h1 : 44032 ≤ r
  · by_cases h2 : r < 55204
    · have HX : Hid (sylP r = true) := Lib.hid (by simp [sylP, h1, h2])
      go_enter Tryz.func46, Tryz.ntmps46
      go_wp2
      go_ret
      exact ⟨by rw [HX.out]; (first | rfl | (show Ending.returned (Value.bool (decide _)) = _; rw [decide_eq_false (by omega)])), rfl⟩
    · have HX : Hid (sylP r = false) := Lib.hid (by simp [sylP, h1, h2])
      have h3 : 55204 ≤ r := by omega
      clear h2
      go_enter Tryz.func46, Tryz.ntmps46
      go_wp2
      go_ret
      exact ⟨by rw [HX.out]; (first | rfl | (show Ending.returned (Value.bool (decide _)) = _; rw [decide_eq_false (by omega)])), rfl⟩
  · have HX : Hid (sylP r = false) := Lib.hid (by simp [sylP, h1])
    have h3 : r < 44032 := by omega
    clear h1
    go_enter Tryz.func46, Tryz.ntmps46
    go_wp2
    go_ret
    exact ⟨by rw [HX.out]; (first | rfl | (show Ending.returned (Value.bool (decide _)) = _; rw [decide_eq_false (by omega)])), rfl⟩

set_option maxRecDepth 100000 in
theorem plead (r : Int) (w : World) : Calls Tryz.prog 105 #[.int .i32 r] w fun e w' => e = .returned (.bool (leadP r)) ∧ w' = w := by
  by_cases h1 : 4352 ≤ r
  · by_cases h2 : r < 4371
    · have HX : Hid (leadP r = true) := Lib.hid (by simp [leadP, h1, h2])
      go_enter Tryz.func105, Tryz.ntmps105
      go_wp2
      go_ret
      exact ⟨by rw [HX.out]; (first | rfl | (show Ending.returned (Value.bool (decide _)) = _; rw [decide_eq_false (by omega)])), rfl⟩
    · have HX : Hid (leadP r = false) := Lib.hid (by simp [leadP, h1, h2])
      have h3 : 4371 ≤ r := by omega
      clear h2
      go_enter Tryz.func105, Tryz.ntmps105
      go_wp2
      go_ret
      exact ⟨by rw [HX.out]; (first | rfl | (show Ending.returned (Value.bool (decide _)) = _; rw [decide_eq_false (by omega)])), rfl⟩
  · have HX : Hid (leadP r = false) := Lib.hid (by simp [leadP, h1])
    have h3 : r < 4352 := by omega
    clear h1
    go_enter Tryz.func105, Tryz.ntmps105
    go_wp2
    go_ret
    exact ⟨by rw [HX.out]; (first | rfl | (show Ending.returned (Value.bool (decide _)) = _; rw [decide_eq_false (by omega)])), rfl⟩

set_option maxRecDepth 100000 in
theorem pvow (r : Int) (w : World) : Calls Tryz.prog 106 #[.int .i32 r] w fun e w' => e = .returned (.bool (vowP r)) ∧ w' = w := by
  by_cases h1 : 4449 ≤ r
  · by_cases h2 : r < 4470
    · have HX : Hid (vowP r = true) := Lib.hid (by simp [vowP, h1, h2])
      go_enter Tryz.func106, Tryz.ntmps106
      go_wp2
      go_ret
      exact ⟨by rw [HX.out]; (first | rfl | (show Ending.returned (Value.bool (decide _)) = _; rw [decide_eq_false (by omega)])), rfl⟩
    · have HX : Hid (vowP r = false) := Lib.hid (by simp [vowP, h1, h2])
      have h3 : 4470 ≤ r := by omega
      clear h2
      go_enter Tryz.func106, Tryz.ntmps106
      go_wp2
      go_ret
      exact ⟨by rw [HX.out]; (first | rfl | (show Ending.returned (Value.bool (decide _)) = _; rw [decide_eq_false (by omega)])), rfl⟩
  · have HX : Hid (vowP r = false) := Lib.hid (by simp [vowP, h1])
    have h3 : r < 4449 := by omega
    clear h1
    go_enter Tryz.func106, Tryz.ntmps106
    go_wp2
    go_ret
    exact ⟨by rw [HX.out]; (first | rfl | (show Ending.returned (Value.bool (decide _)) = _; rw [decide_eq_false (by omega)])), rfl⟩

set_option maxRecDepth 100000 in
theorem ptail (r : Int) (w : World) : Calls Tryz.prog 107 #[.int .i32 r] w fun e w' => e = .returned (.bool (tailP r)) ∧ w' = w := by
  by_cases h1 : 4520 ≤ r
  · by_cases h2 : r < 4547
    · have HX : Hid (tailP r = true) := Lib.hid (by simp [tailP, h1, h2])
      go_enter Tryz.func107, Tryz.ntmps107
      go_wp2
      go_ret
      exact ⟨by rw [HX.out]; (first | rfl | (show Ending.returned (Value.bool (decide _)) = _; rw [decide_eq_false (by omega)])), rfl⟩
    · have HX : Hid (tailP r = false) := Lib.hid (by simp [tailP, h1, h2])
      have h3 : 4547 ≤ r := by omega
      clear h2
      go_enter Tryz.func107, Tryz.ntmps107
      go_wp2
      go_ret
      exact ⟨by rw [HX.out]; (first | rfl | (show Ending.returned (Value.bool (decide _)) = _; rw [decide_eq_false (by omega)])), rfl⟩
  · have HX : Hid (tailP r = false) := Lib.hid (by simp [tailP, h1])
    have h3 : r < 4520 := by omega
    clear h1
    go_enter Tryz.func107, Tryz.ntmps107
    go_wp2
    go_ret
    exact ⟨by rw [HX.out]; (first | rfl | (show Ending.returned (Value.bool (decide _)) = _; rw [decide_eq_false (by omega)])), rfl⟩

set_option maxRecDepth 100000 in
theorem phan (r : Int) (w : World) : Calls Tryz.prog 119 #[.int .i32 r] w fun e w' => e = .returned (.bool (hanP r)) ∧ w' = w := by
  have C1 := Lib.hid (fun W => psyl r W)
  have C2 := Lib.hid (fun W => plead r W)
  have C3 := Lib.hid (fun W => pvow r W)
  have C4 := Lib.hid (fun W => ptail r W)
  have HX : Hid (hanP r = (sylP r || leadP r || vowP r || tailP r)) := Lib.hid rfl
  generalize sylP r = b1 at C1 HX
  generalize leadP r = b2 at C2 HX
  generalize vowP r = b3 at C3 HX
  generalize tailP r = b4 at C4 HX
  go_enter Tryz.func119, Tryz.ntmps119
  go_wp2_with fail
  refine (C1.out w).mono ?_
  rintro e w1 ⟨rfl, rfl⟩
  cases b1 with
  | true =>
    go_wp2
    go_ret
    exact ⟨by rw [HX.out]; rfl, rfl⟩
  | false =>
    go_wp2_with fail
    refine (C2.out w1).mono ?_
    rintro e w2 ⟨rfl, rfl⟩
    cases b2 with
    | true =>
      go_wp2
      go_ret
      exact ⟨by rw [HX.out]; rfl, rfl⟩
    | false =>
      go_wp2_with fail
      refine (C3.out w2).mono ?_
      rintro e w3 ⟨rfl, rfl⟩
      cases b3 with
      | true =>
        go_wp2
        go_ret
        exact ⟨by rw [HX.out]; rfl, rfl⟩
      | false =>
        go_wp2_with fail
        refine (C4.out w3).mono ?_
        rintro e w4 ⟨rfl, rfl⟩
        go_wp2
        go_ret
        exact ⟨by rw [HX.out]; rfl, rfl⟩
end Go.Proofs.YtdmimdiffjpjpaaGreatDoor
