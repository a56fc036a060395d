/- Parts of the proof of what the last text says. -/
import Derived.Test.YtcfhblbmpbfoaaaGreatDoorJcx
namespace Go.Proofs.YtcfhblbmpbfoaaaGreatDoor
open Go Go.RowKit Go.Kt Go.Kt.Rg

def sylP (r : Int) : Bool := decide (44032 ≤ r) && decide (r < 55204)
def leadP (r : Int) : Bool := decide (4352 ≤ r) && decide (r < 4371)
def vowP (r : Int) : Bool := decide (4449 ≤ r) && decide (r < 4470)
def tailP (r : Int) : Bool := decide (4520 ≤ r) && decide (r < 4547)
def hanP (r : Int) : Bool := sylP r || leadP r || vowP r || tailP r

set_option maxRecDepth 100000 in
theorem psyl (r : Int) (w : World) : Calls Tryz.prog 110 #[.int .i32 r] w fun e w' => e = .returned (.bool (sylP r)) ∧ w' = w := by
  by_cases h1 : 44032 ≤ r
  · by_cases h2 : r < 55204
    · have HX : Hid (sylP r = true) := Lib.hid (by simp [sylP, h1, h2])
      go_enter Tryz.func110, Tryz.ntmps110
      go_wp2
      go_ret
      exact ⟨by rw [HX.out]; (first | rfl | (show Ending.returned (Value.bool (decide _)) = _; rw [decide_eq_false (by omega)])), rfl⟩
    · have HX : Hid (sylP r = false) := Lib.hid (by simp [sylP, h1, h2])
      have h3 : 55204 ≤ r := by omega
      clear h2
      go_enter Tryz.func110, Tryz.ntmps110
      go_wp2
      go_ret
      exact ⟨by rw [HX.out]; (first | rfl | (show Ending.returned (Value.bool (decide _)) = _; rw [decide_eq_false (by omega)])), rfl⟩
  · have HX : Hid (sylP r = false) := Lib.hid (by simp [sylP, h1])
    have h3 : r < 44032 := by omega
    clear h1
    go_enter Tryz.func110, Tryz.ntmps110
    go_wp2
    go_ret
    exact ⟨by rw [HX.out]; (first | rfl | (show Ending.returned (Value.bool (decide _)) = _; rw [decide_eq_false (by omega)])), rfl⟩

set_option maxRecDepth 100000 in
theorem plead (r : Int) (w : World) : Calls Tryz.prog 159 #[.int .i32 r] w fun e w' => e = .returned (.bool (leadP r)) ∧ w' = w := by
  by_cases h1 : 4352 ≤ r
  · by_cases h2 : r < 4371
    · have HX : Hid (leadP r = true) := Lib.hid (by simp [leadP, h1, h2])
      go_enter Tryz.func159, Tryz.ntmps159
      go_wp2
      go_ret
      exact ⟨by rw [HX.out]; (first | rfl | (show Ending.returned (Value.bool (decide _)) = _; rw [decide_eq_false (by omega)])), rfl⟩
    · have HX : Hid (leadP r = false) := Lib.hid (by simp [leadP, h1, h2])
      have h3 : 4371 ≤ r := by omega
      clear h2
      go_enter Tryz.func159, Tryz.ntmps159
      go_wp2
      go_ret
      exact ⟨by rw [HX.out]; (first | rfl | (show Ending.returned (Value.bool (decide _)) = _; rw [decide_eq_false (by omega)])), rfl⟩
  · have HX : Hid (leadP r = false) := Lib.hid (by simp [leadP, h1])
    have h3 : r < 4352 := by omega
    clear h1
    go_enter Tryz.func159, Tryz.ntmps159
    go_wp2
    go_ret
    exact ⟨by rw [HX.out]; (first | rfl | (show Ending.returned (Value.bool (decide _)) = _; rw [decide_eq_false (by omega)])), rfl⟩

set_option maxRecDepth 100000 in
theorem pvow (r : Int) (w : World) : Calls Tryz.prog 160 #[.int .i32 r] w fun e w' => e = .returned (.bool (vowP r)) ∧ w' = w := by
  by_cases h1 : 4449 ≤ r
  · by_cases h2 : r < 4470
    · have HX : Hid (vowP r = true) := Lib.hid (by simp [vowP, h1, h2])
      go_enter Tryz.func160, Tryz.ntmps160
      go_wp2
      go_ret
      exact ⟨by rw [HX.out]; (first | rfl | (show Ending.returned (Value.bool (decide _)) = _; rw [decide_eq_false (by omega)])), rfl⟩
    · have HX : Hid (vowP r = false) := Lib.hid (by simp [vowP, h1, h2])
      have h3 : 4470 ≤ r := by omega
      clear h2
      go_enter Tryz.func160, Tryz.ntmps160
      go_wp2
      go_ret
      exact ⟨by rw [HX.out]; (first | rfl | (show Ending.returned (Value.bool (decide _)) = _; rw [decide_eq_false (by omega)])), rfl⟩
  · have HX : Hid (vowP r = false) := Lib.hid (by simp [vowP, h1])
    have h3 : r < 4449 := by omega
    clear h1
    go_enter Tryz.func160, Tryz.ntmps160
    go_wp2
    go_ret
    exact ⟨by rw [HX.out]; (first | rfl | (show Ending.returned (Value.bool (decide _)) = _; rw [decide_eq_false (by omega)])), rfl⟩

set_option maxRecDepth 100000 in
theorem ptail (r : Int) (w : World) : Calls Tryz.prog 161 #[.int .i32 r] w fun e w' => e = .returned (.bool (tailP r)) ∧ w' = w := by
  by_cases h1 : 4520 ≤ r
  · by_cases h2 : r < 4547
    · have HX : Hid (tailP r = true) := Lib.hid (by simp [tailP, h1, h2])
      go_enter Tryz.func161, Tryz.ntmps161
      go_wp2
      go_ret
      exact ⟨by rw [HX.out]; (first | rfl | (show Ending.returned (Value.bool (decide _)) = _; rw [decide_eq_false (by omega)])), rfl⟩
    · have HX : Hid (tailP r = false) := Lib.hid (by simp [tailP, h1, h2])
      have h3 : 4547 ≤ r := by omega
      clear h2
      go_enter Tryz.func161, Tryz.ntmps161
      go_wp2
      go_ret
      exact ⟨by rw [HX.out]; (first | rfl | (show Ending.returned (Value.bool (decide _)) = _; rw [decide_eq_false (by omega)])), rfl⟩
  · have HX : Hid (tailP r = false) := Lib.hid (by simp [tailP, h1])
    have h3 : r < 4520 := by omega
    clear h1
    go_enter Tryz.func161, Tryz.ntmps161
    go_wp2
    go_ret
    exact ⟨by rw [HX.out]; (first | rfl | (show Ending.returned (Value.bool (decide _)) = _; rw [decide_eq_false (by omega)])), rfl⟩

set_option maxRecDepth 100000 in
theorem phan (r : Int) (w : World) : Calls Tryz.prog 141 #[.int .i32 r] w fun e w' => e = .returned (.bool (hanP r)) ∧ w' = w := by
  have C1 := Lib.hid (fun W => psyl r W)
  have C2 := Lib.hid (fun W => plead r W)
  have C3 := Lib.hid (fun W => pvow r W)
  have C4 := Lib.hid (fun W => ptail r W)
  have HX : Hid (hanP r = (sylP r || leadP r || vowP r || tailP r)) := Lib.hid rfl
  generalize sylP r = b1 at C1 HX
  generalize leadP r = b2 at C2 HX
  generalize vowP r = b3 at C3 HX
  generalize tailP r = b4 at C4 HX
  go_enter Tryz.func141, Tryz.ntmps141
  go_wp2_with fail
  refine (C1.out w).mono ?_
  rintro e w1 ⟨rfl, rfl⟩
  cases b1 with
  | true =>
    go_wp2
    go_ret
    exact ⟨by rw [HX.out]; rfl, rfl⟩
  | false =>
    go_wp2_with fail
    refine (C2.out w1).mono ?_
    rintro e w2 ⟨rfl, rfl⟩
    cases b2 with
    | true =>
      go_wp2
      go_ret
      exact ⟨by rw [HX.out]; rfl, rfl⟩
    | false =>
      go_wp2_with fail
      refine (C3.out w2).mono ?_
      rintro e w3 ⟨rfl, rfl⟩
      cases b3 with
      | true =>
        go_wp2
        go_ret
        exact ⟨by rw [HX.out]; rfl, rfl⟩
      | false =>
        go_wp2_with fail
        refine (C4.out w3).mono ?_
        rintro e w4 ⟨rfl, rfl⟩
        go_wp2
        go_ret
        exact ⟨by rw [HX.out]; rfl, rfl⟩
end Go.Proofs.YtcfhblbmpbfoaaaGreatDoor
namespace Go.Proofs.YtcfhblbmpbfoaaaGreatDoor
open Go Go.RowKit Go.Kt Go.Kt.Rg

def synP (a b : Int) : Option Int :=
  if leadP a && vowP b then some (44032 + ((a - 4352) * 21 + b - 4449) * 28) else if sylP a && decide ((a - 44032) % 28 = 0) && tailP b then some (a + 1 + b - 4520) else none

set_option maxRecDepth 100000 in
set_option maxHeartbeats 2000000 in
theorem psyllable (a b : Int) (w : World) : Calls Tryz.prog 123 #[.int .i32 a, .int .i32 b] w fun e w' => e = .returned (.tuple #[.int .i32 ((synP a b).getD 0), .bool (synP a b).isSome]) ∧ w' = w := by
  have C1 := Lib.hid (plead a w)
  have C2 := Lib.hid (pvow b w)
  have C3 := Lib.hid (psyl a w)
  have C4 := Lib.hid (ptail b w)
  have HX : Hid (synP a b = if leadP a && vowP b then some (44032 + ((a - 4352) * 21 + b - 4449) * 28) else if sylP a && decide ((a - 44032) % 28 = 0) && tailP b then some (a + 1 + b - 4520) else none) := Lib.hid rfl
  cases h1 : leadP a with
  | true =>
    have ra : 4352 ≤ a ∧ a < 4371 := by simpa [leadP] using h1
    have h3 : sylP a = false := by simp [sylP]; omega
    rw [h1] at C1 HX
    rw [h3] at C3 HX
    cases h2 : vowP b with
    | true =>
      rw [h2] at C2 HX
      have rb : 4449 ≤ b ∧ b < 4470 := by simpa [vowP] using h2
      replace HX : Hid (synP a b = some (44032 + ((a - 4352) * 21 + b - 4449) * 28)) := HX
      obtain ⟨m, hm⟩ : ∃ m, a = 4352 + m := ⟨a - 4352, by omega⟩
      obtain ⟨n, hn⟩ : ∃ n, b = 4449 + n := ⟨b - 4449, by omega⟩
      subst hm; subst hn
      have q1 : IntKind.i32.wrap (4352 + m - 4352) = m := by rw [IntWalk.i32_in _ (by omega)]; omega
      have q2 : IntKind.i32.wrap (m * 21) = m * 21 := IntWalk.i32_in _ (by omega)
      have q3 : IntKind.i32.wrap (m * 21 + (4449 + n)) = m * 21 + (4449 + n) := IntWalk.i32_in _ (by omega)
      have q4 : IntKind.i32.wrap (m * 21 + (4449 + n) - 4449) = m * 21 + n := by rw [IntWalk.i32_in _ (by omega)]; omega
      have q5 : IntKind.i32.wrap ((m * 21 + n) * 28) = (m * 21 + n) * 28 := IntWalk.i32_in _ (by omega)
      have q6 : IntKind.i32.wrap (44032 + (m * 21 + n) * 28) = 44032 + (m * 21 + n) * 28 := IntWalk.i32_in _ (by omega)
      clear h1 h2 h3
      go_enter Tryz.func123, Tryz.ntmps123
      go_wp2_with fail
      refine C1.out.mono ?_
      rintro e w1 ⟨rfl, rfl⟩
      go_wp2_with fail
      refine C2.out.mono ?_
      rintro e w1 ⟨rfl, rfl⟩
      go_wp2
      refine bodyPost_ret (results_tmp2 rfl _ _ _) rfl ?_
      have e9 : (4352 + m - 4352) * 21 + (4449 + n) - 4449 = m * 21 + n := by omega
      rw [e9] at HX
      exact ⟨by rw [HX.out]; first | rfl | (simp only [Option.getD_some, Option.isSome_some]; congr 4; omega), rfl⟩
    | false =>
      rw [h2] at C2 HX
      replace HX : Hid (synP a b = none) := HX
      clear h1 h2 h3
      go_enter Tryz.func123, Tryz.ntmps123
      go_wp2_with fail
      refine C1.out.mono ?_
      rintro e w1 ⟨rfl, rfl⟩
      go_wp2_with fail
      refine C2.out.mono ?_
      rintro e w1 ⟨rfl, rfl⟩
      go_wp2_with fail
      refine C3.out.mono ?_
      rintro e w1 ⟨rfl, rfl⟩
      go_wp2
      refine bodyPost_ret (results_tmp2 rfl _ _ _) rfl ?_
      exact ⟨by rw [HX.out]; rfl, rfl⟩
  | false =>
    rw [h1] at C1 HX
    cases h3 : sylP a with
    | false =>
      rw [h3] at C3 HX
      replace HX : Hid (synP a b = none) := HX
      clear h1 h3
      go_enter Tryz.func123, Tryz.ntmps123
      go_wp2_with fail
      refine C1.out.mono ?_
      rintro e w1 ⟨rfl, rfl⟩
      go_wp2_with fail
      refine C3.out.mono ?_
      rintro e w1 ⟨rfl, rfl⟩
      go_wp2
      refine bodyPost_ret (results_tmp2 rfl _ _ _) rfl ?_
      exact ⟨by rw [HX.out]; rfl, rfl⟩
    | true =>
      rw [h3] at C3 HX
      have ra : 44032 ≤ a ∧ a < 55204 := by simpa [sylP] using h3
      have q1 : IntKind.i32.wrap (a - 44032) = a - 44032 := IntWalk.i32_in _ (by omega)
      obtain ⟨m, hm⟩ : ∃ m : Nat, a = 44032 + (m : Int) := ⟨(a - 44032).toNat, by omega⟩
      subst hm
      have e1 : (44032 + (m : Int)) - 44032 = m := by omega
      rw [e1] at q1 HX
      have q9 : IntKind.i32.wrap (44032 + (m : Int) - 44032) = m := by rw [e1, q1]
      by_cases hd : (m : Int) % 28 = 0
      · have hd2 : decide ((m : Int) % 28 = 0) = true := decide_eq_true hd
        rw [hd2] at HX
        have b1 : ((m : Int) % 28 == 0) = true := by simpa using hd
        cases h4 : tailP b with
        | true =>
          have rb : 4520 ≤ b ∧ b < 4547 := by simpa [tailP] using h4
          rw [h4] at C4 HX
          replace HX : Hid (synP (44032 + (m : Int)) b = some (44032 + (m : Int) + 1 + b - 4520)) := HX
          have q2 : IntKind.i32.wrap (44032 + (m : Int) + 1) = 44032 + (m : Int) + 1 := IntWalk.i32_in _ (by omega)
          have q3 : IntKind.i32.wrap (44032 + (m : Int) + 1 + b) = 44032 + (m : Int) + 1 + b := IntWalk.i32_in _ (by omega)
          have q4 : IntKind.i32.wrap (44032 + (m : Int) + 1 + b - 4520) = 44032 + (m : Int) + 1 + b - 4520 := IntWalk.i32_in _ (by omega)
          clear h1 h3 h4 hd hd2 e1
          go_enter Tryz.func123, Tryz.ntmps123
          go_wp2_with fail
          refine C1.out.mono ?_
          rintro e w1 ⟨rfl, rfl⟩
          go_wp2_with fail
          refine C3.out.mono ?_
          rintro e w1 ⟨rfl, rfl⟩
          go_wp2_with fail
          refine C4.out.mono ?_
          rintro e w1 ⟨rfl, rfl⟩
          go_wp2
          refine bodyPost_ret (results_tmp2 rfl _ _ _) rfl ?_
          exact ⟨by rw [HX.out]; rfl, rfl⟩
        | false =>
          rw [h4] at C4 HX
          replace HX : Hid (synP (44032 + (m : Int)) b = none) := HX
          clear h1 h3 h4 hd hd2 e1
          go_enter Tryz.func123, Tryz.ntmps123
          go_wp2_with fail
          refine C1.out.mono ?_
          rintro e w1 ⟨rfl, rfl⟩
          go_wp2_with fail
          refine C3.out.mono ?_
          rintro e w1 ⟨rfl, rfl⟩
          go_wp2_with fail
          refine C4.out.mono ?_
          rintro e w1 ⟨rfl, rfl⟩
          go_wp2
          refine bodyPost_ret (results_tmp2 rfl _ _ _) rfl ?_
          exact ⟨by rw [HX.out]; rfl, rfl⟩
      · have hd2 : decide ((m : Int) % 28 = 0) = false := decide_eq_false hd
        rw [hd2] at HX
        have b1 : ((m : Int) % 28 == 0) = false := by simpa using hd
        replace HX : Hid (synP (44032 + (m : Int)) b = none) := HX
        clear h1 h3 hd hd2 e1
        go_enter Tryz.func123, Tryz.ntmps123
        go_wp2_with fail
        refine C1.out.mono ?_
        rintro e w1 ⟨rfl, rfl⟩
        go_wp2_with fail
        refine C3.out.mono ?_
        rintro e w1 ⟨rfl, rfl⟩
        go_wp2
        refine bodyPost_ret (results_tmp2 rfl _ _ _) rfl ?_
        exact ⟨by rw [HX.out]; rfl, rfl⟩
end Go.Proofs.YtcfhblbmpbfoaaaGreatDoor
