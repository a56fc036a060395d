/- props: sort.Search. -/
import Derived.Test.YtdmimdiffjpjpaaGreatDoorMa
import Derived.Test.YtdmimdiffjpjpaaGreatDoorGz1
import Derived.Test.YtdmimdiffjpjpaaGreatDoorGz3
namespace Go.Proofs.YtdmimdiffjpjpaaGreatDoor
open Go Go.RowKit Go.Kt Go.Kt.Bits

set_option maxRecDepth 100000 in
theorem psearch (g : Nat) (cb : Array Value) (n : Nat) (p : Nat → Bool) (w : World) (eg : ∀ args w, (callFunc g args).run Tryz.prog w = .ok (.enter g args) w) (hn : n ≤ 140737488351232)
    (hf : ∀ (m i : Nat), i < n → Calls Tryz.prog g (#[.int .i64 i] ++ cb) (w.drewN m) fun e w' => e = .returned (.bool (p i)) ∧ ∃ q, w' = (w.drewN m).drewN q)
    (hm : ∀ a b, a ≤ b → p a = true → p b = true) :
    Calls Tryz.prog 108 #[.int .i64 n, .func (.func g) #[] cb] w fun e w' => e = .returned (.int .i64 (cnt (fun i => !p i) n : Nat)) ∧ ∃ q, w' = w.drewN q := by
  have HF := Lib.hid hf
  have HM := Lib.hid hm
  have HC := Lib.hid (count_front p hm n)
  have hcl := cnt_le (fun i => !p i) n
  obtain ⟨j, hj⟩ : ∃ j, cnt (fun i => !p i) n = j := ⟨_, rfl⟩
  rw [hj] at HC hcl ⊢
  clear hf hm hj
  go_enter Tryz.func108, Tryz.ntmps108
  go_wp2
  go_loopg [5, 6] n (fun kx s5 s6 wr => ∃ (lo hi q : Nat), s5 = .int .i64 lo ∧ s6 = .int .i64 hi ∧ lo ≤ j ∧ j ≤ hi ∧ hi ≤ n ∧ hi - lo ≤ kx ∧ wr = w.drewN q)
  case atStart => exact ⟨0, n, 0, rfl, rfl, by omega, hcl, by omega, by omega, rfl⟩
  case round =>
    obtain ⟨lo, hi, q, rfl, rfl, h1, h2, h3, h4, rfl⟩ := hrel
    by_cases hlt : lo < hi
    · have hc := HF.out q ((lo + hi) / 2) (by omega)
      rw [show (((lo + hi) / 2 : Nat) : Int) = ((lo : Int) + (hi : Int)) / 2 by omega] at hc
      cases hp : p ((lo + hi) / 2) <;> rw [hp] at hc
      · have hj1 : (lo + hi) / 2 < j := by
          rcases Nat.lt_or_ge ((lo + hi) / 2) j with h | h
          · exact h
          · have := HC.out.2 _ h (by omega); rw [hp] at this; cases this
        have CC := Lib.hid hc
        clear hp hc
        go_wp2_with (go_at_fn g; refine CC.out.mono ?_; rintro e w' ⟨rfl, nq, rfl⟩)
        go_roundg (hi - ((lo + hi) / 2 + 1))
        case measure => omega
        case rel => exact ⟨(lo + hi) / 2 + 1, hi, q + nq, by rw [show ((lo : Int) + (hi : Int)) / 2 + 1 = (((lo + hi) / 2 + 1 : Nat) : Int) by omega], rfl, by omega, h2, h3, Nat.le_refl _, rfl⟩
      · have hj1 : j ≤ (lo + hi) / 2 := by
          rcases Nat.lt_or_ge ((lo + hi) / 2) j with h | h
          · have := HC.out.1 _ h; rw [hp] at this; cases this
          · exact h
        have CC := Lib.hid hc
        clear hp hc
        go_wp2_with (go_at_fn g; refine CC.out.mono ?_; rintro e w' ⟨rfl, nq, rfl⟩)
        go_roundg ((lo + hi) / 2 - lo)
        case measure => omega
        case rel => exact ⟨lo, (lo + hi) / 2, q + nq, rfl, by rw [show ((lo : Int) + (hi : Int)) / 2 = (((lo + hi) / 2 : Nat) : Int) by omega], h1, hj1, by omega, Nat.le_refl _, rfl⟩
    · obtain rfl : lo = j := by omega
      go_wp2
      go_ret
      exact ⟨rfl, q, rfl⟩
end Go.Proofs.YtdmimdiffjpjpaaGreatDoor
