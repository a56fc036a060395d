/- props: the parts of a syllable. -/
import Derived.Test.YtdmimdiffjpjpaaGreatDoorGz7
import Derived.Test.YtdmimdiffjpjpaaGreatDoorJk
namespace Go.Proofs.YtdmimdiffjpjpaaGreatDoor
open Go Go.RowKit Go.Kt Go.Kt.Rg Go.Maps

/-- A syllable's lead, vowel and tail, if it has one; the syllable is 44032 and n. -/
def partsP (n : Nat) : List Nat := [4352 + n / 28 / 21, 4449 + n / 28 % 21] ++ if n % 28 = 0 then [] else [4519 + n % 28]

theorem own_full (w : World) (xs : List Value) (e : TypeId) (hm : xs.length ≤ maxLen) : OwnS (fun b => b = w.heap.size) e 1 (.slice (some ⟨w.heap.size, 0, none⟩) xs.length xs.length) xs.length xs (w.alloc (.cells xs.toArray e)) :=
  ⟨⟨by simp, .inr ⟨w.heap.size, xs.length, xs.toArray, rfl, Nat.zero_le _, heap_alloc_new w _, Nat.le_refl _, hm, by simp, by simp⟩⟩, fun b hb => by simp [Value.ownBlock] at hb; exact hb.symm⟩
set_option maxRecDepth 100000 in
set_option maxHeartbeats 2000000 in
theorem pparts (n : Nat) (hn : n < 11172) (w : World) : Calls Tryz.prog 47 #[.int .i32 (44032 + (n : Nat))] w fun e w' => ∃ ao cp, e = .returned (.slice ao (partsP n).length cp) ∧ OwnS (fun b => w.heap.size ≤ b) 21 1 (.slice ao (partsP n).length cp) (partsP n).length (encN (partsP n)) w' ∧ Below w.heap.size w w' := by
  have e1 : IntKind.i32.wrap ((44032 + (n : Int)) - 44032) = n := by rw [IntWalk.i32_in _ (by omega)]; omega
  obtain ⟨h, hh⟩ : ∃ h, w.heap.size = h := ⟨_, rfl⟩
  obtain ⟨W1, hW1⟩ : ∃ W1, w.alloc (.cells #[.int .i32 (4352 + (n : Int) / 28 / 21), .int .i32 (4449 + (n : Int) / 28 % 21)] 21) = W1 := ⟨_, rfl⟩
  have ho := own_full w [.int .i32 (4352 + (n : Int) / 28 / 21), .int .i32 (4449 + (n : Int) / 28 % 21)] 21 (by show 2 ≤ maxLen; decide)
  replace ho : OwnS (fun b => b = h) 21 1 (.slice (some ⟨h, 0, none⟩) 2 2) 2 [.int .i32 (4352 + (n : Int) / 28 / 21), .int .i32 (4449 + (n : Int) / 28 % 21)] W1 := by
    rw [hh] at ho
    rw [← hW1]
    exact ho
  have hb1 : Below h w W1 := by rw [← hW1, ← hh]; exact (Below.refl _ w).alloc (Nat.le_refl _) _
  have hz1 : W1.heap.size = h + 1 := by rw [← hW1, ← hh]; exact Array.size_push _
  have HB := Lib.hid (And.intro hb1 (And.intro ho hz1))
  by_cases hc : n % 28 = 0
  · have HP : Hid (partsP n = [4352 + n / 28 / 21, 4449 + n / 28 % 21]) := Lib.hid (by unfold partsP; rw [if_pos hc]; rfl)
    have q0 : ((n : Int) % 28 != 0) = false := by
      have : (n : Int) % 28 = 0 := by omega
      rw [this]; rfl
    rw [HP.out]
    clear hc ho hb1 hz1
    go_enter Tryz.func47, Tryz.ntmps47
    go_wp2
    go_ret
    rw [hh]
    exact ⟨some ⟨h, 0, none⟩, 2, rfl, HB.out.2.1.weaken (fun b hb => by omega), HB.out.1⟩
  · have HP : Hid (partsP n = [4352 + n / 28 / 21, 4449 + n / 28 % 21] ++ [4519 + n % 28]) := Lib.hid (by unfold partsP; rw [if_neg hc])
    have q0 : ((n : Int) % 28 != 0) = true := by
      simp only [bne_iff_ne, ne_eq]
      omega
    obtain ⟨g, cap, w3, hrun, hown3, hk3, hg3, hz3⟩ := append_x (P := Tryz.prog) W1 22 21 Tryz.underlying22 tinfoI32 rfl (by omega) ho [.int .i32 (4520 + (n : Int) % 28 - 1)] rfl
      (by intro u hu; simp at hu; rcases hu with rfl; rfl) (by unfold maxLen; omega) (by omega)
    have hgg : h ≤ g := by
      rcases hg3 with hx | hx
      · simp [Value.ownBlock] at hx; omega
      · omega
    have HRun := Lib.hid hrun
    have H3 := Lib.hid (And.intro hown3 (And.intro (hb1.trans (hk3.below (by omega) (fun b hb => by simp [Value.ownBlock] at hb; omega))) hgg))
    have HZ := Lib.hid hz1
    rw [HP.out]
    clear hc ho hb1 hz1 hrun hown3 hk3 hg3 hz3 hgg
    go_enter Tryz.func47, Tryz.ntmps47
    go_wp2_with (at_builtin; refine wpList_append_eq rfl rfl rfl rfl HRun.out ?_)
    go_ret
    rw [hh]
    have e : encN [4352 + n / 28 / 21, 4449 + n / 28 % 21, 4519 + n % 28] = [.int .i32 (4352 + (n : Int) / 28 / 21), .int .i32 (4449 + (n : Int) / 28 % 21)] ++ [.int .i32 (4520 + (n : Int) % 28 - 1)] := by
      simp [encN]
      omega
    rw [e]
    exact ⟨some ⟨g, 0, none⟩, cap, rfl, H3.out.1.weaken (fun b hb => by have := H3.out.2.2; omega), H3.out.2.1⟩
end Go.Proofs.YtdmimdiffjpjpaaGreatDoor
