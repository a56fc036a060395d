/- ScanKnown's own: tok, times. -/
import Derived.Test.YtbnnhbmnddaafaaGreatDoorTh
import Derived.Test.YtbnnhbmnddaafaaGreatDoorSu
import Derived.Test.YtbnnhbmnddaafaaGreatDoorTs
import Derived.Test.YtbnnhbmnddaafaaGreatDoorGz8
namespace Go.Proofs.YtbnnhbmnddaafaaGreatDoor
open Go Go.RowKit Go.Kt Go.Shelf Go.Lib
attribute [local go_sem] Oper.semAt_some

theorem kown_nx {Y : Nat → Prop} {e : TypeId} {size n : Nat} {v : Value} {xs : List Value} {A B : World} (h : OwnS Y e size v n xs A) (hb : Below A.heap.size A B) : OwnS Y e size v n xs B := h.keep (X := fun _ => False) (.of_all hb) (fun _ h => h.elim)
def KEnv (W : World) : Prop := SEnv W ∧ BTab W ∧ 6 < W.heap.size
theorem KEnv.below {A B : World} (h : KEnv A) (hb : Below A.heap.size A B) : KEnv B := ⟨h.1.below hb, h.2.1.below h.2.2 hb, Nat.lt_of_lt_of_le h.2.2 hb.size⟩
theorem tok_yes (k l c i : Int) (t : ByteArray) (w : World) :
    Calls Tryz.prog 8 #[tkA k t l c i, .int .i64 k, .string t, .int .i64 l, .int .i64 c] w fun e w' => e = .returned (.bool true) ∧ Below w.heap.size w w' := by
  go_enter Tryz.func8, Tryz.ntmps8
  go_wp2
  go_ret
  exact ⟨rfl, (Below.refl _ _).alloc (Nat.le_refl _) _⟩
set_option maxRecDepth 100000 in
theorem times_any (b : UInt8) (n : Nat) (w : World) (hn : n ≤ 2097152) :
    Calls Tryz.prog 35 #[.string ⟨#[b]⟩, .int .i64 (n : Nat)] w fun e w' => e = .returned (.string (repB b n)) ∧ Below w.heap.size w w' := by
  go_enter Tryz.func35, Tryz.ntmps35
  go_wp2_with fail
  go_loopw [5, 6] (fun o iv wr => ∃ (i : Nat) (ao : Option Addr) (cp m : Nat) (acc : List UInt8), i ≤ n ∧ iv = .int .i64 i ∧ o = .slice ao m cp ∧ m = acc.length ∧ acc = List.replicate i b ∧ OwnB (fun x => w.heap.size ≤ x) (.slice ao m cp) acc wr ∧ Below w.heap.size w wr) (fun _ iv _ => n - (RowKit.intOf iv).toNat)
  case atStart => exact ⟨0, none, 0, 0, [], by omega, rfl, rfl, rfl, rfl, OwnB.nil _ _, Below.refl _ _⟩
  case round =>
    obtain ⟨i, ao, cp, m, acc, hi, rfl, rfl, hm, hacc, ho, hb⟩ := hrel
    have HI := Lib.hid (And.intro hm (And.intro hacc (And.intro ho hb)))
    clear hm hacc ho hb
    by_cases hlt : i < n
    · have hlt' : (i : Int) < n := by omega
      go_wp2_with fail
      go_loopw [5, 7] (fun o kv wr => ∃ (k : Nat) (ao : Option Addr) (cp m : Nat) (acc : List UInt8), k ≤ 1 ∧ kv = .int .i64 k ∧ o = .slice ao m cp ∧ m = acc.length ∧ acc = List.replicate (i + k) b ∧ OwnB (fun x => w.heap.size ≤ x) (.slice ao m cp) acc wr ∧ Below w.heap.size w wr) (fun _ kv _ => 1 - (RowKit.intOf kv).toNat)
      case atStart => exact ⟨0, ao, cp, m, acc, by omega, rfl, rfl, HI.out.1, HI.out.2.1, HI.out.2.2.1, HI.out.2.2.2⟩
      case round =>
        clear HI
        obtain ⟨k, ao, cp, m, acc, hk, rfl, rfl, hm, hacc, ho, hb⟩ := hrel
        by_cases hkt : k < 1
        · obtain rfl : k = 0 := by omega
          have hl : acc.length ≤ 2097152 := by rw [hacc, List.length_replicate]; omega
          obtain ⟨g3, cap3, w3, hrun, hown3, hb3, hm3⟩ := ownB_add ho hm hb (Nat.le_refl _) b (by omega)
          have HRun := Lib.hid hrun
          have HN : Hid (acc ++ [b] = List.replicate (i + 1) b) := Lib.hid (by rw [hacc, Nat.add_zero, List.replicate_succ'])
          have HO := Lib.hid (And.intro hm3 (And.intro hown3 hb3))
          clear hm hacc ho hb hrun hown3 hb3 hm3 hl
          go_wp2_with (at_builtin; refine wpList_append_eq rfl rfl rfl rfl HRun.out ?_)
          go_roundw
          case rel => exact ⟨1, some ⟨g3, 0, none⟩, cap3, m + 1, acc ++ [b], by omega, by go_num, rfl, HO.out.1, HN.out, HO.out.2.1, HO.out.2.2⟩
          case measure => simp [RowKit.intOf]
        · obtain rfl : k = 1 := by omega
          have HJ := Lib.hid (And.intro hm (And.intro hacc (And.intro ho hb)))
          clear hm hacc ho hb
          go_wp2_with fail
          go_roundw
          case rel => exact ⟨i + 1, ao, cp, m, acc, by omega, by go_num, rfl, HJ.out.1, HJ.out.2.1, HJ.out.2.2.1, HJ.out.2.2.2⟩
          case measure => simp [RowKit.intOf]; omega
    · obtain rfl : i = n := by omega
      have hlt' : ¬ (i : Int) < i := by omega
      have ht := HI.out.2.2.1.text
      rw [show (⟨acc.toArray⟩ : ByteArray) = repB b i by rw [HI.out.2.1]; rfl] at ht
      go_wp2_with (simp only [ht])
      go_ret
      exact ⟨rfl, HI.out.2.2.2⟩
end Go.Proofs.YtbnnhbmnddaafaaGreatDoor
