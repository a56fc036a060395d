/- The kit's marks of tokens. -/
import Derived.Test.YtbnnhbmnddaafaaGreatDoorTi
import Derived.Test.YtbnnhbmnddaafaaGreatDoorSu
import Derived.Test.YtbnnhbmnddaafaaGreatDoorK16
namespace Go.Proofs.YtbnnhbmnddaafaaGreatDoor
open Go Go.RowKit Go.Kt Go.Shelf Go.Lib
attribute [local go_sem] Oper.semAt_some

def mtL (k i : Nat) : List UInt8 := [35, UInt8.ofNat (k % 256), UInt8.ofNat (k / 256), UInt8.ofNat (i % 256), UInt8.ofNat (i / 256 % 256)]
set_option maxRecDepth 100000 in
theorem markText_any (k i : Nat) (w : World) (hk : k ≤ 1000) (_hi : i ≤ 4194304) :
    Calls Tryz.prog 84 #[.int .i64 (k : Nat), .int .i64 (i : Nat)] w fun e w' => e = .returned (.string ⟨(mtL k i).toArray⟩) ∧ Below w.heap.size w w' := by
  have hc : Lib.byteCells (mtL k i) = [.int .u8 35, .int .u8 ((k : Int) % 256), .int .u8 ((k : Int) / 256), .int .u8 ((i : Int) % 256), .int .u8 ((i : Int) / 256 % 256)] := by
    have h : ∀ n : Nat, n < 256 → (((UInt8.ofNat n).toNat : Nat) : Int) = (n : Int) := fun n hn => by rw [UInt8.toNat_ofNat']; omega
    unfold mtL
    simp only [Lib.byteCells, List.map_cons, List.map_nil]
    rw [h (k % 256) (by omega), h (k / 256) (by omega), h (i % 256) (by omega), h (i / 256 % 256) (by omega)]
    simp
  have ht := (newB_own (l := mtL k i) (w := w) (by simp [mtL])).text
  rw [hc] at ht
  have hl : (mtL k i).length = 5 := rfl
  rw [hl] at ht
  generalize mtL k i = X at *
  clear hc hl
  go_enter Tryz.func84, Tryz.ntmps84
  go_wp2_with (simp only [ht])
  go_ret
  exact ⟨rfl, (Below.refl _ w).alloc (Nat.le_refl _) _⟩
def mkT (k i : Nat) : List Value := [.int .i64 (-7), .string ⟨(mtL k i).toArray⟩, .int .i64 0, .int .i64 0, .int .i64 0]
theorem tinfoSlT : (Tryz.prog.info? 23).map (fun i => (i.zero, i.size, i.bytes)) = some (some (.slice none 0 0), 1, 24) := by kernel_rfl
theorem akT : Lk.AK Tryz.prog 30 23 63 5 48 (.agg #[.int .i64 0, .string ⟨#[]⟩, .int .i64 0, .int .i64 0, .int .i64 0]) mkT :=
  ⟨Tryz.underlying23, tinfoTok, rfl, by decide, Tryz.underlying63, tinfoSlT, fun _ _ => rfl, fun k i u hu => by
    unfold mkT at hu
    simp at hu
    rcases hu with rfl | rfl | rfl <;> rfl, by decide⟩
set_option maxRecDepth 100000 in
theorem markTokens_any (k i : Nat) (w : World) (hk : k ≤ 1000) (hi : i ≤ 4194304) :
    Calls Tryz.prog 55 #[.int .i64 (k : Nat), .int .i64 (i : Nat)] w fun e w' => e = .returned (tkA (-7) ⟨(mtL k i).toArray⟩ 0 0 0) ∧ Below w.heap.size w w' := by
  have CM := Lib.hid (fun V => markText_any k i V hk hi)
  generalize mtL k i = X at *
  obtain ⟨n, hn⟩ : ∃ n, w.heap.size = n := ⟨_, rfl⟩
  obtain ⟨W0, hW0⟩ : ∃ W0, w.alloc (.cells (tkX 0 ⟨#[]⟩ 0 0 0) 30) = W0 := ⟨_, rfl⟩
  have n0 : W0.heap[n]? = some (.cells (tkX 0 ⟨#[]⟩ 0 0 0) 30 (0, 0)) := by rw [← hW0, ← hn]; exact World.alloc_heap_new w _
  have b0 : Below n w W0 := by rw [← hW0, ← hn]; exact (Below.refl _ w).alloc (Nat.le_refl _) _
  have HST : Hid (∀ w5, Below W0.heap.size W0 w5 → ∃ W7, (Instr.storeAt 30 (.pointer (some ⟨n, 0, none⟩)) (tkA (-7) ⟨X.toArray⟩ 0 0 0)).run Tryz.prog w5 = .ok () W7 ∧ W7.heap[n]? = some (.cells (tkX (-7) ⟨X.toArray⟩ 0 0 0) 30 (0, 0)) ∧ Below n w W7) := Lib.hid fun w5 h5 => by
    have hlt := (Array.getElem?_eq_some_iff.1 n0).1
    have n5 := (h5.block n hlt).trans n0
    exact ⟨_, store_new w5 n _ _ _ _ _ (-7) ⟨X.toArray⟩ 0 0 0 n5, set5_at (-7) ⟨X.toArray⟩ 0 0 0 n5, (b0.trans (h5.mono (by omega))).trans (set5_below (V := w5) (Nat.le_refl n) (-7) ⟨X.toArray⟩ 0 0 0)⟩
  rw [hn]
  clear n0 b0
  go_enter Tryz.func55, Tryz.ntmps55
  go_wp2_with (first | (go_at_call 84; refine (CM.out _).mono ?_; clear CM; rintro e w5 ⟨rfl, h5⟩; obtain ⟨W7, st, n7, b7⟩ := HST.out w5 h5; have ST := Lib.hid st; have HE := Lib.hid (And.intro n7 b7); clear st n7 b7 HST) | (refine wpList_store_eq rfl rfl rfl rfl rfl ST.out ?_; clear ST))
  (try simp only [Exit.inBlock, Exit.then])
  refine bodyPost_ret (results_cell_row rfl _ _ n 30 (tkX (-7) ⟨X.toArray⟩ 0 0 0) (0, 0) _ rfl HE.out.1 Tryz.underlying30 rfl (by kernel_rfl)) rfl ?_
  exact ⟨rfl, HE.out.2⟩
end Go.Proofs.YtbnnhbmnddaafaaGreatDoor
