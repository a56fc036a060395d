/- ScanQuote: digits of a byte, and what the document's Quote does with them. -/
import Derived.Test.YtbnnhbmnddaafaaGreatDoorSq
import Derived.Test.YtbnnhbmnddaafaaGreatDoorK14
import Derived.Test.YtbnnhbmnddaafaaGreatDoorK15
namespace Go.Kt
open Go
section
variable {P : Program} {o : Oper} {a : Act} {w w' : World}
theorem exec_index {t : TypeId} {x y : Operand} {u1 u2 v : Value} (ho : o.op = .index t x y) (hx : a.eval x = u1) (hy : a.eval y = u2) (h : (Instr.index t u1 u2).run P w = .ok v w') : (execOp a.eval o).run P w = .ok (.value v) w' := by
  unfold execOp; rw [ho]; simp only [hx, hy]; exact run_val h
theorem exec_assign {x : Operand} {u : Value} (ho : o.op = .assign x) (hx : a.eval x = u) : (execOp a.eval o).run P w = .ok (.value u) w := by
  unfold execOp; rw [ho]; simp only [hx]; rfl
end
end Go.Kt
namespace Go.Proofs.YtbnnhbmnddaafaaGreatDoor
open Go Go.RowKit Go.Kt Go.Kt.Rg Go.Shelf Go.Lib
attribute [local go_sem] Oper.semAt_some

theorem digit8_ix : ∀ (d : Nat), d < 16 → ∀ w : World, (Instr.index 9 (.string ⟨#[48, 49, 50, 51, 52, 53, 54, 55, 56, 57, 97, 98, 99, 100, 101, 102]⟩) (.int .u8 (d : Nat))).run Tryz.prog w = .ok (.int .u8 ((hexD d).toNat : Nat)) w
  | 0, _ => fun _ => by kernel_rfl
  | 1, _ => fun _ => by kernel_rfl
  | 2, _ => fun _ => by kernel_rfl
  | 3, _ => fun _ => by kernel_rfl
  | 4, _ => fun _ => by kernel_rfl
  | 5, _ => fun _ => by kernel_rfl
  | 6, _ => fun _ => by kernel_rfl
  | 7, _ => fun _ => by kernel_rfl
  | 8, _ => fun _ => by kernel_rfl
  | 9, _ => fun _ => by kernel_rfl
  | 10, _ => fun _ => by kernel_rfl
  | 11, _ => fun _ => by kernel_rfl
  | 12, _ => fun _ => by kernel_rfl
  | 13, _ => fun _ => by kernel_rfl
  | 14, _ => fun _ => by kernel_rfl
  | 15, _ => fun _ => by kernel_rfl
  | n + 16, h => absurd h (by omega)
theorem quo16 (x y : Operand) (b : Nat) (hb : b < 256) (X : World) : (do eqGuard .quo 5 x y (.int .u8 (b : Nat)) (.int .u8 16); binOp .quo 5 (.int .u8 (b : Nat)) (.int .u8 16) : Sem Value).run Tryz.prog X = .ok (.int .u8 ((b / 16 : Nat) : Int)) X := by
  go_simp
  exact IntWalk.u8_in _ (by omega)
theorem rem16 (x y : Operand) (b : Nat) (hb : b < 256) (X : World) : (do eqGuard .rem 5 x y (.int .u8 (b : Nat)) (.int .u8 16); binOp .rem 5 (.int .u8 (b : Nat)) (.int .u8 16) : Sem Value).run Tryz.prog X = .ok (.int .u8 ((b % 16 : Nat) : Int)) X := by
  go_simp
  rw [Int.tmod_eq_emod_of_nonneg (by omega)]
theorem app_row {w1 Wo : World} {v : Value} {k : Nat} {acc : List UInt8} (hown : OwnS (fun b => w1.heap.size ≤ b) 5 1 v k (u8V acc) Wo) (hb : Below w1.heap.size w1 Wo) (bs : List UInt8) (h0 : 0 < bs.length) (hk : k + bs.length ≤ 140737488355328) :
    ∃ g cp W', (∀ ty, (Builtin.append_ #[35, 35] ty #[v, .slice (some ⟨Wo.heap.size, 0, none⟩) bs.length bs.length]).run Tryz.prog (Wo.alloc (.cells (u8V bs).toArray 5)) = .ok (.slice (some ⟨g, 0, none⟩) (k + bs.length) cp) W') ∧
      OwnS (fun b => w1.heap.size ≤ b) 5 1 (.slice (some ⟨g, 0, none⟩) (k + bs.length) cp) (k + bs.length) (u8V (acc ++ bs)) W' ∧ Below w1.heap.size w1 W' := by
  obtain ⟨g, cp, W', h1, h2, h3⟩ := append_bs Wo hown (u8V bs) bs.length (by simp [u8V]) (by intro u hu; simp [u8V] at hu; obtain ⟨x, _, rfl⟩ := hu; rfl) h0 hk
  refine ⟨g, cp, W', h1, ?_, hb.trans (h3.below hb.size (fun y h => hown.2 y h))⟩
  have e : u8V (acc ++ bs) = u8V acc ++ u8V bs := by simp [u8V]
  rw [e]
  exact h2.weaken fun y hy => by
    rcases hy with h | h
    · exact hown.2 y h
    · have := hb.size; omega
theorem app_rowY {Y : Nat → Prop} {Wo : World} {v : Value} {k : Nat} {acc : List UInt8} (hown : OwnS Y 5 1 v k (u8V acc) Wo) (hY : ∀ y, Wo.heap.size ≤ y → Y y) (bs : List UInt8) (h0 : 0 < bs.length) (hk : k + bs.length ≤ 140737488355328) :
    ∃ g cp W', (∀ ty, (Builtin.append_ #[35, 35] ty #[v, .slice (some ⟨Wo.heap.size, 0, none⟩) bs.length bs.length]).run Tryz.prog (Wo.alloc (.cells (u8V bs).toArray 5)) = .ok (.slice (some ⟨g, 0, none⟩) (k + bs.length) cp) W') ∧
      OwnS Y 5 1 (.slice (some ⟨g, 0, none⟩) (k + bs.length) cp) (k + bs.length) (u8V (acc ++ bs)) W' ∧ Keep Y Wo W' := by
  obtain ⟨g, cp, W', h1, h2, h3⟩ := append_bs Wo hown (u8V bs) bs.length (by simp [u8V]) (by intro u hu; simp [u8V] at hu; obtain ⟨x, _, rfl⟩ := hu; rfl) h0 hk
  refine ⟨g, cp, W', h1, ?_, h3.weaken fun y _ h => hown.2 y h⟩
  have e : u8V (acc ++ bs) = u8V acc ++ u8V bs := by simp [u8V]
  rw [e]
  exact h2.weaken fun y hy => by
    rcases hy with h | h
    · exact hown.2 y h
    · exact hY y h
end Go.Proofs.YtbnnhbmnddaafaaGreatDoor
