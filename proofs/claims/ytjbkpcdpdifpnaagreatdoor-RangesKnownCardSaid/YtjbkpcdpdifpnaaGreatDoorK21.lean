/- What is the same of any program: slices and lengths in a drawn region (steps for K9). -/
import Derived.Test.YtjbkpcdpdifpnaaGreatDoorCk7
namespace Go.Kt
open Go Go.RowKit

section
variable {P : Program} {o : Oper} {a : Act} {w w' : World}
theorem exec_slice {t : TypeId} {x : Operand} {lo hi mx : Option Operand} {u v : Value} {l h m : Option Value} (ho : o.op = .slice t x lo hi mx) (hx : a.eval x = u) (h1 : lo.map a.eval = l) (h2 : hi.map a.eval = h) (h3 : mx.map a.eval = m) (hr : (Instr.sliceAt t u l h m).run P w = .ok v w') : (execOp a.eval o).run P w = .ok (.value v) w' := by
  unfold execOp; rw [ho]; simp only [hx, h1, h2, h3]; exact run_val hr
theorem wp_len_run {v y : Value} {K : Act → World → Prop} {Q : Exit → Act → World → Prop} {x : Operand} {t : TypeId}
    (ho : o.op = .call { callee := .builtin .len, args := #[x], argTypes := #[t] }) (hx : a.eval x = v) (hr : (Builtin.len_ #[t] o.type #[v]).run P w = .ok y w') (h : K (a.put o.dst y) w') : o.wp P a w K Q := by
  unfold Oper.wp execOp
  simp only [ho, resolve, invoke, builtin, Sem.run_bind, Sem.run_pure, Result.andThen_ok, List.map_toArray, List.map_cons, List.map_nil, hx, hr]
  exact h
end
end Go.Kt
