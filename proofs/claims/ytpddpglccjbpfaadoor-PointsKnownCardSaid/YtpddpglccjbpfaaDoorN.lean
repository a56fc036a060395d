import Derived.Test.YtpddpglccjbpfaaDoorK
import Derived.Test.YtpddpglccjbpfaaDoorG
import Derived.RangeFuncBound
import Derived.Shelf.Abstract
import Derived.Shelf.RegionOpen
import Derived.OwnWalkIn
import Derived.TacticsInMore
import Derived.LoopNIn
import Derived.LoopIn
namespace Go.Proofs.YtpddpglccjbpfaaDoor
open Go Go.RowKit Go.Kt Go.Shelf
attribute [local go_sem] Oper.semAt_some

theorem run_next_str {P : Program} (W : World) (k : Nat) (s : ByteArray) (pos : Nat) (ty : TypeId) (hb : W.heap[k]? = some (.stringIter s pos)) (h : pos < s.size) :
    (Instr.next (.pointer (some ⟨k, 0, none⟩)) true ty).run P W =
      .ok (.tuple #[.bool true, .int .i64 pos, .int .i32 (Utf8.decode s pos).1]) (W.putObj k (.stringIter s (pos + (Utf8.decode s pos).2))) := by
  simp only [Instr.next, getObj, setObj, Sem.run_bind, Sem.run, hb, Result.andThen, h, if_true]
  simp [goInt, World.putObj]
theorem run_next_str_end {P : Program} (W : World) (k : Nat) (s : ByteArray) (pos : Nat) (ty : TypeId) (hb : W.heap[k]? = some (.stringIter s pos)) (h : ¬ pos < s.size) :
    (Instr.next (.pointer (some ⟨k, 0, none⟩)) true ty).run P W = .ok (.tuple #[.bool false]) W := by
  simp [Instr.next, getObj, Sem.run, hb, h]

def unitsF (s : ByteArray) : Nat → Nat → List (Nat × Nat)
  | 0, _ => []
  | f + 1, pos => if pos < s.size then (pos, (Utf8.decode s pos).1) :: unitsF s f (pos + (Utf8.decode s pos).2) else []
def units (s : ByteArray) : List (Nat × Nat) := unitsF s s.size 0
abbrev enc2 (p : Nat × Nat) : Array Value := #[.int .i64 p.1, .int .i32 p.2]

theorem dec_width (s : ByteArray) (pos : Nat) (h : pos < s.size) : 1 ≤ (Utf8.decode s pos).2 ∧ (Utf8.decode s pos).2 ≤ 4 ∧ pos + (Utf8.decode s pos).2 ≤ s.size := by
  rcases decode_wide s pos h with ⟨_, e⟩ | ⟨w, h1, h4, hw, _, e⟩
  · rw [e]; simp; omega
  · omega
def iterPos (W : World) (k : Nat) : Nat := match W.heap[k]? with | some (.stringIter _ p) => p | _ => 0
theorem iterPos_eq {W : World} {k : Nat} {s : ByteArray} {p : Nat} (h : W.heap[k]? = some (.stringIter s p)) : iterPos W k = p := by simp [iterPos, h]

theorem all_iter (s : ByteArray) (bs : Nat) (w0 : World) (hc : w0.cell? ⟨bs, 0, none⟩ = some (.string s)) (_hs : s.size ≤ 4611686018427387904) :
    Iter Tryd.prog 87 #[.pointer (some ⟨bs, 0, none⟩)] enc2 (units s) (fun b => b = bs) w0 := by
  intro l X J Jx W hNd hX hsame hsz hJ hJx hY h0
  have hcW : W.cell? ⟨bs, 0, none⟩ = some (.string s) := (World.cell?_of_block (w := w0) (a := ⟨bs, 0, none⟩) (hsame bs rfl)).trans hc
  have hbs : bs < W.heap.size := lt_of_cell hcW
  have hX' : ¬ X bs := hNd bs rfl
  refine (callsIn_wide (n := 0)).1 ?_
  refine callsIn_of_wp Tryd.func87 rfl trivial ?_ rfl
  simp only [Tryd.ntmps87, List.size_toArray, List.length_cons, List.length_nil, Nat.reduceAdd, Nat.reduceSub, Array.replicate_succ, Array.replicate_zero, List.push_toArray, List.append_toArray, List.nil_append, List.cons_append]
  gi_wp2
  have HJ0 : J [] (fun _ => False) (W.alloc (.stringIter s 0)) := hJ _ _ _ _ ((Keep.refl _ W).alloc _) h0
  gi_loopw [3] (fun _ wr => ∃ (pre : List (Nat × Nat)) (Y : Nat → Prop) (pos f : Nat), (∀ b, Y b → W.heap.size + 1 ≤ b) ∧ pre ++ unitsF s f pos = units s ∧ s.size ≤ pos + f ∧ J pre Y wr ∧ Keep X W wr ∧ W.heap.size < wr.heap.size ∧ wr.heap[W.heap.size]? = some (.stringIter s pos))
    (fun _ wr => s.size - iterPos wr W.heap.size)
  case atStart =>
    exact ⟨[], _, 0, s.size, fun _ h => h.elim, rfl, by omega, HJ0, (Keep.refl X W).alloc _, (Array.getElem?_eq_some_iff.1 (World.alloc_heap_new W (.stringIter s 0))).1, World.alloc_heap_new W _⟩
  case round =>
    obtain ⟨pre, Y, pos, f, hYl, hp, hf, hJs, hk, hlt, hit⟩ := hrel
    by_cases hpos : pos < s.size
    · obtain ⟨d1, d2, d3⟩ := dec_width s pos hpos
      obtain ⟨f', rfl⟩ : ∃ f', f = f' + 1 := ⟨f - 1, by omega⟩
      have hun : unitsF s (f' + 1) pos = (pos, (Utf8.decode s pos).1) :: unitsF s f' (pos + (Utf8.decode s pos).2) := by rw [unitsF, if_pos hpos]
      rw [hun] at hp
      have hpre : pre ++ [(pos, (Utf8.decode s pos).1)] <+: units s := ⟨unitsF s f' (pos + (Utf8.decode s pos).2), by rw [← hp]; simp⟩
      obtain ⟨W1, hW1⟩ : ∃ W1, wr.putObj W.heap.size (.stringIter s (pos + (Utf8.decode s pos).2)) = W1 := ⟨_, rfl⟩
      have hb1 : Below W.heap.size wr W1 := by rw [← hW1]; exact below_putObj (Nat.le_refl _) _
      have hit1 : W1.heap[W.heap.size]? = some (.stringIter s (pos + (Utf8.decode s pos).2)) := by rw [← hW1]; exact World.putObj_heap_same hlt
      have hk1 : Keep X W W1 := hk.then hb1
      have hst : Keep (fun b => W.heap.size ≤ b ∧ ¬ Y b) wr W1 := by rw [← hW1]; exact (Keep.refl _ wr).putObj (.inl ⟨Nat.le_refl _, fun hy => by have := hYl _ hy; omega⟩) _
      have hlt1 : W.heap.size < W1.heap.size := (Array.getElem?_eq_some_iff.1 hit1).1
      obtain ⟨fn, tmps, assign, body, hy, hR⟩ := hY pre _ Y W1 hpre (hJ _ _ _ _ hst hJs) (by omega) (fun b hb => by have := hYl b hb; omega)
      have hnx : ∀ ty, (Instr.next (.pointer (some ⟨W.heap.size, 0, none⟩)) true ty).run Tryd.prog wr = .ok (.tuple #[.bool true, .int .i64 pos, .int .i32 (Utf8.decode s pos).1]) W1 := fun ty => by
        rw [← hW1]; exact run_next_str wr W.heap.size s pos ty hit hpos
      generalize Utf8.decode s pos = dd at *
      obtain ⟨r, wd⟩ := dd
      have Hdat := Lib.hid (And.intro hp (And.intro hf (And.intro hit (And.intro hit1 hpre))))
      clear hp hf hun hpre hit hit1 hW1
      gi_wp2
      refine ⟨rfl, hR.mono ?_⟩
      rintro e W2 ⟨Y', hk2, hY', (⟨rfl, hJ2⟩ | ⟨rfl, hJx2⟩)⟩
      · obtain ⟨hp, hf, hit, hit1, hpre⟩ := Hdat.out
        have hit2 := hk2.heap hit1 (fun h => by rcases h with h | h; have := hX _ h; omega; have := hYl _ h; omega)
        have hkW : Keep X W W2 := ⟨hk2.os.trans hk1.os, hk2.tape.trans hk1.tape, hk2.output.trans hk1.output, Nat.le_trans hk1.size hk2.size, fun b hb hx => (hk2.same b (Nat.lt_of_lt_of_le hb hk1.size) (fun h => by rcases h with h | h; exact hx h; have := hYl b h; omega)).trans (hk1.same b hb hx)⟩
        gi_wp2
        go_roundw
        case rel => exact ⟨pre ++ [(pos, r)], Y', pos + wd, f', fun b hb => by rcases hY' b hb with h | h; exact hYl b h; omega, by rw [List.append_assoc]; exact hp, by omega, hJ2, hkW, (Array.getElem?_eq_some_iff.1 hit2).1, hit2⟩
        case measure => rw [iterPos_eq hit2, iterPos_eq hit]; omega
      · obtain ⟨hp, hf, hit, hit1, hpre⟩ := Hdat.out
        gi_wp2
        refine bodyPost_ret (results_none rfl _ _ _) rfl ?_
        have hkW : Keep X W W2 := ⟨hk2.os.trans hk1.os, hk2.tape.trans hk1.tape, hk2.output.trans hk1.output, Nat.le_trans hk1.size hk2.size, fun b hb hx => (hk2.same b (Nat.lt_of_lt_of_le hb hk1.size) (fun h => by rcases h with h | h; exact hx h; have := hYl b h; omega)).trans (hk1.same b hb hx)⟩
        exact ⟨⟨_, rfl⟩, hkW, .inr ⟨_, Y', hpre, fun b hb => by rcases hY' b hb with h | h; have := hYl b h; omega; omega, hJx2⟩⟩
    · have hnx : ∀ ty, (Instr.next (.pointer (some ⟨W.heap.size, 0, none⟩)) true ty).run Tryd.prog wr = .ok (.tuple #[.bool false]) wr := fun ty => run_next_str_end wr W.heap.size s pos ty hit hpos
      have hun : unitsF s f pos = [] := by
        cases f with
        | zero => rfl
        | succ f => rw [unitsF, if_neg hpos]
      rw [hun, List.append_nil] at hp
      have Hp := Lib.hid hp
      clear hp hit hun
      gi_wp2
      go_end0
      exact ⟨⟨_, rfl⟩, hk, .inl ⟨Y, fun b hb => by have := hYl b hb; omega, Hp.out ▸ hJs⟩⟩
end Go.Proofs.YtpddpglccjbpfaaDoor
