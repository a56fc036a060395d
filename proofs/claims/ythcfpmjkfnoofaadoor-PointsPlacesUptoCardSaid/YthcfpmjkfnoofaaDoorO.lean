import Derived.Test.YthcfpmjkfnoofaaDoorN
import Derived.Test.YthcfpmjkfnoofaaDoorL
namespace Go.Proofs.YthcfpmjkfnoofaaDoor
open Go Go.RowKit Go.Kt Go.Shelf
attribute [local go_sem] Oper.semAt_some

abbrev encP (p : Nat × Nat) : Array Value := #[.int .i64 p.1, .int .i64 p.2]

set_option maxRecDepth 100000 in
set_option maxHeartbeats 1000000 in
theorem bad_iter (s : ByteArray) (bs : Nat) (w0 : World) (hc : w0.cell? ⟨bs, 0, none⟩ = some (.string s)) (hs : s.size ≤ 4611686018427387904) (hT : Lib.Utf8Tabs 1 2 w0) (hbs2 : 3 ≤ bs) :
    Iter Tryd.prog 126 #[.pointer (some ⟨bs, 0, none⟩)] encP (bads s) (fun b => b = bs ∨ b < 3) w0 := by
  intro l X J Jx W hNd hX hsame hsz hJ hJx hY h0
  have hcW : W.cell? ⟨bs, 0, none⟩ = some (.string s) := (World.cell?_of_block (w := w0) (a := ⟨bs, 0, none⟩) (hsame bs (.inl rfl))).trans hc
  have hTW : Lib.Utf8Tabs 1 2 W := ⟨fun c hc => (World.cell?_of_block (w := w0) (a := ⟨1, c, none⟩) (hsame 1 (.inr (by omega)))).trans (hT.1 c hc), fun i hi => ⟨(World.cell?_of_block (w := w0) (a := ⟨2, 2 * i, none⟩) (hsame 2 (.inr (by omega)))).trans (hT.2 i hi).1, (World.cell?_of_block (w := w0) (a := ⟨2, 2 * i + 1, none⟩) (hsame 2 (.inr (by omega)))).trans (hT.2 i hi).2⟩⟩
  have hbs : bs < W.heap.size := lt_of_cell hcW
  have hXb : ¬ X bs := hNd bs (.inl rfl)
  have hX0 : ¬ X 1 := hNd 1 (.inr (by omega))
  have hX1 : ¬ X 2 := hNd 2 (.inr (by omega))
  have keepT : ∀ {V : World}, Keep X W V → Lib.Utf8Tabs 1 2 V := fun hk => ⟨fun c hc => hk.cell (hTW.1 c hc) hX0, fun i hi => ⟨hk.cell (hTW.2 i hi).1 hX1, hk.cell (hTW.2 i hi).2 hX1⟩⟩
  have KeepT : Hid (∀ V : World, Keep X W V → Lib.Utf8Tabs 1 2 V) := Lib.hid fun V hk => keepT hk
  have HTW := Lib.hid hTW
  have HTw := Lib.hid hT
  clear keepT hTW hT
  have hfn : ∀ k, Fence.wide.fn k := fun _ => trivial
  have hdep : Fence.wide.depth = none := rfl
  refine (callsIn_wide (n := 0)).1 ?_
  refine callsIn_of_wp Tryd.func126 rfl trivial ?_ rfl
  simp only [Tryd.ntmps126, List.size_toArray, List.length_cons, List.length_nil, Nat.reduceAdd, Nat.reduceSub, Array.replicate_succ, Array.replicate_zero, List.push_toArray, List.append_toArray, List.nil_append, List.cons_append]
  gi_wp2
  have HJ0 : J [] (fun _ => False) (W.alloc (.stringIter s 0)) := hJ _ _ _ _ ((Keep.refl _ W).alloc _) h0
  gi_loopw [3] (fun v wr => ∃ (pre : List (Nat × Nat)) (Y : Nat → Prop) (pos e f : Nat), (∀ b, Y b → W.heap.size + 1 ≤ b) ∧ v = .int .i64 e ∧ e ≤ s.size ∧ pre ++ badU s f pos e = bads s ∧ s.size ≤ pos + f ∧ J pre Y wr ∧ Keep X W wr ∧ W.heap.size < wr.heap.size ∧ wr.heap[W.heap.size]? = some (.stringIter s pos))
    (fun _ wr => s.size - iterPos wr W.heap.size)
  case atStart =>
    exact ⟨[], _, 0, 0, s.size, fun _ h => h.elim, rfl, by omega, badU_bads s, by omega, HJ0, (Keep.refl X W).alloc _, (Array.getElem?_eq_some_iff.1 (World.alloc_heap_new W (.stringIter s 0))).1, World.alloc_heap_new W _⟩
  case round =>
    obtain ⟨pre, Y, pos, e, f, hYl, rfl, he, hp, hf, hJs, hk, hlt, hit⟩ := hrel
    have hcr := hk.cell hcW hXb
    by_cases hpos : pos < s.size
    · obtain ⟨d1, d2, d3⟩ := dec_width s pos hpos
      obtain ⟨f', rfl⟩ : ∃ f', f = f' + 1 := ⟨f - 1, by omega⟩
      have hun : badU s (f' + 1) pos e = if pos < e ∨ wideI s pos ≠ 0 then badU s f' (pos + (Utf8.decode s pos).2) e else (pos, badK s pos) :: badU s f' (pos + (Utf8.decode s pos).2) (pos + badK s pos) := by rw [badU, if_pos hpos]
      rw [hun] at hp
      obtain ⟨W1, hW1⟩ : ∃ W1, wr.putObj W.heap.size (.stringIter s (pos + (Utf8.decode s pos).2)) = W1 := ⟨_, rfl⟩
      have hb1 : Below W.heap.size wr W1 := by rw [← hW1]; exact below_putObj (Nat.le_refl _) _
      have hit1 : W1.heap[W.heap.size]? = some (.stringIter s (pos + (Utf8.decode s pos).2)) := by rw [← hW1]; exact World.putObj_heap_same hlt
      have hk1 : Keep X W W1 := hk.then hb1
      have hst : Keep (fun b => W.heap.size ≤ b ∧ ¬ Y b) wr W1 := by rw [← hW1]; exact (Keep.refl _ wr).putObj (.inl ⟨Nat.le_refl _, fun hy => by have := hYl _ hy; omega⟩) _
      have hJ1 : J pre Y W1 := hJ _ _ _ _ hst hJs
      have hlt1 : W.heap.size < W1.heap.size := (Array.getElem?_eq_some_iff.1 hit1).1
      have hcr1 := hk1.cell hcW hXb
      have hnx : ∀ ty, (Instr.next (.pointer (some ⟨W.heap.size, 0, none⟩)) true ty).run Tryd.prog wr = .ok (.tuple #[.bool true, .int .i64 pos, .int .i32 (Utf8.decode s pos).1]) W1 := fun ty => by
        rw [← hW1]; exact run_next_str wr W.heap.size s pos ty hit hpos
      have CI := Lib.hid (ill_any s pos W1 hpos (KeepT.out _ hk1) hs)
      have Hit := Lib.hid (And.intro hit hit1)
      clear hit hit1 hW1 hun
      have Hp := Lib.hid hp
      clear hp
      generalize Utf8.decode s pos = dd at *
      obtain ⟨r, wd⟩ := dd
      simp only at CI Hp d1 d2 d3 hnx
      by_cases hpe : pos < e
      · gi_wp2
        go_roundw
        case rel => exact ⟨pre, Y, pos + wd, e, f', hYl, rfl, he, by have := Hp.out; rw [if_pos (.inl hpe)] at this; exact this, by omega, hJ1, hk1, hlt1, Hit.out.2⟩
        case measure => rw [iterPos_eq Hit.out.2, iterPos_eq Hit.out.1]; omega
      · by_cases hw : wideI s pos = 0
        · have hi : illB s pos = true := by unfold illB; simp [hw]
          rw [hi] at CI
          have hbk := badK_bd s pos hpos
          have CP : Hid (∀ V, Keep X W V → Calls Tryd.prog 128 #[.string (s.extract pos s.size)] V fun e w' => e = .returned (.int .i64 (badK s pos)) ∧ Below V.heap.size V w') := Lib.hid fun V hkV => by
            have := piece_any (s.extract pos s.size) V (KeepT.out _ hkV) (by have := hkV.size; omega) (by rw [tail_size s pos (by omega)]; omega) (by rw [tail_size s pos (by omega)]; omega)
            rw [piece_bad s pos hpos hw] at this
            exact this
          have hpre : pre ++ [(pos, badK s pos)] <+: bads s := ⟨badU s f' (pos + wd) (pos + badK s pos), by have := Hp.out; rw [if_neg (by omega)] at this; rw [← this]; simp⟩
          have Hp2 : Hid ((pre ++ [(pos, badK s pos)]) ++ badU s f' (pos + wd) (pos + badK s pos) = bads s) := Lib.hid (by have := Hp.out; rw [if_neg (by omega)] at this; rw [← this]; simp)
          have Hpre := Lib.hid hpre
          clear hw hi hpre Hp
          generalize badK s pos = bk at *
          gi_wp2_with fail
          refine (callsIn_wide.2 CI.out).mono ?_
          rintro e1 V1 ⟨rfl, hb2⟩
          have hk2 : Keep X W V1 := hk1.trans (.of_all hb2)
          have hcr2 := hk2.cell hcW hXb
          gi_wp2_with fail
          refine (callsIn_wide.2 (CP.out _ hk2)).mono ?_
          rintro e2 V2 ⟨rfl, hb3⟩
          have hk3 : Keep X W V2 := hk2.trans (.of_all hb3)
          have hJ2 : J pre Y V2 := hJ _ _ _ _ ((Keep.of_all hb2).trans (.of_all hb3)) hJ1
          have hit2 : V2.heap[W.heap.size]? = some (.stringIter s (pos + wd)) := (hb3.block _ (by have := hb2.size; omega)).trans ((hb2.block _ hlt1).trans Hit.out.2)
          have Hit2 := Lib.hid hit2
          clear hit2
          obtain ⟨fn, tmps, assign, body, hy, hR⟩ := hY pre _ Y V2 Hpre.out hJ2 (by have := hb2.size; have := hb3.size; omega) (fun b hb => by have := hYl b hb; omega)
          gi_wp2_with fail
          refine hR.mono ?_
          rintro e3 V3 ⟨Y', hk4, hY', (⟨rfl, hJ3⟩ | ⟨rfl, hJx3⟩)⟩
          all_goals have hkW : Keep X W V3 := ⟨hk4.os.trans hk3.os, hk4.tape.trans hk3.tape, hk4.output.trans hk3.output, Nat.le_trans hk3.size hk4.size, fun b hb hx => (hk4.same b (Nat.lt_of_lt_of_le hb hk3.size) (fun h => by rcases h with h | h; exact hx h; have := hYl b h; omega)).trans (hk3.same b hb hx)⟩
          all_goals have hsz3 : W.heap.size < V2.heap.size := by have := hb2.size; have := hb3.size; omega
          · have hit3 := hk4.heap Hit2.out (fun h => by rcases h with h | h; have := hX _ h; omega; have := hYl _ h; omega)
            gi_wp2
            go_roundw
            case rel => exact ⟨pre ++ [(pos, bk)], Y', pos + wd, pos + bk, f', fun b hb => by rcases hY' b hb with h | h; exact hYl b h; omega, rfl, by omega, Hp2.out, by omega, hJ3, hkW, (Array.getElem?_eq_some_iff.1 hit3).1, hit3⟩
            case measure => rw [iterPos_eq hit3, iterPos_eq Hit.out.1]; omega
          · gi_wp2
            refine bodyPost_ret (results_none rfl _ _ _) rfl ?_
            exact ⟨⟨_, rfl⟩, hkW, .inr ⟨_, Y', Hpre.out, fun b hb => by rcases hY' b hb with h | h; have := hYl b h; omega; omega, hJx3⟩⟩
        · have hi : illB s pos = false := by unfold illB; simp [hw]
          rw [hi] at CI
          have Hw := Lib.hid hw
          clear hw hi
          gi_wp2_with fail
          refine (callsIn_wide.2 CI.out).mono ?_
          rintro e1 V1 ⟨rfl, hb2⟩
          have hk2 : Keep X W V1 := hk1.trans (.of_all hb2)
          have hit2 : V1.heap[W.heap.size]? = some (.stringIter s (pos + wd)) := (hb2.block _ hlt1).trans Hit.out.2
          have Hit2 := Lib.hid hit2
          have hJ2 : J pre Y V1 := hJ _ _ _ _ (.of_all hb2) hJ1
          clear hit2
          gi_wp2_with fail
          go_roundw
          case rel => exact ⟨pre, Y, pos + wd, e, f', hYl, rfl, he, by have := Hp.out; rw [if_pos (.inr Hw.out)] at this; exact this, by omega, hJ2, hk2, by have := hb2.size; omega, Hit2.out⟩
          case measure => rw [iterPos_eq Hit2.out, iterPos_eq Hit.out.1]; omega
    · have hnx : ∀ ty, (Instr.next (.pointer (some ⟨W.heap.size, 0, none⟩)) true ty).run Tryd.prog wr = .ok (.tuple #[.bool false]) wr := fun ty => run_next_str_end wr W.heap.size s pos ty hit hpos
      have hun : badU s f pos e = [] := by
        cases f with
        | zero => rfl
        | succ f => rw [badU, if_neg hpos]
      rw [hun, List.append_nil] at hp
      have Hp := Lib.hid hp
      clear hp hit hun
      gi_wp2
      go_end0
      exact ⟨⟨_, rfl⟩, hk, .inl ⟨Y, fun b hb => by have := hYl b hb; omega, Hp.out ▸ hJs⟩⟩
end Go.Proofs.YthcfpmjkfnoofaaDoor
