/- CellsPlain's helpers: two lists held side by side; works. -/
import Derived.Test.YthhepebkfokddaaGreatDoorIk
import Derived.Test.YthhepebkfokddaaGreatDoorGz17
import Derived.Test.YthhepebkfokddaaGreatDoorUt
import Derived.Laws.StructEq
namespace Go.Proofs.YthhepebkfokddaaGreatDoor
open Go Go.RowKit Go.Kt Go.Kt.Rg Go.Maps

theorem eq_two (a b c d : Int) (w : World) : (Op.equalIn 10000 40 (.agg #[.int .i64 a, .int .i64 b]) (.agg #[.int .i64 c, .int .i64 d])).run Tryz.prog w = .ok (a == c && b == d) w := by
  have u3 := Tryz.underlying3
  have a3 := Tryz.isAgg3
  have z3 := Tryz.sizeOf3
  rw [show (10000 : Nat) = 9999 + 1 from rfl, Op.equalIn]
  simp only [Sem.run_bind, run_underlying Tryz.underlying40, Result.andThen_ok]
  simp only [Std.Legacy.Range.forIn_eq_forIn_range', Std.Legacy.Range.size, Nat.sub_zero, Nat.add_sub_cancel, Nat.div_one, List.range'_succ, List.range'_zero, List.forIn_cons, List.forIn_nil]
  go_simp
  by_cases h1 : a = c <;> by_cases h2 : b = d <;> simp [h1, h2]
theorem neq_two (a b c d : Int) (W : World) : (binOp .neq 40 (.agg #[.int .i64 a, .int .i64 b]) (.agg #[.int .i64 c, .int .i64 d])).run Tryz.prog W = .ok (.bool (!(a == c && b == d))) W := by
  rw [run_neq_struct, eq_two]
  rfl
set_option maxRecDepth 100000 in
set_option maxHeartbeats 1000000 in
theorem csame (v1 v2 : Value) (l1 l2 : List (Nat × Nat)) (w : World) (h1 : PrR w v1 l1) (h2 : PrR w v2 l2) (m1 : l1.length ≤ 4611686018427387904) (m2 : l2.length ≤ 4611686018427387904) :
    Calls Tryz.prog 12 #[v1, v2] w fun e w' => e = .returned (.bool (decide (l1 = l2))) ∧ Drawn w w' := by
  obtain ⟨a1, c1, rfl, h1⟩ := h1
  obtain ⟨a2, c2, rfl, h2⟩ := h2
  have NE := Lib.hid neq_two
  by_cases hl : l1.length = l2.length
  · have hlt : (l1.length : Int) = l2.length := by omega
    have H1 := Lib.hid h1
    have H2 := Lib.hid h2
    have HL := Lib.hid hl
    have hne : ((l1.length : Int) != l2.length) = false := by simp [hl]
    clear h1 h2 hl hlt
    go_enter Tryz.func12, Tryz.ntmps12
    go_wp2
    go_loopw [5] (fun v wr => ∃ k : Nat, k ≤ l1.length ∧ v = .int .i64 k ∧ l1.take k = l2.take k ∧ Drawn w wr) (fun v _ => l1.length - (RowKit.intOf v).toNat)
    case atStart => exact ⟨0, by omega, rfl, by simp, Drawn.refl _⟩
    case round =>
      obtain ⟨k, hk, rfl, htk, hb⟩ := hrel
      have HT := Lib.hid htk
      clear htk
      by_cases hlt : k < l1.length
      · have hlt2 : k < l2.length := by have := HL.out; omega
        obtain ⟨x1, e1⟩ : ∃ x, l1[k]? = some x := ⟨l1[k], List.getElem?_eq_getElem hlt⟩
        obtain ⟨x2, e2⟩ : ∃ x, l2[k]? = some x := ⟨l2[k], List.getElem?_eq_getElem hlt2⟩
        obtain ⟨g1, rfl, k1⟩ : ∃ g, a1 = some ⟨g, 0, none⟩ ∧ ∀ (i : Nat) (x : Nat × Nat), l1[i]? = some x → w.cell? ⟨g, i * 2, none⟩ = some (.int .i64 x.1) ∧ w.cell? ⟨g, i * 2 + 1, none⟩ = some (.int .i64 x.2) := by
          rcases H1.out with h | h
          · subst h; simp at hlt
          · exact h
        obtain ⟨g2, rfl, k2⟩ : ∃ g, a2 = some ⟨g, 0, none⟩ ∧ ∀ (i : Nat) (x : Nat × Nat), l2[i]? = some x → w.cell? ⟨g, i * 2, none⟩ = some (.int .i64 x.1) ∧ w.cell? ⟨g, i * 2 + 1, none⟩ = some (.int .i64 x.2) := by
          rcases H2.out with h | h
          · subst h; simp at hlt2
          · exact h
        obtain ⟨q1, q2⟩ := k1 k x1 e1
        obtain ⟨q3, q4⟩ := k2 k x2 e2
        have p1 := (hb.cell _).trans q1
        have p2 := (hb.cell _).trans q2
        have p3 := (hb.cell _).trans q3
        have p4 := (hb.cell _).trans q4
        have E := Lib.hid (And.intro e1 e2)
        clear k1 k2 q1 q2 q3 q4 e1 e2
        obtain ⟨x, y⟩ := x1
        obtain ⟨z, t⟩ := x2
        simp only at p1 p2 p3 p4
        by_cases hx : x = z ∧ y = t
        · obtain ⟨rfl, rfl⟩ := hx
          have hxx : (!(((x : Int) == (x : Int)) && ((y : Int) == (y : Int)))) = false := by simp
          have ne := NE.out x y x y
          rw [hxx] at ne
          clear hxx
          go_wp2
          go_quiet (fail)
          go_wp2
          go_roundw
          case rel =>
            refine ⟨k + 1, by omega, by go_num, ?_, hb.more _⟩
            rw [List.take_add_one, List.take_add_one, HT.out, E.out.1, E.out.2]
          case measure => simp [RowKit.intOf]; omega
        · have hxx : (!(((x : Int) == (z : Int)) && ((y : Int) == (t : Int)))) = true := by simp; omega
          have ne := NE.out x y z t
          rw [hxx] at ne
          clear hxx
          have hfin : decide (l1 = l2) = false := by
            simp only [decide_eq_false_iff_not]
            intro h; subst h; rw [E.out.1] at E
            have := Option.some.inj E.out.2
            simp only [Prod.mk.injEq] at this
            exact hx this
          go_wp2
          go_quiet (fail)
          go_wp2
          go_ret
          exact ⟨by rw [hfin]; rfl, hb.more _⟩
      · have hke : k = l1.length := by omega
        have hfin : decide (l1 = l2) = true := by
          have := HT.out
          rw [hke, List.take_length, HL.out, List.take_length] at this
          simpa using this
        clear hke
        go_wp2
        go_ret
        exact ⟨by rw [hfin]; rfl, hb⟩
  · have hne : ((l1.length : Int) != l2.length) = true := by simp; omega
    have hfin : decide (l1 = l2) = false := by
      simp only [decide_eq_false_iff_not]
      intro h; subst h; exact hl rfl
    clear h1 h2 hl
    go_enter Tryz.func12, Tryz.ntmps12
    go_wp2
    go_ret
    exact ⟨by rw [hfin]; rfl, Drawn.refl _⟩

/-- The file that works reads, the file of nothing. -/
def fileX : List UInt8 := [107, 105, 110, 100, 32, 48, 51, 48, 48, 46, 46, 48, 51, 54, 70, 32, 109, 97, 114, 107]
def rdX : RdS := ⟨[], [(768, 879, 3)], fun _ => none, fun _ => none, fun _ => none, fun _ => none⟩
theorem fileX_reads : readP 0 rd0 (linesP fileX) = (0, 1, rdX) := by kernel_rfl
theorem fileX_lines : lnC fileX = 1 := by kernel_rfl
theorem file_only {f : List UInt8} {m : Nat} {R : RdS} {no line : Nat} {S : RdS} {L : List Nat} (hf : f.length ≤ 1000) (hl : lnC f ≤ 1000) (hr : readP 0 rd0 (linesP f) = (0, m, R)) (hd : ∀ x, R.ds x = none) (hg : (ringP R 1 [] fun _ => none).1 = 0) (h : ParseR f no line S L) : no = 0 ∧ S = R ∧ L = [] := by
  rcases h with ⟨h, _⟩ | ⟨_, h1, _⟩ | ⟨_, h1, h2, h3, h4, h5, _⟩
  · omega
  · rw [hr] at h1; exact absurd rfl h1
  · rw [hr] at h2
    simp only at h2
    subst h2
    have hL : L = [] := List.eq_nil_iff_forall_not_mem.2 fun x hx => by have := (h4 x).1 hx; rw [hd x] at this; cases this
    subst hL
    exact ⟨by rw [h5]; exact hg, rfl, rfl⟩
end Go.Proofs.YthhepebkfokddaaGreatDoor
