/- Parts of the proof of what the last text says. -/
import Derived.Test.YthhepebkfokddaaGreatDoorGy17
import Derived.Test.YthhepebkfokddaaGreatDoorGy15
import Derived.Test.YthhepebkfokddaaGreatDoorGy20
import Derived.Laws.StructEq
import Derived.Test.YthhepebkfokddaaGreatDoorGy16
import Derived.Test.YthhepebkfokddaaGreatDoorGy14
/- CellsPlain's helpers: two lists held side by side; works. -/
namespace Go.Proofs.YthhepebkfokddaaGreatDoor
open Go Go.RowKit Go.Kt Go.Kt.Rg Go.Maps

theorem eq_two (a b c d : Int) (w : World) : (Op.equalIn 10000 40 (.agg #[.int .i64 a, .int .i64 b]) (.agg #[.int .i64 c, .int .i64 d])).run Tryz.prog w = .ok (a == c && b == d) w := by
  have u3 := Tryz.underlying3
  have a3 := Tryz.isAgg3
  have z3 := Tryz.sizeOf3
  rw [show (10000 : Nat) = 9999 + 1 from rfl, Op.equalIn]
  simp only [Sem.run_bind, run_underlying Tryz.underlying40, Result.andThen_ok]
  simp only [Std.Legacy.Range.forIn_eq_forIn_range', Std.Legacy.Range.size, Nat.sub_zero, Nat.add_sub_cancel, Nat.div_one, List.range'_succ, List.range'_zero, List.forIn_cons, List.forIn_nil]
  go_simp
  by_cases h1 : a = c <;> by_cases h2 : b = d <;> simp [h1, h2]
theorem neq_two (a b c d : Int) (W : World) : (binOp .neq 40 (.agg #[.int .i64 a, .int .i64 b]) (.agg #[.int .i64 c, .int .i64 d])).run Tryz.prog W = .ok (.bool (!(a == c && b == d))) W := by
  rw [run_neq_struct, eq_two]
  rfl
set_option maxRecDepth 100000 in
set_option maxHeartbeats 1000000 in
theorem csame (v1 v2 : Value) (l1 l2 : List (Nat × Nat)) (w : World) (h1 : PrR w v1 l1) (h2 : PrR w v2 l2) (m1 : l1.length ≤ 4611686018427387904) (m2 : l2.length ≤ 4611686018427387904) :
    Calls Tryz.prog 12 #[v1, v2] w fun e w' => e = .returned (.bool (decide (l1 = l2))) ∧ Drawn w w' := by
  obtain ⟨a1, c1, rfl, h1⟩ := h1
  obtain ⟨a2, c2, rfl, h2⟩ := h2
  have NE := Lib.hid neq_two
  by_cases hl : l1.length = l2.length
  · have hlt : (l1.length : Int) = l2.length := by omega
    have H1 := Lib.hid h1
    have H2 := Lib.hid h2
    have HL := Lib.hid hl
    have hne : ((l1.length : Int) != l2.length) = false := by simp [hl]
    clear h1 h2 hl hlt
    go_enter Tryz.func12, Tryz.ntmps12
    go_wp2
    go_loopw [5] (fun v wr => ∃ k : Nat, k ≤ l1.length ∧ v = .int .i64 k ∧ l1.take k = l2.take k ∧ Drawn w wr) (fun v _ => l1.length - (RowKit.intOf v).toNat)
    case atStart => exact ⟨0, by omega, rfl, by simp, Drawn.refl _⟩
    case round =>
      obtain ⟨k, hk, rfl, htk, hb⟩ := hrel
      have HT := Lib.hid htk
      clear htk
      by_cases hlt : k < l1.length
      · have hlt2 : k < l2.length := by have := HL.out; omega
        obtain ⟨x1, e1⟩ : ∃ x, l1[k]? = some x := ⟨l1[k], List.getElem?_eq_getElem hlt⟩
        obtain ⟨x2, e2⟩ : ∃ x, l2[k]? = some x := ⟨l2[k], List.getElem?_eq_getElem hlt2⟩
        obtain ⟨g1, rfl, k1⟩ : ∃ g, a1 = some ⟨g, 0, none⟩ ∧ ∀ (i : Nat) (x : Nat × Nat), l1[i]? = some x → w.cell? ⟨g, i * 2, none⟩ = some (.int .i64 x.1) ∧ w.cell? ⟨g, i * 2 + 1, none⟩ = some (.int .i64 x.2) := by
          rcases H1.out with h | h
          · subst h; simp at hlt
          · exact h
        obtain ⟨g2, rfl, k2⟩ : ∃ g, a2 = some ⟨g, 0, none⟩ ∧ ∀ (i : Nat) (x : Nat × Nat), l2[i]? = some x → w.cell? ⟨g, i * 2, none⟩ = some (.int .i64 x.1) ∧ w.cell? ⟨g, i * 2 + 1, none⟩ = some (.int .i64 x.2) := by
          rcases H2.out with h | h
          · subst h; simp at hlt2
          · exact h
        obtain ⟨q1, q2⟩ := k1 k x1 e1
        obtain ⟨q3, q4⟩ := k2 k x2 e2
        have p1 := (hb.cell _).trans q1
        have p2 := (hb.cell _).trans q2
        have p3 := (hb.cell _).trans q3
        have p4 := (hb.cell _).trans q4
        have E := Lib.hid (And.intro e1 e2)
        clear k1 k2 q1 q2 q3 q4 e1 e2
        obtain ⟨x, y⟩ := x1
        obtain ⟨z, t⟩ := x2
        simp only at p1 p2 p3 p4
        by_cases hx : x = z ∧ y = t
        · obtain ⟨rfl, rfl⟩ := hx
          have hxx : (!(((x : Int) == (x : Int)) && ((y : Int) == (y : Int)))) = false := by simp
          have ne := NE.out x y x y
          rw [hxx] at ne
          clear hxx
          go_wp2
          go_quiet (fail)
          go_wp2
          go_roundw
          case rel =>
            refine ⟨k + 1, by omega, by go_num, ?_, hb.more _⟩
            rw [List.take_add_one, List.take_add_one, HT.out, E.out.1, E.out.2]
          case measure => simp [RowKit.intOf]; omega
        · have hxx : (!(((x : Int) == (z : Int)) && ((y : Int) == (t : Int)))) = true := by simp; omega
          have ne := NE.out x y z t
          rw [hxx] at ne
          clear hxx
          have hfin : decide (l1 = l2) = false := by
            simp only [decide_eq_false_iff_not]
            intro h; subst h; rw [E.out.1] at E
            have := Option.some.inj E.out.2
            simp only [Prod.mk.injEq] at this
            exact hx this
          go_wp2
          go_quiet (fail)
          go_wp2
          go_ret
          exact ⟨by rw [hfin]; rfl, hb.more _⟩
      · have hke : k = l1.length := by omega
        have hfin : decide (l1 = l2) = true := by
          have := HT.out
          rw [hke, List.take_length, HL.out, List.take_length] at this
          simpa using this
        clear hke
        go_wp2
        go_ret
        exact ⟨by rw [hfin]; rfl, hb⟩
  · have hne : ((l1.length : Int) != l2.length) = true := by simp; omega
    have hfin : decide (l1 = l2) = false := by
      simp only [decide_eq_false_iff_not]
      intro h; subst h; exact hl rfl
    clear h1 h2 hl
    go_enter Tryz.func12, Tryz.ntmps12
    go_wp2
    go_ret
    exact ⟨by rw [hfin]; rfl, Drawn.refl _⟩

def fileX : List UInt8 := [107, 105, 110, 100, 32, 48, 51, 48, 48, 46, 46, 48, 51, 54, 70, 32, 109, 97, 114, 107]
def rdX : RdS := ⟨[], [(768, 879, 3)], fun _ => none, fun _ => none, fun _ => none, fun _ => none⟩
theorem fileX_reads : readP 0 rd0 (linesP fileX) = (0, 1, rdX) := by kernel_rfl
theorem fileX_lines : lnC fileX = 1 := by kernel_rfl
theorem file_only {f : List UInt8} {m : Nat} {R : RdS} {no line : Nat} {S : RdS} {L : List Nat} (hf : f.length ≤ 1000) (hl : lnC f ≤ 1000) (hr : readP 0 rd0 (linesP f) = (0, m, R)) (hd : ∀ x, R.ds x = none) (hg : (ringP R 1 [] fun _ => none).1 = 0) (h : ParseR f no line S L) : no = 0 ∧ S = R ∧ L = [] := by
  rcases h with ⟨h, _⟩ | ⟨_, h1, _⟩ | ⟨_, h1, h2, h3, h4, h5, _⟩
  · omega
  · rw [hr] at h1; exact absurd rfl h1
  · rw [hr] at h2
    simp only at h2
    subst h2
    have hL : L = [] := List.eq_nil_iff_forall_not_mem.2 fun x hx => by have := (h4 x).1 hx; rw [hd x] at this; cases this
    subst hL
    exact ⟨by rw [h5]; exact hg, rfl, rfl⟩
end Go.Proofs.YthhepebkfokddaaGreatDoor
/- cells: how many there are; what CellsPlain asks first: works. -/
namespace Go.Proofs.YthhepebkfokddaaGreatDoor
open Go Go.RowKit Go.Kt Go.Kt.Rg Go.Maps
attribute [local go_sem] Oper.semAt_some

theorem celF_len (S : RdS) (s : ByteArray) (l : List (Nat × Nat)) : (celF S s l).1.length ≤ l.length := by
  rcases List.eq_nil_or_concat l with rfl | ⟨r, p, rfl⟩
  · exact Nat.le_refl 0
  · have ih := celF_len S s r
    rw [List.concat_eq_append, celF_snoc]
    unfold celStep
    split
    · simp; omega
    · simp; omega
termination_by l.length
theorem celL_len (S : RdS) (s : ByteArray) : (celL S s).length ≤ s.size + 1 := by
  unfold celL
  split
  · simp
  · have h1 := celF_len S s (units s)
    have h2 := units_len s
    simp
    omega

set_option maxRecDepth 100000 in
set_option maxHeartbeats 2000000 in
theorem cCount {gp : Nat} {S : RdS} {md : MdT} (s : ByteArray) (w : World) (hP : PrW gp S md w) (hT : Lib.Utf8Tabs 3 4 w) (hs : s.size ≤ 4611686018427387904) :
    Calls Tryz.prog 15 #[.pointer (some ⟨gp, 0, none⟩), .string s] w fun e w' => e = .returned (.int .i64 ((celL S s).length : Nat)) ∧ Below w.heap.size w w' := by
  have hLn := celL_len S s
  obtain ⟨n, hn⟩ : ∃ n, w.heap.size = n := ⟨_, rfl⟩
  have hfn : ∀ k, Fence.wide.fn k := fun _ => trivial
  have hdep : Fence.wide.depth = none := rfl
  refine (callsIn_wide (n := 0)).1 ?_
  refine callsIn_of_wp_marks Tryz.func15 rfl trivial ?_ rfl
  simp only [Tryz.ntmps15, List.size_toArray, List.length_cons, List.length_nil, Nat.reduceAdd, Nat.reduceSub, Array.replicate_succ, Array.replicate_zero, List.push_toArray, List.append_toArray, List.nil_append, List.cons_append]
  obtain ⟨V1, hV1⟩ : ∃ V1, w.alloc (.cells #[.int .i64 0] 3) = V1 := ⟨_, rfl⟩
  have hz1 : V1.heap.size = n + 1 := by rw [← hV1]; simp [hn]
  have b0 : V1.heap[n]? = some (.cells #[.int .i64 0] 3 (0, 0)) := by rw [← hV1]; exact alloc_at hn.symm
  have hb1 : Below n w V1 := by rw [← hV1]; exact (Below.refl _ _).alloc (by omega) _
  have CA := Lib.hid (cAll_call gp s V1)
  have HV1 := Lib.hid hV1
  clear hV1
  gi_wp2_with fail
  rw [HV1.out]
  refine (callsIn_wide.2 CA.out).mono ?_
  rintro e w6 ⟨rfl, hw6⟩
  have hk6 : Keep (fun _ => False) V1 w6 := by rw [← hw6]; exact ((Keep.refl _ _).alloc _).alloc _
  have hz6 : w6.heap.size = n + 3 := by rw [← hw6]; simp [hz1]
  have c1 : w6.heap[n + 1]? = some (.cells #[.pointer (some ⟨gp, 0, none⟩)] 22 (0, 0)) := by rw [← hw6]; exact alloc_old (alloc_at (by omega))
  have c2 : w6.heap[n + 2]? = some (.cells #[.string s] 9 (0, 0)) := by rw [← hw6]; exact alloc_at (by simp [hz1])
  have v0 := hk6.heap b0 (fun h => h)
  have hb6 : Below n w w6 := hb1.trans (hk6.below (by omega) (fun _ h => h.elim))
  have HIT := Lib.hid (call_iter s (n + 1) (n + 2) w w6 (cell_one c2) (cell_one c1) hP (by rw [hn]; exact hb6.block) hb6.size hT hs)
  rw [hz1]
  clear hw6 hk6 hb1 b0 c1 c2 hP hT
  gi_wp2_with fail
  refine loop_out2 (gf := 30) (lb := #[.pointer (some ⟨n + 2, 0, none⟩), .pointer (some ⟨n + 1, 0, none⟩)]) (encs := encCP) rfl (enters_of Tryz.func30 (by kernel_rfl) rfl)
    HIT.out (fun _ => rfl) (X := fun b => b = n)
    (fun b hb => by omega) (fun b hb => by rcases hb with h | h | h <;> exact ⟨by omega, by omega⟩) (fun _ _ => rfl) (Nat.le_refl _)
    (fun pre Y W => W.heap[n]? = some (.cells #[.int .i64 (pre.length : Nat)] 3 (0, 0)))
    (fun _ _ _ _ => False)
    (fun pre Y W W' hk h' => hk.heap h' (fun hx => by have := hx.1; omega))
    (fun pre Y W h' => h')
    (fun _ _ _ _ _ _ h => h) v0 ?round ?done ?stop
  case stop => intro D c pre Y W _ _ _ h; exact h.elim
  case round =>
    rintro l' hl' pre ⟨lo, up⟩ Y W hpre hi hk hY hlt hr
    simp only [encCP]
    gi_wp2
    refine ⟨Keep.refl _ _, ?_⟩
    rintro W2 _ hk2 hv hr2
    have hlen : pre.length < (celL S s).length := by
      obtain ⟨rest, hrest⟩ := hpre
      rw [← hrest]; simp
    have x0 := cell_one hv
    have x1 := frozen_one hv
    obtain ⟨k, hk9⟩ : ∃ k, pre.length = k := ⟨_, rfl⟩
    have HV := Lib.hid hv
    have HK9 := Lib.hid hk9
    rw [hk9] at x0 hlen
    have hk10 : (k : Int) ≤ 4611686018427387904 := by omega
    clear hv hk2 hr2 hr hi hk hpre hk9 hlen hLn HIT
    gi_wp2_with fail
    refine ⟨Y, (Keep.refl _ _).setCell (p := ⟨n, 0, none⟩) (.inl rfl) _, fun b h => .inl h, ?_⟩
    have h9 := set_at (u := .int .i64 ((k : Int) + 1)) HV.out
    have e9 : (pre ++ [(lo, up)]).length = k + 1 := by simp [HK9.out]
    show (W2.setCell ⟨n, 0, none⟩ (.int .i64 ((k : Int) + 1))).heap[n]? = some (.cells #[.int .i64 ((pre ++ [(lo, up)]).length : Nat)] 3 (0, 0))
    rw [e9]
    exact h9
  case done =>
    rintro D Y W hD hDd hv hY hkW
    have hbW : Below n w W := hb6.trans (hkW.below (by omega) (fun b hb => by omega))
    have x0 := cell_one hv
    have HF := Lib.hid (And.intro hbW (And.intro hDd hn))
    have hzW := hkW.size
    clear hv hkW hY hbW hDd HIT
    gi_wp2_with fail
    refine leaves_marks (Ds := [D]) (by simp) (fun D' h => by simp at h; subst h; exact HF.out.2.1) (fun W' hk' => ⟨_, results_tmp rfl _ _ _, rfl, ?_⟩)
    have hk' : Keep (fun b => b = D) W W' := hk'.weaken fun b _ hb => by simpa using hb
    rw [HF.out.2.2]
    exact HF.out.1.trans (hk'.below (by omega) (fun b hb => by have hb : b = D := hb; omega))
theorem w_l1 : celL rdX ⟨#[97, 204, 129, 98, 255, 204, 129]⟩ = [(0, 3), (3, 4), (4, 5), (5, 7)] := by kernel_rfl
theorem w_l2 : (celL rdX ⟨#[13, 10, 10]⟩).length = 2 := by kernel_rfl
theorem w_e1 : edgP rdX ⟨#[97, 98]⟩ 1 = true := by kernel_rfl
theorem w_e2 : edgP rdX ⟨#[]⟩ 0 = false := by kernel_rfl
theorem prr_four (W : World) : PrR (W.alloc (.cells #[.int .i64 0, .int .i64 3, .int .i64 3, .int .i64 4, .int .i64 4, .int .i64 5, .int .i64 5, .int .i64 7] 40)) (.slice (some ⟨W.heap.size, 0, none⟩) 4 4) [(0, 3), (3, 4), (4, 5), (5, 7)] := by
  refine ⟨_, _, rfl, .inr ⟨W.heap.size, rfl, fun i x hx => ?_⟩⟩
  rw [Lib.cell_of_heap (World.alloc_heap_new W _), Lib.cell_of_heap (World.alloc_heap_new W _)]
  match i, hx with
  | 0, hx => simp at hx; subst hx; exact ⟨rfl, rfl⟩
  | 1, hx => simp at hx; subst hx; exact ⟨rfl, rfl⟩
  | 2, hx => simp at hx; subst hx; exact ⟨rfl, rfl⟩
  | 3, hx => simp at hx; subst hx; exact ⟨rfl, rfl⟩
  | i + 4, hx => simp at hx

set_option maxRecDepth 100000 in
set_option maxHeartbeats 1000000 in
theorem cworks (w : World) (hE : PEnv w) (hT : Lib.Utf8Tabs 3 4 w) : Calls Tryz.prog 8 #[] w fun e w' => e = .returned (.bool true) ∧ Below w.heap.size w w' := by
  have CP := Lib.hid (pParse ⟨fileX.toArray⟩ w hE)
  have HT := Lib.hid hT
  clear hT
  go_enter Tryz.func8, Tryz.ntmps8
  go_wp2_with fail
  refine CP.out.mono ?_
  rintro e w1 ⟨no, line, S, L, hP, hb1, hor⟩
  obtain ⟨h0, rfl, rfl⟩ := file_only (f := fileX) (by decide) (by rw [fileX_lines]; omega) fileX_reads (fun _ => rfl) (by kernel_rfl) hP
  obtain ⟨g, rfl, hW1⟩ : ∃ g, e = .returned (.tuple #[.pointer (some ⟨g, 0, none⟩), .nilIface]) ∧ PrW g rdX (mdOf rdX []) w1 := by
    rcases hor with ⟨_, g, h1, h2⟩ | ⟨h1, _⟩
    · exact ⟨g, h1, h2⟩
    · exact absurd h0 h1
  have HB1 := Lib.hid hb1
  have HW := Lib.hid (fun W (h : Below w1.heap.size w1 W) => hW1.below h)
  have HT1 := Lib.hid (fun W (h : Below w1.heap.size w1 W) => tabs_below HT.out (tabs_size HT.out) (hb1.trans (h.mono hb1.size)))
  have HPW := Lib.hid hW1
  clear hP hb1 hor hW1 h0
  go_wp2_with fail
  refine (cAll_call g _ w1).mono ?_
  rintro e w2 ⟨rfl, hw2⟩
  have hb2 : Below w1.heap.size w1 w2 := by rw [← hw2]; exact ((Below.refl _ _).alloc (Nat.le_refl _) _).alloc (by simp) _
  have c1 : w2.heap[w1.heap.size]? = some (.cells #[.pointer (some ⟨g, 0, none⟩)] 22 (0, 0)) := by rw [← hw2]; exact alloc_old (alloc_at rfl)
  have c2 : w2.heap[w1.heap.size + 1]? = some (.cells #[.string ⟨#[97, 204, 129, 98, 255, 204, 129]⟩] 9 (0, 0)) := by rw [← hw2]; exact alloc_at (by simp)
  have HG := Lib.hid (cgathered (celL rdX ⟨#[97, 204, 129, 98, 255, 204, 129]⟩) _ _ _ w2 w2 (enters_of Tryz.func30 (by kernel_rfl) rfl) (call_iter _ (w1.heap.size) (w1.heap.size + 1) w1 w2 (cell_one c2) (cell_one c1) HPW.out hb2.block hb2.size (HT1.out w1 (Below.refl _ _)) (by decide)) (fun b hb => by
    have h1 := (Array.getElem?_eq_some_iff.1 c1).1
    have h2 := (Array.getElem?_eq_some_iff.1 c2).1
    rcases hb with h | h | h <;> omega) (fun _ _ => rfl) (Nat.le_refl _) (by rw [w_l1]; decide))
  have HB2 := Lib.hid hb2
  clear hw2 hb2 c1 c2
  go_wp2_with fail
  refine HG.out.mono ?_
  rintro e w3 ⟨v, rfl, hv, hb3⟩
  rw [w_l1] at hv
  have HB3 := Lib.hid (HB2.out.trans (hb3.mono HB2.out.size))
  have hv4 : PrR (w3.alloc (.cells #[.int .i64 0, .int .i64 3, .int .i64 3, .int .i64 4, .int .i64 4, .int .i64 5, .int .i64 5, .int .i64 7] 40)) v [(0, 3), (3, 4), (4, 5), (5, 7)] := hv.below ((Below.refl _ w3).alloc (Nat.le_refl _) _)
  have CS := Lib.hid (csame _ _ _ _ _ hv4 (prr_four w3) (by decide) (by decide))
  clear hv hb3 hv4
  go_wp2_with fail
  refine CS.out.mono ?_
  rintro e w5 ⟨rfl, hd5⟩
  have hb5 : Below w3.heap.size w3 w5 := ((Below.refl _ w3).alloc (Nat.le_refl _) _).trans (hd5.below.mono (by simp))
  have HB5 := Lib.hid (HB3.out.trans (hb5.mono HB3.out.size))
  clear hd5 hb5
  have HC := Lib.hid (cCount (md := mdOf rdX []) ⟨#[13, 10, 10]⟩ w5 (HW.out w5 HB5.out) (HT1.out w5 HB5.out) (by decide))
  rw [w_l2] at HC
  go_wp2_with fail
  refine HC.out.mono ?_
  rintro e w6 ⟨rfl, hb6⟩
  have HB6 := Lib.hid (HB5.out.trans (hb6.mono HB5.out.size))
  clear hb6
  have HC2 := Lib.hid (cEdge (md := mdOf rdX []) ⟨#[97, 98]⟩ 1 w6 (HW.out w6 HB6.out) (HT1.out w6 HB6.out) (by decide))
  rw [w_e1] at HC2
  go_wp2_with fail
  refine HC2.out.mono ?_
  rintro e w7 ⟨rfl, hb7⟩
  have HB7 := Lib.hid (HB6.out.trans (hb7.mono HB6.out.size))
  clear hb7
  have HC3 := Lib.hid (cEdge (md := mdOf rdX []) ⟨#[]⟩ 0 w7 (HW.out w7 HB7.out) (HT1.out w7 HB7.out) (by decide))
  rw [w_e2] at HC3
  go_wp2_with fail
  refine HC3.out.mono ?_
  rintro e w8 ⟨rfl, hb8⟩
  have HB8 := Lib.hid (HB7.out.trans (hb8.mono HB7.out.size))
  clear hb8
  go_wp2
  go_ret
  exact ⟨rfl, HB1.out.trans (HB8.out.mono HB1.out.size)⟩
end Go.Proofs.YthhepebkfokddaaGreatDoor
/- cells: a text between two others: its edges are the same: mathematics. -/
namespace Go.Proofs.YthhepebkfokddaaGreatDoor
open Go Go.RowKit Go.Kt

structure MidT (s t : ByteArray) (f : Nat) : Prop where
  size : f + s.size < t.size
  b : ∀ k, k < s.size → B t (f + k) = B s k
  e : B t (f + s.size) < 128
theorem MidT.wide {s t : ByteArray} {f : Nat} (h : MidT s t f) {j : Nat} (hj : j < s.size) (w : Nat) (h1 : 1 ≤ w) (h4 : w ≤ 4) : wideI t (f + j) = w ↔ wideI s j = w := by
  obtain ⟨hz, hb, he⟩ := h
  rw [wide_iff t (f + j) w (by omega) h1 h4, wide_iff s j w hj h1 h4]
  have b0 := hb j hj
  have bk : ∀ k, j + k < s.size → B t (f + j + k) = B s (j + k) := fun k hk => by rw [Nat.add_assoc]; exact hb _ hk
  have bz : ∀ k, j + k = s.size → B t (f + j + k) < 128 := fun k hk => by rw [Nat.add_assoc, hk]; exact he
  constructor
  · rintro ⟨_, hc⟩
    have hfit : j + w ≤ s.size := by
      rcases Nat.lt_or_ge s.size (j + w) with hgt | hle
      · exfalso
        have z1 := bz 1
        have z2 := bz 2
        have z3 := bz 3
        unfold CharAt at hc
        rcases (by omega : s.size = j + 1 ∨ s.size = j + 2 ∨ s.size = j + 3) with e | e | e
        · have := z1 (by omega); omega
        · have := z2 (by omega); omega
        · have := z3 (by omega); omega
      · exact hle
    exact ⟨hfit, char_congr b0 (fun h => bk 1 (by omega)) (fun h => bk 2 (by omega)) (fun h => bk 3 (by omega)) hc⟩
  · rintro ⟨hfit, hc⟩
    exact ⟨by omega, char_congr b0.symm (fun h => (bk 1 (by omega)).symm) (fun h => (bk 2 (by omega)).symm) (fun h => (bk 3 (by omega)).symm) hc⟩
theorem numT_congr {w a0 a1 a2 a3 b0 b1 b2 b3 : Nat} (h1 : 1 ≤ w) (h4 : w ≤ 4) (e0 : a0 = b0) (e1 : 1 < w → a1 = b1) (e2 : 2 < w → a2 = b2) (e3 : 3 < w → a3 = b3) : numT w (a0 : Int) a1 a2 a3 = numT w (b0 : Int) b1 b2 b3 := by
  subst e0
  unfold numT
  rcases (by omega : w = 1 ∨ w = 2 ∨ w = 3 ∨ w = 4) with rfl | rfl | rfl | rfl
  · rfl
  · rw [e1 (by omega)]; rfl
  · rw [e1 (by omega), e2 (by omega)]; rfl
  · rw [e1 (by omega), e2 (by omega), e3 (by omega)]
theorem MidT.dec {s t : ByteArray} {f : Nat} (h : MidT s t f) {j : Nat} (hj : j < s.size) : Utf8.decode t (f + j) = Utf8.decode s j := by
  have hz := h.size
  rcases unit_at s j hj with ⟨s1, s2⟩ | ⟨w, w1, w4, wf, s1, s2, s3⟩
  · rcases unit_at t (f + j) (by omega) with ⟨_, t2⟩ | ⟨v, v1, v4, vf, t1, t2, t3⟩
    · rw [s2, t2]
    · have := (h.wide hj v v1 v4).1 t1
      omega
  · have tw := (h.wide hj w w1 w4).2 s1
    rcases unit_at t (f + j) (by omega) with ⟨t1, _⟩ | ⟨v, v1, v4, vf, t1, t2, t3⟩
    · omega
    · obtain rfl : v = w := by omega
      have bk : ∀ k, j + k < s.size → B t (f + j + k) = B s (j + k) := fun k hk => by rw [Nat.add_assoc]; exact h.b _ hk
      rw [numT_congr v1 v4 (h.b j hj) (fun _ => bk 1 (by omega)) (fun _ => bk 2 (by omega)) (fun _ => bk 3 (by omega)), ← s3] at t3
      exact Prod.ext (by exact_mod_cast t3) (by rw [t2, s2])
theorem MidT.unt {s t : ByteArray} {f : Nat} (h : MidT s t f) (S : RdS) {j : Nat} (hj : j < s.size) : untP S t ((f + j : Nat) : Int) = untP S s (j : Int) := by
  have hz := h.size
  have e : decP t ((f + j : Nat) : Int) = decP s (j : Int) := by rw [decP_in t _ (by omega), decP_in s j hj, h.dec hj]
  unfold untP
  rw [e]
theorem unit_ascii (t : ByteArray) (a : Nat) (ha : a + 1 < t.size) (hb : B t a < 128) : ∃ n, n < (units t).length ∧ pos t n = a + 1 := by
  obtain ⟨n, hn, h1, h2⟩ := unit_of t a (by omega)
  have hsu := pos_succ t n hn
  have e : pos t n = a := by
    rcases Nat.eq_or_lt_of_le h1 with e | hlt
    · exact e
    · exfalso
      have := in_char t (pos t n) (a - pos t n) (pos_lt t n hn) (by omega) (by omega)
      rw [show pos t n + (a - pos t n) = a by omega] at this
      omega
  rw [e] at hsu
  have hw : (Utf8.decode t a).2 = 1 := by
    have hwi := (wide_iff t a 1 (by omega) (by omega) (by omega)).2 ⟨by omega, .inl ⟨rfl, hb⟩⟩
    rcases unit_at t a (by omega) with ⟨s1, s2⟩ | ⟨w, w1, w4, wf, s1, s2, s3⟩
    · omega
    · omega
  rw [hw] at hsu
  refine ⟨n + 1, ?_, hsu⟩
  rcases Nat.lt_or_ge (n + 1) (units t).length with h | h
  · exact h
  · have := pos_end t (n + 1) h; omega
theorem MidT.place {s t : ByteArray} {f : Nat} (h : MidT s t f) (hf : ∃ n, n < (units t).length ∧ pos t n = f) : ∀ k, k < (units s).length → ∃ n, n < (units t).length ∧ pos t n = f + pos s k
  | 0, _ => by
    obtain ⟨n, h1, h2⟩ := hf
    exact ⟨n, h1, by rw [pos_zero]; exact h2⟩
  | k + 1, hk => by
    obtain ⟨n, h1, h2⟩ := MidT.place h hf k (by omega)
    have hl := pos_lt s k (by omega)
    have hl1 := pos_lt s (k + 1) hk
    have e1 := pos_succ t n h1
    have e2 := pos_succ s k (by omega)
    rw [h2, h.dec hl] at e1
    refine ⟨n + 1, ?_, by omega⟩
    rcases Nat.lt_or_ge (n + 1) (units t).length with h3 | h3
    · exact h3
    · have := pos_end t (n + 1) h3
      have := h.size
      omega
theorem MidT.edge {s t : ByteArray} {f : Nat} (h : MidT s t f) (hf : ∃ n, n < (units t).length ∧ pos t n = f) (S : RdS) (k : Nat) (hk : k + 1 < (units s).length) : edgP S t ((f + pos s (k + 1) : Nat) : Int) = edgP S s (pos s (k + 1)) := by
  obtain ⟨n, h1, h2⟩ := h.place hf k (by omega)
  have hl := pos_lt s k (by omega)
  have hl1 := pos_lt s (k + 1) hk
  have e1 := pos_succ t n h1
  have e2 := pos_succ s k (by omega)
  rw [h2, h.dec hl] at e1
  have hn : n + 1 < (units t).length := by
    rcases Nat.lt_or_ge (n + 1) (units t).length with h3 | h3
    · exact h3
    · have := pos_end t (n + 1) h3
      have := h.size
      omega
  have e3 : pos t (n + 1) = f + pos s (k + 1) := by omega
  rw [← e3, edgP_unit S t n hn, edgP_unit S s k hk, h2, e3, h.unt S hl, h.unt S hl1]
theorem mid_of (a s b : ByteArray) : MidT s (a ++ ⟨#[33]⟩ ++ s ++ ⟨#[33]⟩ ++ b) (a.size + 1) ∧ B (a ++ ⟨#[33]⟩ ++ s ++ ⟨#[33]⟩ ++ b) a.size < 128 := by
  have hl : (a ++ ⟨#[33]⟩ ++ s ++ ⟨#[33]⟩ ++ b).data.toList = a.data.toList ++ (33 :: (s.data.toList ++ (33 :: b.data.toList))) := by simp [ByteArray.data_append]
  have za : a.size = a.data.toList.length := Lib.size_eq a
  have zs : s.size = s.data.toList.length := Lib.size_eq s
  have zt : (a ++ ⟨#[33]⟩ ++ s ++ ⟨#[33]⟩ ++ b).size = (a.data.toList ++ (33 :: (s.data.toList ++ (33 :: b.data.toList)))).length := by rw [← hl]; exact Lib.size_eq _
  have hB : ∀ i, B (a ++ ⟨#[33]⟩ ++ s ++ ⟨#[33]⟩ ++ b) i = ((a.data.toList ++ (33 :: (s.data.toList ++ (33 :: b.data.toList)))).getD i 0).toNat := fun i => by unfold B; rw [hl]
  have hS : ∀ i, B s i = (s.data.toList.getD i 0).toNat := fun _ => rfl
  generalize a.data.toList = x at *
  generalize s.data.toList = y at *
  generalize b.data.toList = z at *
  simp only [List.length_append, List.length_cons] at zt
  refine ⟨⟨by omega, fun k hk => ?_, ?_⟩, ?_⟩
  · rw [hB, hS, List.getD_eq_getElem?_getD, List.getD_eq_getElem?_getD, List.getElem?_append_right (by omega), show a.size + 1 + k - x.length = k + 1 by omega, List.getElem?_cons_succ, List.getElem?_append_left (by omega)]
  · rw [hB, List.getD_eq_getElem?_getD, List.getElem?_append_right (by omega), show a.size + 1 + s.size - x.length = s.size + 1 by omega, List.getElem?_cons_succ, List.getElem?_append_right (by omega), show s.size - y.length = 0 by omega]
    exact (by decide : (33 : UInt8).toNat < 128)
  · rw [hB, List.getD_eq_getElem?_getD, List.getElem?_append_right (by omega), show a.size - x.length = 0 by omega]
    exact (by decide : (33 : UInt8).toNat < 128)
end Go.Proofs.YthhepebkfokddaaGreatDoor
/- props: full decompositions: which end, and how many points they have; what the program's lengths are. -/
namespace Go.Proofs.YthhepebkfokddaaGreatDoor
open Go Go.RowKit Go.Kt Go.Kt.Rg Go.Maps

abbrev DsT := Nat → Option (List Nat)
def sumO (g : Nat → Option Nat) : List Nat → Option Nat
  | [] => some 0
  | y :: t => match g y, sumO g t with
    | some a, some b => some (a + b)
    | _, _ => none
theorem sumO_some {g : Nat → Option Nat} : ∀ {l : List Nat} {n : Nat}, sumO g l = some n → ∀ y ∈ l, ∃ a, g y = some a
  | [], _, _, y, hy => by cases hy
  | z :: t, n, h, y, hy => by
    rw [sumO] at h
    cases hz : g z with
    | none => rw [hz] at h; cases h
    | some a =>
      cases ht : sumO g t with
      | none => rw [hz, ht] at h; cases h
      | some b =>
        rcases List.mem_cons.1 hy with rfl | hy
        · exact ⟨a, hz⟩
        · exact sumO_some ht y hy
theorem sumO_mono {g h : Nat → Option Nat} (hgh : ∀ y a, g y = some a → h y = some a) : ∀ {l : List Nat} {n : Nat}, sumO g l = some n → sumO h l = some n
  | [], _, e => e
  | z :: t, n, e => by
    rw [sumO] at e ⊢
    cases hz : g z with
    | none => rw [hz] at e; cases e
    | some a =>
      cases ht : sumO g t with
      | none => rw [hz, ht] at e; cases e
      | some b =>
        rw [hz, ht] at e
        rw [hgh z a hz, sumO_mono hgh ht]; exact e
def fullN (ds : DsT) : Nat → Nat → Option Nat
  | 0, _ => none
  | f + 1, x => if sylP x then some (partsP (x - 44032)).length else match ds x with
    | none => some 1
    | some l => sumO (fullN ds f) l
theorem fullN_step (ds : DsT) : ∀ (f x n : Nat), fullN ds f x = some n → fullN ds (f + 1) x = some n
  | 0, x, n, h => by cases h
  | f + 1, x, n, h => by
    rw [fullN] at h ⊢
    split
    · rename_i hs; rw [if_pos hs] at h; exact h
    · rename_i hs
      rw [if_neg hs] at h
      cases hd : ds x with
      | none => rw [hd] at h; exact h
      | some l => rw [hd] at h; exact sumO_mono (fun y a => fullN_step ds f y a) h
theorem fullN_mono (ds : DsT) {f g x n : Nat} (hfg : f ≤ g) (h : fullN ds f x = some n) : fullN ds g x = some n := by
  obtain ⟨k, rfl⟩ : ∃ k, g = f + k := ⟨g - f, by omega⟩
  clear hfg
  induction k with
  | zero => exact h
  | succ k ih => exact fullN_step ds _ _ _ ih
def EndA (ds : DsT) (x n : Nat) : Prop := ∃ f, fullN ds f x = some n
def NoEnd (ds : DsT) (x : Nat) : Prop := ∀ f, fullN ds f x = none
theorem EndA.uniq {ds : DsT} {x n m : Nat} (h : EndA ds x n) (h2 : EndA ds x m) : n = m := by
  obtain ⟨f, h⟩ := h
  obtain ⟨g, h2⟩ := h2
  have a := fullN_mono ds (Nat.le_max_left f g) h
  have b := fullN_mono ds (Nat.le_max_right f g) h2
  rw [a] at b
  exact Option.some.inj b
theorem EndA.not {ds : DsT} {x n : Nat} (h : EndA ds x n) : ¬ NoEnd ds x := fun h2 => by
  obtain ⟨f, h⟩ := h
  rw [h2 f] at h; cases h
theorem end_or (ds : DsT) (x : Nat) : NoEnd ds x ∨ ∃ n, EndA ds x n := by
  by_cases h : ∃ n, EndA ds x n
  · exact .inr h
  · refine .inl fun f => ?_
    cases hf : fullN ds f x with
    | none => rfl
    | some n => exact absurd ⟨n, f, hf⟩ h
def EndS (ds : DsT) (l : List Nat) (n : Nat) : Prop := ∃ f, sumO (fullN ds f) l = some n
theorem ends_nil (ds : DsT) : EndS ds [] 0 := ⟨0, rfl⟩
theorem EndS.cons {ds : DsT} {y a b : Nat} {t : List Nat} (h : EndA ds y a) (ht : EndS ds t b) : EndS ds (y :: t) (a + b) := by
  obtain ⟨f, h⟩ := h
  obtain ⟨g, ht⟩ := ht
  refine ⟨max f g, ?_⟩
  rw [sumO, fullN_mono ds (Nat.le_max_left f g) h, sumO_mono (fun y a => fullN_mono ds (Nat.le_max_right f g)) ht]
theorem EndA.ofL {ds : DsT} {x n : Nat} {l : List Nat} (hs : sylP (x : Int) = false) (hd : ds x = some l) (h : EndS ds l n) : EndA ds x n := by
  obtain ⟨f, h⟩ := h
  exact ⟨f + 1, by rw [fullN, if_neg (by rw [hs]; decide), hd]; exact h⟩
theorem EndA.ofN {ds : DsT} {x : Nat} (hs : sylP (x : Int) = false) (hd : ds x = none) : EndA ds x 1 := ⟨1, by rw [fullN, if_neg (by rw [hs]; decide), hd]⟩
theorem EndA.syl {ds : DsT} {x : Nat} (hs : sylP (x : Int) = true) : EndA ds x (partsP (x - 44032)).length := ⟨1, by rw [fullN, if_pos hs]⟩
theorem NoEnd.up {ds : DsT} {x y : Nat} {l : List Nat} (hs : sylP (x : Int) = false) (hd : ds x = some l) (hy : y ∈ l) (h : NoEnd ds y) : NoEnd ds x := fun f => by
  cases f with
  | zero => rfl
  | succ f =>
    rw [fullN, if_neg (by rw [hs]; decide), hd]
    cases hq : sumO (fullN ds f) l with
    | none => exact hq
    | some n =>
      obtain ⟨a, ha⟩ := sumO_some hq y hy
      rw [h f] at ha; cases ha
inductive Leads (ds : DsT) : Nat → Nat → Prop
  | one {p y : Nat} {l : List Nat} (hs : sylP (p : Int) = false) (hd : ds p = some l) (hy : y ∈ l) : Leads ds p y
  | more {p y z : Nat} {l : List Nat} (h : Leads ds p y) (hs : sylP (y : Int) = false) (hd : ds y = some l) (hz : z ∈ l) : Leads ds p z
theorem one_less {ds : DsT} {p y f n : Nat} {l : List Nat} (hs : sylP (p : Int) = false) (hd : ds p = some l) (hy : y ∈ l) (h : fullN ds f p = some n) : ∃ g, g < f ∧ ∃ m, fullN ds g y = some m := by
  cases f with
  | zero => cases h
  | succ f =>
    rw [fullN, if_neg (by rw [hs]; decide), hd] at h
    exact ⟨f, Nat.lt_succ_self f, sumO_some h y hy⟩
theorem Leads.less {ds : DsT} {p y f n : Nat} (h : Leads ds p y) (hf : fullN ds f p = some n) : ∃ g, g < f ∧ ∃ m, fullN ds g y = some m := by
  induction h with
  | one hs hd hy => exact one_less hs hd hy hf
  | more _ hs hd hz ih =>
    obtain ⟨g, hg, m, hm⟩ := ih
    obtain ⟨g2, hg2, m2, hm2⟩ := one_less hs hd hz hm
    exact ⟨g2, by omega, m2, hm2⟩
theorem Leads.ring {ds : DsT} {x : Nat} (h : Leads ds x x) : NoEnd ds x := by
  have key : ∀ (k f : Nat), f ≤ k → fullN ds f x = none := by
    intro k
    induction k with
    | zero =>
      intro f hf
      obtain rfl : f = 0 := by omega
      rfl
    | succ k ih =>
      intro f hf
      cases hq : fullN ds f x with
      | none => rfl
      | some n =>
        obtain ⟨g, hg, m, hm⟩ := h.less hq
        rw [ih g (by omega)] at hm; cases hm
  exact fun f => key f f (Nat.le_refl _)

/-! ### The program's lengths -/
def LeInv (ds : DsT) (P : List Nat) (le : LeT) : Prop := ∀ x v, le x = some v → (v = -1 ∧ x ∈ P) ∨ (v = -1 ∧ NoEnd ds x) ∨ ∃ n, EndA ds x n ∧ v = (min n 9 : Nat)
def LenR (ds : DsT) (x : Nat) (r : Int) : Prop := (r = -1 ∧ NoEnd ds x) ∨ ∃ n, EndA ds x n ∧ r = (min n 9 : Nat)
theorem LeInv.upd {ds : DsT} {P : List Nat} {le : LeT} (h : LeInv ds P le) (x : Nat) : LeInv ds (x :: P) (updN le x (-1)) := fun y v hv => by
  unfold updN at hv
  by_cases e : y = x
  · rw [if_pos e] at hv
    exact .inl ⟨(Option.some.inj hv).symm, by rw [e]; exact List.mem_cons_self⟩
  · rw [if_neg e] at hv
    rcases h y v hv with ⟨h1, h2⟩ | h
    · exact .inl ⟨h1, List.mem_cons_of_mem _ h2⟩
    · exact .inr h
theorem LeInv.done {ds : DsT} {P : List Nat} {le : LeT} {x n : Nat} (h : LeInv ds (x :: P) le) (hx : EndA ds x n) {v : Int} (hv : v = (min n 9 : Nat)) : LeInv ds P (updN le x v) := fun y u hu => by
  unfold updN at hu
  by_cases e : y = x
  · rw [if_pos e] at hu
    exact .inr (.inr ⟨n, by rw [e]; exact hx, by rw [← Option.some.inj hu]; exact hv⟩)
  · rw [if_neg e] at hu
    rcases h y u hu with ⟨h1, h2⟩ | h
    · rcases List.mem_cons.1 h2 with h2 | h2
      · exact absurd h2 e
      · exact .inl ⟨h1, h2⟩
    · exact .inr h
theorem LeInv.ring {ds : DsT} {P : List Nat} {le : LeT} {x : Nat} (h : LeInv ds (x :: P) le) (hx : NoEnd ds x) : LeInv ds P le := fun y u hu => by
  rcases h y u hu with ⟨h1, h2⟩ | h
  · rcases List.mem_cons.1 h2 with h2 | h2
    · exact .inr (.inl ⟨h1, by rw [h2]; exact hx⟩)
    · exact .inl ⟨h1, h2⟩
  · exact .inr h
theorem lenL_spec {ds : DsT} {L : List Nat} {f x : Nat} {P : List Nat}
    (hg : ∀ le y, LeInv ds P le → LeOk le → (∀ p ∈ P, Leads ds p y) → unk L le < f → LeInv ds P (lenF ds f le y).2 ∧ LenR ds y (lenF ds f le y).1) :
    ∀ (l : List Nat) (k : Nat) (sum : Int) (le : LeT), sum = (min k 9 : Nat) → LeInv ds P le → LeOk le → (∀ y ∈ l, ∀ p ∈ P, Leads ds p y) → unk L le < f →
      ((lenL (lenF ds f) x l sum le).1 = -1 ∧ LeInv ds P (lenL (lenF ds f) x l sum le).2 ∧ ∃ y ∈ l, NoEnd ds y) ∨
      ∃ n le', EndS ds l n ∧ (lenL (lenF ds f) x l sum le) = (((min (k + n) 9 : Nat) : Int), updN le' x ((min (k + n) 9 : Nat) : Int)) ∧ LeInv ds P le'
  | [], k, sum, le, hk, hI, _, _, _ => .inr ⟨0, le, ends_nil ds, by rw [lenL, hk]; rfl, hI⟩
  | y :: t, k, sum, le, hk, hI, hO, hr, hu => by
    obtain ⟨h1, h2⟩ := hg le y hI hO (hr y List.mem_cons_self) hu
    have h3 := lenF_ok ds f le y hO
    rw [lenL]
    rcases h2 with ⟨h2, h4⟩ | ⟨n, h4, h5⟩
    · rw [if_pos h2]
      exact .inl ⟨rfl, h1, y, List.mem_cons_self, h4⟩
    · rw [if_neg (by omega)]
      have hu2 := unk_mono L h3.2.2
      have hs : min (sum + (lenF ds f le y).1) 9 = ((min (k + n) 9 : Nat) : Int) := by rw [hk, h5]; omega
      rcases lenL_spec hg t (k + n) _ _ hs h1 h3.2.1 (fun z hz => hr z (List.mem_cons_of_mem _ hz)) (by omega) with ⟨q1, q2, z, hz, q3⟩ | ⟨m, le', q1, q2, q3⟩
      · exact .inl ⟨q1, q2, z, List.mem_cons_of_mem _ hz, q3⟩
      · refine .inr ⟨n + m, le', EndS.cons h4 q1, ?_, q3⟩
        rw [q2, show k + n + m = k + (n + m) by omega]
theorem lenF_spec (ds : DsT) (L : List Nat) (hL : ∀ y, (ds y).isSome = true → y ∈ L) : ∀ (f : Nat) (P : List Nat) (le : LeT) (x : Nat), LeInv ds P le → LeOk le → (∀ p ∈ P, Leads ds p x) → unk L le < f → LeInv ds P (lenF ds f le x).2 ∧ LenR ds x (lenF ds f le x).1
  | 0, P, le, x, _, _, _, hu => absurd hu (by omega)
  | f + 1, P, le, x, hI, hO, hP, hu => by
    rw [lenF]
    by_cases hs : sylP (x : Int) = true
    · rw [if_pos hs]
      refine ⟨hI, .inr ⟨_, EndA.syl hs, ?_⟩⟩
      have : (partsP (x - 44032)).length ≤ 3 := by unfold partsP; split <;> simp
      simp only
      omega
    · have hs' : sylP (x : Int) = false := by simpa using hs
      rw [if_neg hs]
      cases hd : ds x with
      | none => exact ⟨hI, .inr ⟨1, EndA.ofN hs' hd, rfl⟩⟩
      | some own =>
        simp only
        cases hl : le x with
        | some v =>
          simp only
          refine ⟨hI, ?_⟩
          rcases hI x v hl with ⟨h1, h2⟩ | h | h
          · exact .inl ⟨h1, (hP x h2).ring⟩
          · exact .inl h
          · exact .inr h
        | none =>
          simp only
          have hu2 := unk_upd L (hL x (by rw [hd]; rfl)) hl (-1)
          have key := lenL_spec (ds := ds) (L := L) (f := f) (x := x) (P := x :: P) (fun le y a b c d => lenF_spec ds L hL f (x :: P) le y a b c d) own 0 0 (updN le x (-1)) rfl (hI.upd x) (hO.upd (by omega) (by omega))
            (fun y hy p hp => by
              rcases List.mem_cons.1 hp with rfl | hp
              · exact .one hs' hd hy
              · exact .more (hP p hp) hs' hd hy) (by omega)
          rcases key with ⟨q1, q2, y, hy, q3⟩ | ⟨n, le', q1, q2, q3⟩
          · have := NoEnd.up hs' hd hy q3
            exact ⟨q2.ring this, .inl ⟨q1, this⟩⟩
          · have := EndA.ofL hs' hd q1
            rw [q2, Nat.zero_add]
            exact ⟨q3.done this rfl, .inr ⟨n, this, rfl⟩⟩
def FineD (ds : DsT) (x : Nat) : Prop := ∃ n, EndA ds x n ∧ n ≤ 8
theorem FineD.not1 {ds : DsT} {x : Nat} (h : FineD ds x) : ¬ NoEnd ds x := by
  obtain ⟨n, h, _⟩ := h
  exact h.not
theorem FineD.not2 {ds : DsT} {x n : Nat} (h : FineD ds x) (h2 : EndA ds x n) (h8 : 8 < n) : False := by
  obtain ⟨m, h, hm⟩ := h
  have := h.uniq h2
  omega
def BadN (ds : DsT) (x no : Nat) : Prop := (NoEnd ds x ∧ no = 14) ∨ ((∃ n, EndA ds x n ∧ 8 < n) ∧ no = 5)
theorem BadN.uniq {ds : DsT} {x a b : Nat} (h : BadN ds x a) (h2 : BadN ds x b) : a = b := by
  rcases h with ⟨h, e⟩ | ⟨⟨n, h, _⟩, e⟩ <;> rcases h2 with ⟨h2, e2⟩ | ⟨⟨m, h2, _⟩, e2⟩
  · omega
  · exact absurd h h2.not
  · exact absurd h2 h.not
  · omega
theorem BadN.not {ds : DsT} {x a : Nat} (h : BadN ds x a) : ¬ FineD ds x := fun hf => by
  rcases h with ⟨h, _⟩ | ⟨⟨n, h, h8⟩, _⟩
  · exact hf.not1 h
  · exact hf.not2 h h8
theorem BadN.ne {ds : DsT} {x a : Nat} (h : BadN ds x a) : a ≠ 0 := by
  rcases h with ⟨_, h⟩ | ⟨_, h⟩ <;> omega
theorem ringP_spec (S : RdS) (L0 : List Nat) (f : Nat) (hL : ∀ y, (S.ds y).isSome = true → y ∈ L0) (hf : L0.length < f) : ∀ (L : List Nat) (le : LeT), LeInv S.ds [] le → LeOk le →
    (ringP S f L le = (0, 0) ∧ ∀ x ∈ L, FineD S.ds x) ∨ ∃ a x b no, L = a ++ x :: b ∧ (∀ y ∈ a, FineD S.ds y) ∧ BadN S.ds x no ∧ ringP S f L le = (no, (S.ls x).getD 0)
  | [], le, _, _ => .inl ⟨rfl, fun x h => by cases h⟩
  | x :: t, le, hI, hO => by
    have hu : unk L0 le < f := Nat.lt_of_le_of_lt (List.length_filter_le _ _) hf
    obtain ⟨h1, h2⟩ := lenF_spec S.ds L0 hL f [] le x hI hO (fun p hp => by cases hp) hu
    have h3 := (lenF_ok S.ds f le x hO).2.1
    rw [ringP]
    rcases h2 with ⟨h2, h4⟩ | ⟨n, h4, h5⟩
    · have e : endN (lenF S.ds f le x).1 = 14 := by rw [h2]; rfl
      rw [e, if_pos (by decide)]
      exact .inr ⟨[], x, t, 14, rfl, fun y h => (by cases h), .inl ⟨h4, rfl⟩, rfl⟩
    · by_cases h8 : 8 < n
      · have e : endN (lenF S.ds f le x).1 = 5 := by rw [h5]; unfold endN; rw [if_neg (by omega), if_pos (by omega)]
        rw [e, if_pos (by decide)]
        exact .inr ⟨[], x, t, 5, rfl, fun y h => (by cases h), .inr ⟨⟨n, h4, h8⟩, rfl⟩, rfl⟩
      · have e : endN (lenF S.ds f le x).1 = 0 := by rw [h5]; unfold endN; rw [if_neg (by omega), if_neg (by omega)]
        rw [e, if_neg (by decide)]
        have hx : FineD S.ds x := ⟨n, h4, by omega⟩
        rcases ringP_spec S L0 f hL hf t _ h1 h3 with ⟨q1, q2⟩ | ⟨a, y, b, no, rfl, q2, q3, q4⟩
        · refine .inl ⟨q1, fun y hy => ?_⟩
          rcases List.mem_cons.1 hy with rfl | hy
          · exact hx
          · exact q2 y hy
        · refine .inr ⟨x :: a, y, b, no, rfl, fun z hz => ?_, q3, q4⟩
          rcases List.mem_cons.1 hz with rfl | hz
          · exact hx
          · exact q2 z hz
theorem leInv_none (ds : DsT) : LeInv ds [] fun _ => none := fun _ _ h => by cases h
theorem leOk_none : LeOk fun _ => none := fun _ _ h => by cases h
end Go.Proofs.YthhepebkfokddaaGreatDoor
/- The document's answer for props: number, character. -/
namespace Go.Proofs.YthhepebkfokddaaGreatDoor
open Go Go.RowKit Go.Kt Go.Kt.Rg Go.Maps

def yAt (s : ByteArray) (i : Nat) : UInt8 := s.data.toList.getD i 0
theorem yAt_run (s : ByteArray) (i : Nat) (h : i < s.size) (w : World) : (Instr.index 9 (.string s) (.int .i64 (i : Int))).run Tryz.prog w = .ok (.int .u8 ((yAt s i).toNat : Int)) w := by
  have h' : i < s.data.toList.length := by rw [← Lib.size_eq]; exact h
  have e : ((yAt s i).toNat : Int) = ((s[i]'h).toNat : Int) := by
    unfold yAt
    rw [List.getD_eq_getElem?_getD, List.getElem?_eq_getElem h']; rfl
  rw [run_index_string (h := Tryz.underlying9), dif_pos (by omega), e]; rfl
theorem yAt_drop (s : ByteArray) (i : Nat) (h : i < s.size) : s.data.toList.drop i = yAt s i :: s.data.toList.drop (i + 1) := by
  have h' : i < s.data.toList.length := by rw [← Lib.size_eq]; exact h
  unfold yAt
  rw [List.drop_eq_getElem_cons h', List.getD_eq_getElem?_getD, List.getElem?_eq_getElem h']; rfl

/-! ### Digits -/
def lowD : ByteArray := ⟨#[48, 49, 50, 51, 52, 53, 54, 55, 56, 57, 97, 98, 99, 100, 101, 102]⟩
def uppD : ByteArray := ⟨#[48, 49, 50, 51, 52, 53, 54, 55, 56, 57, 65, 66, 67, 68, 69, 70]⟩
def digB (base : Nat) (b : UInt8) : Option Nat := match digV b.toNat with
  | some d => if d < base then some d else none
  | none => none
theorem dig_low : ∀ k : Fin 16, (digV (yAt lowD k).toNat = some k.1) ∧ (digV (yAt uppD k).toNat = some k.1) := by decide
theorem dig_only : ∀ b : Fin 256, ∀ k : Fin 16, digV b.1 = some k.1 → b.1 = (yAt lowD k).toNat ∨ b.1 = (yAt uppD k).toNat := of_decide_eq_true (by kernel_rfl)
def dK (b : UInt8) (k : Nat) : Int := match digV b.toNat with
  | some d => if d < k then (d : Int) else -1
  | none => -1
theorem dK_zero (b : UInt8) : dK b 0 = -1 := by
  unfold dK
  split
  · rw [if_neg (by omega)]
  · rfl
theorem dK_yes {b : UInt8} {k : Nat} (hk : k < 16) (h : b.toNat = (yAt lowD k).toNat ∨ b.toNat = (yAt uppD k).toNat) : dK b (k + 1) = k := by
  have h1 := dig_low ⟨k, hk⟩
  have : digV b.toNat = some k := by
    rcases h with h | h
    · rw [h]; exact h1.1
    · rw [h]; exact h1.2
  unfold dK
  rw [this]
  simp
theorem dK_no {b : UInt8} {k : Nat} (hk : k < 16) (h1 : b.toNat ≠ (yAt lowD k).toNat) (h2 : b.toNat ≠ (yAt uppD k).toNat) : dK b (k + 1) = dK b k := by
  have hne : digV b.toNat ≠ some k := fun e => by
    rcases dig_only ⟨b.toNat, b.toNat_lt⟩ ⟨k, hk⟩ e with h | h
    · exact h1 h
    · exact h2 h
  unfold dK
  cases hd : digV b.toNat with
  | none => rfl
  | some d =>
    simp only
    have : d ≠ k := fun e => hne (by rw [hd, e])
    by_cases h : d < k
    · rw [if_pos h, if_pos (by omega)]
    · rw [if_neg h, if_neg (by omega)]
theorem dK_dig (b : UInt8) (base : Nat) : dK b base = match digB base b with
    | some d => (d : Int)
    | none => -1 := by
  unfold dK digB
  cases digV b.toNat with
  | none => rfl
  | some d =>
    simp only
    by_cases h : d < base
    · rw [if_pos h, if_pos h]
    · rw [if_neg h, if_neg h]
theorem digB_lt {base d : Nat} {b : UInt8} (h : digB base b = some d) : d < base := by
  unfold digB at h
  split at h
  · split at h
    · cases h; assumption
    · cases h
  · cases h
def numF (base : Nat) : Nat → List UInt8 → Option Nat
  | n, [] => some n
  | n, b :: t => match digB base b with
    | some d => numF base (base * n + d) t
    | none => none
def numG (base least most : Nat) (l : List UInt8) : Int := if l.length < least ∨ most < l.length then -1 else match numF base 0 l with
  | some n => (n : Int)
  | none => -1

set_option maxRecDepth 100000 in
set_option maxHeartbeats 4000000 in
theorem ynumber (s : ByteArray) (base least most : Nat) (w : World) (hs : s.size ≤ 140737488351232) (hB : (base = 16 ∧ least = 4 ∧ most = 6) ∨ (base = 10 ∧ least = 1 ∧ most = 18)) :
    Calls Tryz.prog 97 #[.string s, .int .i64 (base : Nat), .int .i64 (least : Nat), .int .i64 (most : Nat)] w fun e w' => e = .returned (.int .i64 (numG base least most s.data.toList)) ∧ Below w.heap.size w w' := by
  have hln : s.data.toList.length = s.size := (Lib.size_eq s).symm
  by_cases h1 : s.size < least
  · have g1 : (s.size : Int) < (least : Nat) := by omega
    have HR : Hid (numG base least most s.data.toList = -1) := Lib.hid (by unfold numG; rw [if_pos (.inl (by omega))])
    clear h1 hln hB
    go_enter Tryz.func97, Tryz.ntmps97
    go_wp2
    go_ret
    exact ⟨by rw [HR.out]; rfl, Below.refl _ _⟩
  have g1 : ¬ (s.size : Int) < (least : Nat) := by omega
  by_cases h2 : most < s.size
  · have g2 : ((most : Nat) : Int) < s.size := by omega
    have HR : Hid (numG base least most s.data.toList = -1) := Lib.hid (by unfold numG; rw [if_pos (.inr (by omega))])
    clear h1 h2 hln hB
    go_enter Tryz.func97, Tryz.ntmps97
    go_wp2
    go_ret
    exact ⟨by rw [HR.out]; rfl, Below.refl _ _⟩
  have g2 : ¬ ((most : Nat) : Int) < s.size := by omega
  obtain ⟨R, hR⟩ : ∃ R, numG base least most s.data.toList = R := ⟨_, rfl⟩
  have hR2 : (match numF base 0 s.data.toList with
    | some n => (n : Int)
    | none => -1) = R := by rw [← hR]; unfold numG; rw [if_neg (by omega)]
  rw [hR]
  have hb16 : base ≤ 16 := by omega
  have hb10 : 10 ≤ base := by omega
  have hmx : base ^ s.size ≤ 1000000000000000000 := by
    rcases hB with ⟨rfl, _, rfl⟩ | ⟨rfl, _, rfl⟩
    · exact Nat.le_trans (Nat.pow_le_pow_right (by decide) (by omega : s.size ≤ 6)) (by decide)
    · exact Nat.le_trans (Nat.pow_le_pow_right (by decide) (by omega : s.size ≤ 18)) (by decide)
  have HP := Lib.hid (And.intro hb16 (And.intro hb10 (And.intro hmx hln)))
  have HR := Lib.hid hR2
  clear hB hR hR2 h1 h2 hln hb10 hmx
  go_enter Tryz.func97, Tryz.ntmps97
  go_wp2_with fail
  clear g1 g2
  go_loopw [9, 10] (fun u v wr => ∃ (i n : Nat), u = .int .i64 (n : Nat) ∧ v = .int .i64 (i : Nat) ∧ i ≤ s.size ∧ Hid (n < base ^ i ∧ (match numF base n (s.data.toList.drop i) with
    | some n => (n : Int)
    | none => -1) = R) ∧ Below w.heap.size w wr) (fun _ v _ => s.size - (RowKit.intOf v).toNat)
  case atStart => exact ⟨0, 0, rfl, rfl, Nat.zero_le _, Lib.hid ⟨by simp, by rw [List.drop_zero]; exact HR.out⟩, Below.refl _ _⟩
  case round =>
    obtain ⟨i, n, rfl, rfl, hi, hn, hbr⟩ := hrel
    by_cases hlt : i < s.size
    · have e1 : (i : Int) < s.size := by omega
      have HI := fun W => yAt_run s i hlt W
      have HD := yAt_drop s i hlt
      obtain ⟨b, hb⟩ : ∃ b, yAt s i = b := ⟨_, rfl⟩
      rw [hb] at HI HD
      have HX := Lib.hid (And.intro HD hbr)
      clear HD hbr hb
      go_wp2_with fail
      go_loopw [11, 12] (fun u v wr => ∃ (k : Nat), u = .int .i64 (dK b k) ∧ v = .int .i64 (k : Nat) ∧ k ≤ base ∧ Below w.heap.size w wr) (fun _ v _ => base - (RowKit.intOf v).toNat)
      case atStart => exact ⟨0, by rw [dK_zero], rfl, Nat.zero_le _, HX.out.2⟩
      case round =>
        obtain ⟨k, rfl, rfl, hk, hbr2⟩ := hrel
        by_cases hkb : k < base
        · have e2 : (k : Int) < (base : Nat) := by omega
          have hk16 : k < 16 := by omega
          have HLo := fun W => yAt_run lowD k hk16 W
          have HUp := fun W => yAt_run uppD k hk16 W
          unfold lowD at HLo
          unfold uppD at HUp
          have hk1 : IntKind.i64.wrap ((k : Int) + 1) = ((k + 1 : Nat) : Int) := by rw [IntWalk.i64_in _ (by omega)]; omega
          obtain ⟨c, hc⟩ : ∃ c : Int, (b.toNat : Int) = c := ⟨_, rfl⟩
          obtain ⟨lo, hlo⟩ : ∃ c : Int, ((yAt lowD k).toNat : Int) = c := ⟨_, rfl⟩
          obtain ⟨up, hup⟩ : ∃ c : Int, ((yAt uppD k).toNat : Int) = c := ⟨_, rfl⟩
          rw [show (yAt ⟨#[48, 49, 50, 51, 52, 53, 54, 55, 56, 57, 97, 98, 99, 100, 101, 102]⟩ k) = yAt lowD k from rfl, hlo] at HLo
          rw [show (yAt ⟨#[48, 49, 50, 51, 52, 53, 54, 55, 56, 57, 65, 66, 67, 68, 69, 70]⟩ k) = yAt uppD k from rfl, hup] at HUp
          rw [hc] at HI
          obtain ⟨dv, hdv⟩ : ∃ dv : Int, dK b k = dv := ⟨_, rfl⟩
          by_cases hcl : c = lo
          · have q1 : (c == lo) = true := by simp [hcl]
            have HN := Lib.hid (dK_yes hk16 (.inl (show b.toNat = (yAt lowD k).toNat by omega)))
            rw [hdv]
            have HBR := Lib.hid hbr2
            clear hc hlo hup hbr2 hdv hcl
            go_wp2_with fail
            go_quiet (fail)
            go_wp2
            go_roundw
            case rel => exact ⟨k + 1, by rw [HN.out], by go_num, by omega, below_drewN HBR.out _⟩
            case measure => simp [RowKit.intOf]; omega
          · have q1 : (c == lo) = false := beq_eq_false_iff_ne.2 hcl
            by_cases hcu : c = up
            · have q2 : (c == up) = true := by simp [hcu]
              have HN := Lib.hid (dK_yes hk16 (.inr (show b.toNat = (yAt uppD k).toNat by omega)))
              rw [hdv]
              have HBR := Lib.hid hbr2
              clear hc hlo hup hbr2 hdv hcl hcu
              go_wp2_with fail
              go_quiet (fail)
              go_wp2
              go_roundw
              case rel => exact ⟨k + 1, by rw [HN.out], by go_num, by omega, below_drewN HBR.out _⟩
              case measure => simp [RowKit.intOf]; omega
            · have q2 : (c == up) = false := beq_eq_false_iff_ne.2 hcu
              have HN := Lib.hid ((dK_no hk16 (show b.toNat ≠ (yAt lowD k).toNat by omega) (show b.toNat ≠ (yAt uppD k).toNat by omega)).trans hdv)
              rw [hdv]
              have HBR := Lib.hid hbr2
              clear hc hlo hup hbr2 hdv hcl hcu
              go_wp2_with fail
              go_quiet (fail)
              go_wp2
              go_roundw
              case rel => exact ⟨k + 1, by rw [HN.out], by go_num, by omega, below_drewN HBR.out _⟩
              case measure => simp [RowKit.intOf]; omega
        · have e2 : ¬ (k : Int) < (base : Nat) := by omega
          obtain rfl : k = base := by omega
          have hk1 : IntKind.i64.wrap ((i : Int) + 1) = ((i + 1 : Nat) : Int) := by rw [IntWalk.i64_in _ (by omega)]; omega
          have hdd := dK_dig b k
          have hst := hn.out.2
          rw [HX.out.1, numF] at hst
          cases hdg : digB k b with
          | none =>
            rw [hdg] at hdd hst
            have HS := Lib.hid hst
            have HBR := Lib.hid hbr2
            rw [hdd]
            clear hdd hst hbr2 hdg hkb
            go_wp2
            go_ret
            exact ⟨by rw [← HS.out]; rfl, HBR.out⟩
          | some d =>
            rw [hdg] at hdd hst
            have hd := digB_lt hdg
            have hpw : k * n + d < k ^ (i + 1) := by
              rw [Nat.pow_succ, Nat.mul_comm (k ^ i)]
              have h3 : k * (n + 1) ≤ k * k ^ i := Nat.mul_le_mul_left _ hn.out.1
              rw [Nat.mul_add] at h3
              omega
            have hle : k ^ (i + 1) ≤ k ^ s.size := Nat.pow_le_pow_right (by have := HP.out.2.1; omega) (by omega)
            have hmx := HP.out.2.2.1
            have w1 : IntKind.i64.wrap ((k : Int) * (n : Int)) = ((k * n : Nat) : Int) := by rw [IntWalk.i64_in _ (by rw [← Int.natCast_mul]; omega)]; exact (Int.natCast_mul _ _).symm
            have w2 : IntKind.i64.wrap (((k * n : Nat) : Int) + (d : Int)) = ((k * n + d : Nat) : Int) := by rw [IntWalk.i64_in _ (by omega)]; omega
            have d0 : ¬ (d : Int) < 0 := by omega
            have HS := Lib.hid (And.intro hpw hst)
            have HBR := Lib.hid hbr2
            simp only at hdd
            rw [hdd]
            obtain ⟨K, hK⟩ : ∃ K : Nat, k * n = K := ⟨_, rfl⟩
            rw [hK] at w1 w2
            have HK := Lib.hid hK
            clear hdd hst hbr2 hdg hkb hpw hle hmx hd hK
            go_wp2
            go_roundw
            case rel => exact ⟨i + 1, K + d, by go_num, by go_num, by omega, Lib.hid ⟨by rw [← HK.out]; exact HS.out.1, by rw [← HK.out]; exact HS.out.2⟩, HBR.out⟩
            case measure => simp [RowKit.intOf]; omega
    · have e1 : ¬ (i : Int) < s.size := by omega
      have hr := hn.out.2
      rw [List.drop_eq_nil_of_le (by have := HP.out.2.2.2; omega)] at hr
      have hr2 : (n : Int) = R := hr
      have HR2 := Lib.hid hr2
      clear hr hr2 hlt
      go_wp2
      go_ret
      exact ⟨by rw [← HR2.out]; rfl, hbr⟩
end Go.Proofs.YthhepebkfokddaaGreatDoor
/- The document's answer for props: syllable, jamo. -/
namespace Go.Proofs.YthhepebkfokddaaGreatDoor
open Go Go.RowKit Go.Kt Go.Kt.Rg Go.Maps

def jamP (n : Int) : Bool := leadP n || vowP n || tailP n
theorem jam_iff (n : Int) : jamP n = decide ((4352 ≤ n ∧ n ≤ 4370) ∨ (4449 ≤ n ∧ n ≤ 4469) ∨ (4520 ≤ n ∧ n ≤ 4546)) := by
  rw [Bool.eq_iff_iff]
  simp [jamP, leadP, vowP, tailP]
  omega
theorem syl_iff (n : Int) : sylP n = decide (44032 ≤ n ∧ n ≤ 55203) := by
  rw [Bool.eq_iff_iff]
  simp [sylP]
  omega
theorem han_two (n : Int) : hanP n = (sylP n || jamP n) := by
  unfold hanP jamP
  simp [Bool.or_assoc]
set_option maxRecDepth 100000 in
theorem ysyl (n : Int) (w : World) : Calls Tryz.prog 100 #[.int .i64 n] w fun e w' => e = .returned (.bool (sylP n)) ∧ Below w.heap.size w w' := by
  by_cases h2 : 44032 ≤ n
  · by_cases h4 : n ≤ 55203
    · have HR : Hid (sylP n = true) := Lib.hid (by rw [syl_iff]; simp; omega)
      go_enter Tryz.func100, Tryz.ntmps100
      go_wp2
      go_ret
      exact ⟨by rw [HR.out]; rfl, Below.refl _ _⟩
    · have HR : Hid (sylP n = false) := Lib.hid (by rw [syl_iff]; simp; omega)
      go_enter Tryz.func100, Tryz.ntmps100
      go_wp2
      go_ret
      exact ⟨by rw [HR.out]; rfl, Below.refl _ _⟩
  · have HR : Hid (sylP n = false) := Lib.hid (by rw [syl_iff]; simp; omega)
    go_enter Tryz.func100, Tryz.ntmps100
    go_wp2
    go_ret
    exact ⟨by rw [HR.out]; rfl, Below.refl _ _⟩
set_option maxRecDepth 100000 in
theorem yjam (n : Int) (w : World) : Calls Tryz.prog 101 #[.int .i64 n] w fun e w' => e = .returned (.bool (jamP n)) ∧ Below w.heap.size w w' := by
  by_cases h2 : 4352 ≤ n
  · by_cases h4 : n ≤ 4370
    · have HR : Hid (jamP n = true) := Lib.hid (by rw [jam_iff]; simp; omega)
      go_enter Tryz.func101, Tryz.ntmps101
      go_wp2
      go_ret
      exact ⟨by rw [HR.out]; rfl, Below.refl _ _⟩
    · by_cases h6 : 4449 ≤ n
      · by_cases h8 : n ≤ 4469
        · have HR : Hid (jamP n = true) := Lib.hid (by rw [jam_iff]; simp; omega)
          go_enter Tryz.func101, Tryz.ntmps101
          go_wp2
          go_ret
          exact ⟨by rw [HR.out]; rfl, Below.refl _ _⟩
        · by_cases h10 : 4520 ≤ n
          · by_cases h12 : n ≤ 4546
            · have HR : Hid (jamP n = true) := Lib.hid (by rw [jam_iff]; simp; omega)
              go_enter Tryz.func101, Tryz.ntmps101
              go_wp2
              go_ret
              exact ⟨by rw [HR.out]; rfl, Below.refl _ _⟩
            · have HR : Hid (jamP n = false) := Lib.hid (by rw [jam_iff]; simp; omega)
              go_enter Tryz.func101, Tryz.ntmps101
              go_wp2
              go_ret
              exact ⟨by rw [HR.out]; rfl, Below.refl _ _⟩
          · have HR : Hid (jamP n = false) := Lib.hid (by rw [jam_iff]; simp; omega)
            go_enter Tryz.func101, Tryz.ntmps101
            go_wp2
            go_ret
            exact ⟨by rw [HR.out]; rfl, Below.refl _ _⟩
      · by_cases h8 : 4520 ≤ n
        · by_cases h10 : n ≤ 4546
          · have HR : Hid (jamP n = true) := Lib.hid (by rw [jam_iff]; simp; omega)
            go_enter Tryz.func101, Tryz.ntmps101
            go_wp2
            go_ret
            exact ⟨by rw [HR.out]; rfl, Below.refl _ _⟩
          · have HR : Hid (jamP n = false) := Lib.hid (by rw [jam_iff]; simp; omega)
            go_enter Tryz.func101, Tryz.ntmps101
            go_wp2
            go_ret
            exact ⟨by rw [HR.out]; rfl, Below.refl _ _⟩
        · have HR : Hid (jamP n = false) := Lib.hid (by rw [jam_iff]; simp; omega)
          go_enter Tryz.func101, Tryz.ntmps101
          go_wp2
          go_ret
          exact ⟨by rw [HR.out]; rfl, Below.refl _ _⟩
  · by_cases h4 : 4449 ≤ n
    · by_cases h6 : n ≤ 4469
      · have HR : Hid (jamP n = true) := Lib.hid (by rw [jam_iff]; simp; omega)
        go_enter Tryz.func101, Tryz.ntmps101
        go_wp2
        go_ret
        exact ⟨by rw [HR.out]; rfl, Below.refl _ _⟩
      · by_cases h8 : 4520 ≤ n
        · by_cases h10 : n ≤ 4546
          · have HR : Hid (jamP n = true) := Lib.hid (by rw [jam_iff]; simp; omega)
            go_enter Tryz.func101, Tryz.ntmps101
            go_wp2
            go_ret
            exact ⟨by rw [HR.out]; rfl, Below.refl _ _⟩
          · have HR : Hid (jamP n = false) := Lib.hid (by rw [jam_iff]; simp; omega)
            go_enter Tryz.func101, Tryz.ntmps101
            go_wp2
            go_ret
            exact ⟨by rw [HR.out]; rfl, Below.refl _ _⟩
        · have HR : Hid (jamP n = false) := Lib.hid (by rw [jam_iff]; simp; omega)
          go_enter Tryz.func101, Tryz.ntmps101
          go_wp2
          go_ret
          exact ⟨by rw [HR.out]; rfl, Below.refl _ _⟩
    · by_cases h6 : 4520 ≤ n
      · by_cases h8 : n ≤ 4546
        · have HR : Hid (jamP n = true) := Lib.hid (by rw [jam_iff]; simp; omega)
          go_enter Tryz.func101, Tryz.ntmps101
          go_wp2
          go_ret
          exact ⟨by rw [HR.out]; rfl, Below.refl _ _⟩
        · have HR : Hid (jamP n = false) := Lib.hid (by rw [jam_iff]; simp; omega)
          go_enter Tryz.func101, Tryz.ntmps101
          go_wp2
          go_ret
          exact ⟨by rw [HR.out]; rfl, Below.refl _ _⟩
      · have HR : Hid (jamP n = false) := Lib.hid (by rw [jam_iff]; simp; omega)
        go_enter Tryz.func101, Tryz.ntmps101
        go_wp2
        go_ret
        exact ⟨by rw [HR.out]; rfl, Below.refl _ _⟩
end Go.Proofs.YthhepebkfokddaaGreatDoor
/- The document's answer for props: said: what the last row that has a point says of it. -/
namespace Go.Proofs.YthhepebkfokddaaGreatDoor
open Go Go.RowKit Go.Kt Go.Kt.Rg Go.Maps

def RfW (w : World) (v : Value) (l : List (Nat × Nat × Int)) : Prop :=
  ∃ ao cp, v = .slice ao l.length cp ∧ (l = [] ∨ ∃ g, ao = some ⟨g, 0, none⟩ ∧ ∀ (i : Nat) (r : Nat × Nat × Int), l[i]? = some r → w.cell? ⟨g, i * 3, none⟩ = some (.int .i64 r.1) ∧ w.cell? ⟨g, i * 3 + 1, none⟩ = some (.int .i64 r.2.1) ∧ w.cell? ⟨g, i * 3 + 2, none⟩ = some (.int .i64 r.2.2))
theorem RfW.below {v : Value} {l : List (Nat × Nat × Int)} {A B : World} (h : RfW A v l) (hb : Below A.heap.size A B) : RfW B v l := by
  obtain ⟨ao, cp, rfl, h⟩ := h
  refine ⟨ao, cp, rfl, ?_⟩
  rcases h with h | ⟨g, e, h⟩
  · exact .inl h
  · exact .inr ⟨g, e, fun i r hr => ⟨(hb.cell (lt_of_cell (h i r hr).1)).trans (h i r hr).1, (hb.cell (lt_of_cell (h i r hr).2.1)).trans (h i r hr).2.1, (hb.cell (lt_of_cell (h i r hr).2.2)).trans (h i r hr).2.2⟩⟩
def lastZ : List (Nat × Nat × Int) → Int → Option Int
  | [], _ => none
  | x :: t, e => match lastZ t e with
    | some v => some v
    | none => if (x.1 : Int) ≤ e ∧ e ≤ (x.2.1 : Int) then some x.2.2 else none
end Go.Proofs.YthhepebkfokddaaGreatDoor
