/- cells: how many there are; what CellsPlain asks first: works. -/
import Derived.Test.YthhepebkfokddaaGreatDoorIl
namespace Go.Proofs.YthhepebkfokddaaGreatDoor
open Go Go.RowKit Go.Kt Go.Kt.Rg Go.Maps
attribute [local go_sem] Oper.semAt_some

theorem celF_len (S : RdS) (s : ByteArray) (l : List (Nat × Nat)) : (celF S s l).1.length ≤ l.length := by
  rcases List.eq_nil_or_concat l with rfl | ⟨r, p, rfl⟩
  · exact Nat.le_refl 0
  · have ih := celF_len S s r
    rw [List.concat_eq_append, celF_snoc]
    unfold celStep
    split
    · simp; omega
    · simp; omega
termination_by l.length
theorem celL_len (S : RdS) (s : ByteArray) : (celL S s).length ≤ s.size + 1 := by
  unfold celL
  split
  · simp
  · have h1 := celF_len S s (units s)
    have h2 := units_len s
    simp
    omega

set_option maxRecDepth 100000 in
set_option maxHeartbeats 2000000 in
theorem cCount {gp : Nat} {S : RdS} {md : MdT} (s : ByteArray) (w : World) (hP : PrW gp S md w) (hT : Lib.Utf8Tabs 3 4 w) (hs : s.size ≤ 4611686018427387904) :
    Calls Tryz.prog 15 #[.pointer (some ⟨gp, 0, none⟩), .string s] w fun e w' => e = .returned (.int .i64 ((celL S s).length : Nat)) ∧ Below w.heap.size w w' := by
  have hLn := celL_len S s
  obtain ⟨n, hn⟩ : ∃ n, w.heap.size = n := ⟨_, rfl⟩
  have hfn : ∀ k, Fence.wide.fn k := fun _ => trivial
  have hdep : Fence.wide.depth = none := rfl
  refine (callsIn_wide (n := 0)).1 ?_
  refine callsIn_of_wp_marks Tryz.func15 rfl trivial ?_ rfl
  simp only [Tryz.ntmps15, List.size_toArray, List.length_cons, List.length_nil, Nat.reduceAdd, Nat.reduceSub, Array.replicate_succ, Array.replicate_zero, List.push_toArray, List.append_toArray, List.nil_append, List.cons_append]
  obtain ⟨V1, hV1⟩ : ∃ V1, w.alloc (.cells #[.int .i64 0] 3) = V1 := ⟨_, rfl⟩
  have hz1 : V1.heap.size = n + 1 := by rw [← hV1]; simp [hn]
  have b0 : V1.heap[n]? = some (.cells #[.int .i64 0] 3 (0, 0)) := by rw [← hV1]; exact alloc_at hn.symm
  have hb1 : Below n w V1 := by rw [← hV1]; exact (Below.refl _ _).alloc (by omega) _
  have CA := Lib.hid (cAll_call gp s V1)
  have HV1 := Lib.hid hV1
  clear hV1
  gi_wp2_with fail
  rw [HV1.out]
  refine (callsIn_wide.2 CA.out).mono ?_
  rintro e w6 ⟨rfl, hw6⟩
  have hk6 : Keep (fun _ => False) V1 w6 := by rw [← hw6]; exact ((Keep.refl _ _).alloc _).alloc _
  have hz6 : w6.heap.size = n + 3 := by rw [← hw6]; simp [hz1]
  have c1 : w6.heap[n + 1]? = some (.cells #[.pointer (some ⟨gp, 0, none⟩)] 22 (0, 0)) := by rw [← hw6]; exact alloc_old (alloc_at (by omega))
  have c2 : w6.heap[n + 2]? = some (.cells #[.string s] 9 (0, 0)) := by rw [← hw6]; exact alloc_at (by simp [hz1])
  have v0 := hk6.heap b0 (fun h => h)
  have hb6 : Below n w w6 := hb1.trans (hk6.below (by omega) (fun _ h => h.elim))
  have HIT := Lib.hid (call_iter s (n + 1) (n + 2) w w6 (cell_one c2) (cell_one c1) hP (by rw [hn]; exact hb6.block) hb6.size hT hs)
  rw [hz1]
  clear hw6 hk6 hb1 b0 c1 c2 hP hT
  gi_wp2_with fail
  refine loop_out2 (gf := 30) (lb := #[.pointer (some ⟨n + 2, 0, none⟩), .pointer (some ⟨n + 1, 0, none⟩)]) (encs := encCP) rfl (enters_of Tryz.func30 (by kernel_rfl) rfl)
    HIT.out (fun _ => rfl) (X := fun b => b = n)
    (fun b hb => by omega) (fun b hb => by rcases hb with h | h | h <;> exact ⟨by omega, by omega⟩) (fun _ _ => rfl) (Nat.le_refl _)
    (fun pre Y W => W.heap[n]? = some (.cells #[.int .i64 (pre.length : Nat)] 3 (0, 0)))
    (fun _ _ _ _ => False)
    (fun pre Y W W' hk h' => hk.heap h' (fun hx => by have := hx.1; omega))
    (fun pre Y W h' => h')
    (fun _ _ _ _ _ _ h => h) v0 ?round ?done ?stop
  case stop => intro D c pre Y W _ _ _ h; exact h.elim
  case round =>
    rintro l' hl' pre ⟨lo, up⟩ Y W hpre hi hk hY hlt hr
    simp only [encCP]
    gi_wp2
    refine ⟨Keep.refl _ _, ?_⟩
    rintro W2 _ hk2 hv hr2
    have hlen : pre.length < (celL S s).length := by
      obtain ⟨rest, hrest⟩ := hpre
      rw [← hrest]; simp
    have x0 := cell_one hv
    have x1 := frozen_one hv
    obtain ⟨k, hk9⟩ : ∃ k, pre.length = k := ⟨_, rfl⟩
    have HV := Lib.hid hv
    have HK9 := Lib.hid hk9
    rw [hk9] at x0 hlen
    have hk10 : (k : Int) ≤ 4611686018427387904 := by omega
    clear hv hk2 hr2 hr hi hk hpre hk9 hlen hLn HIT
    gi_wp2_with fail
    refine ⟨Y, (Keep.refl _ _).setCell (p := ⟨n, 0, none⟩) (.inl rfl) _, fun b h => .inl h, ?_⟩
    have h9 := set_at (u := .int .i64 ((k : Int) + 1)) HV.out
    have e9 : (pre ++ [(lo, up)]).length = k + 1 := by simp [HK9.out]
    show (W2.setCell ⟨n, 0, none⟩ (.int .i64 ((k : Int) + 1))).heap[n]? = some (.cells #[.int .i64 ((pre ++ [(lo, up)]).length : Nat)] 3 (0, 0))
    rw [e9]
    exact h9
  case done =>
    rintro D Y W hD hDd hv hY hkW
    have hbW : Below n w W := hb6.trans (hkW.below (by omega) (fun b hb => by omega))
    have x0 := cell_one hv
    have HF := Lib.hid (And.intro hbW (And.intro hDd hn))
    have hzW := hkW.size
    clear hv hkW hY hbW hDd HIT
    gi_wp2_with fail
    refine leaves_marks (Ds := [D]) (by simp) (fun D' h => by simp at h; subst h; exact HF.out.2.1) (fun W' hk' => ⟨_, results_tmp rfl _ _ _, rfl, ?_⟩)
    have hk' : Keep (fun b => b = D) W W' := hk'.weaken fun b _ hb => by simpa using hb
    rw [HF.out.2.2]
    exact HF.out.1.trans (hk'.below (by omega) (fun b hb => by have hb : b = D := hb; omega))
theorem w_l1 : celL rdX ⟨#[97, 204, 129, 98, 255, 204, 129]⟩ = [(0, 3), (3, 4), (4, 5), (5, 7)] := by kernel_rfl
theorem w_l2 : (celL rdX ⟨#[13, 10, 10]⟩).length = 2 := by kernel_rfl
theorem w_e1 : edgP rdX ⟨#[97, 98]⟩ 1 = true := by kernel_rfl
theorem w_e2 : edgP rdX ⟨#[]⟩ 0 = false := by kernel_rfl
theorem prr_four (W : World) : PrR (W.alloc (.cells #[.int .i64 0, .int .i64 3, .int .i64 3, .int .i64 4, .int .i64 4, .int .i64 5, .int .i64 5, .int .i64 7] 40)) (.slice (some ⟨W.heap.size, 0, none⟩) 4 4) [(0, 3), (3, 4), (4, 5), (5, 7)] := by
  refine ⟨_, _, rfl, .inr ⟨W.heap.size, rfl, fun i x hx => ?_⟩⟩
  rw [Lib.cell_of_heap (World.alloc_heap_new W _), Lib.cell_of_heap (World.alloc_heap_new W _)]
  match i, hx with
  | 0, hx => simp at hx; subst hx; exact ⟨rfl, rfl⟩
  | 1, hx => simp at hx; subst hx; exact ⟨rfl, rfl⟩
  | 2, hx => simp at hx; subst hx; exact ⟨rfl, rfl⟩
  | 3, hx => simp at hx; subst hx; exact ⟨rfl, rfl⟩
  | i + 4, hx => simp at hx

set_option maxRecDepth 100000 in
set_option maxHeartbeats 1000000 in
theorem cworks (w : World) (hE : PEnv w) (hT : Lib.Utf8Tabs 3 4 w) : Calls Tryz.prog 8 #[] w fun e w' => e = .returned (.bool true) ∧ Below w.heap.size w w' := by
  have CP := Lib.hid (pParse ⟨fileX.toArray⟩ w hE)
  have HT := Lib.hid hT
  clear hT
  go_enter Tryz.func8, Tryz.ntmps8
  go_wp2_with fail
  refine CP.out.mono ?_
  rintro e w1 ⟨no, line, S, L, hP, hb1, hor⟩
  obtain ⟨h0, rfl, rfl⟩ := file_only (f := fileX) (by decide) (by rw [fileX_lines]; omega) fileX_reads (fun _ => rfl) (by kernel_rfl) hP
  obtain ⟨g, rfl, hW1⟩ : ∃ g, e = .returned (.tuple #[.pointer (some ⟨g, 0, none⟩), .nilIface]) ∧ PrW g rdX (mdOf rdX []) w1 := by
    rcases hor with ⟨_, g, h1, h2⟩ | ⟨h1, _⟩
    · exact ⟨g, h1, h2⟩
    · exact absurd h0 h1
  have HB1 := Lib.hid hb1
  have HW := Lib.hid (fun W (h : Below w1.heap.size w1 W) => hW1.below h)
  have HT1 := Lib.hid (fun W (h : Below w1.heap.size w1 W) => tabs_below HT.out (tabs_size HT.out) (hb1.trans (h.mono hb1.size)))
  have HPW := Lib.hid hW1
  clear hP hb1 hor hW1 h0
  go_wp2_with fail
  refine (cAll_call g _ w1).mono ?_
  rintro e w2 ⟨rfl, hw2⟩
  have hb2 : Below w1.heap.size w1 w2 := by rw [← hw2]; exact ((Below.refl _ _).alloc (Nat.le_refl _) _).alloc (by simp) _
  have c1 : w2.heap[w1.heap.size]? = some (.cells #[.pointer (some ⟨g, 0, none⟩)] 22 (0, 0)) := by rw [← hw2]; exact alloc_old (alloc_at rfl)
  have c2 : w2.heap[w1.heap.size + 1]? = some (.cells #[.string ⟨#[97, 204, 129, 98, 255, 204, 129]⟩] 9 (0, 0)) := by rw [← hw2]; exact alloc_at (by simp)
  have HG := Lib.hid (cgathered (celL rdX ⟨#[97, 204, 129, 98, 255, 204, 129]⟩) _ _ _ w2 w2 (enters_of Tryz.func30 (by kernel_rfl) rfl) (call_iter _ (w1.heap.size) (w1.heap.size + 1) w1 w2 (cell_one c2) (cell_one c1) HPW.out hb2.block hb2.size (HT1.out w1 (Below.refl _ _)) (by decide)) (fun b hb => by
    have h1 := (Array.getElem?_eq_some_iff.1 c1).1
    have h2 := (Array.getElem?_eq_some_iff.1 c2).1
    rcases hb with h | h | h <;> omega) (fun _ _ => rfl) (Nat.le_refl _) (by rw [w_l1]; decide))
  have HB2 := Lib.hid hb2
  clear hw2 hb2 c1 c2
  go_wp2_with fail
  refine HG.out.mono ?_
  rintro e w3 ⟨v, rfl, hv, hb3⟩
  rw [w_l1] at hv
  have HB3 := Lib.hid (HB2.out.trans (hb3.mono HB2.out.size))
  have hv4 : PrR (w3.alloc (.cells #[.int .i64 0, .int .i64 3, .int .i64 3, .int .i64 4, .int .i64 4, .int .i64 5, .int .i64 5, .int .i64 7] 40)) v [(0, 3), (3, 4), (4, 5), (5, 7)] := hv.below ((Below.refl _ w3).alloc (Nat.le_refl _) _)
  have CS := Lib.hid (csame _ _ _ _ _ hv4 (prr_four w3) (by decide) (by decide))
  clear hv hb3 hv4
  go_wp2_with fail
  refine CS.out.mono ?_
  rintro e w5 ⟨rfl, hd5⟩
  have hb5 : Below w3.heap.size w3 w5 := ((Below.refl _ w3).alloc (Nat.le_refl _) _).trans (hd5.below.mono (by simp))
  have HB5 := Lib.hid (HB3.out.trans (hb5.mono HB3.out.size))
  clear hd5 hb5
  have HC := Lib.hid (cCount (md := mdOf rdX []) ⟨#[13, 10, 10]⟩ w5 (HW.out w5 HB5.out) (HT1.out w5 HB5.out) (by decide))
  rw [w_l2] at HC
  go_wp2_with fail
  refine HC.out.mono ?_
  rintro e w6 ⟨rfl, hb6⟩
  have HB6 := Lib.hid (HB5.out.trans (hb6.mono HB5.out.size))
  clear hb6
  have HC2 := Lib.hid (cEdge (md := mdOf rdX []) ⟨#[97, 98]⟩ 1 w6 (HW.out w6 HB6.out) (HT1.out w6 HB6.out) (by decide))
  rw [w_e1] at HC2
  go_wp2_with fail
  refine HC2.out.mono ?_
  rintro e w7 ⟨rfl, hb7⟩
  have HB7 := Lib.hid (HB6.out.trans (hb7.mono HB6.out.size))
  clear hb7
  have HC3 := Lib.hid (cEdge (md := mdOf rdX []) ⟨#[]⟩ 0 w7 (HW.out w7 HB7.out) (HT1.out w7 HB7.out) (by decide))
  rw [w_e2] at HC3
  go_wp2_with fail
  refine HC3.out.mono ?_
  rintro e w8 ⟨rfl, hb8⟩
  have HB8 := Lib.hid (HB7.out.trans (hb8.mono HB7.out.size))
  clear hb8
  go_wp2
  go_ret
  exact ⟨rfl, HB1.out.trans (HB8.out.mono HB1.out.size)⟩
end Go.Proofs.YthhepebkfokddaaGreatDoor
