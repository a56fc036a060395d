/- props: runs of rows: the walk. -/
import Derived.Test.YtcfhblbmpbfoaaaGreatDoorGv14
import Derived.Test.YtcfhblbmpbfoaaaGreatDoorGv11
namespace Go.Proofs.YtcfhblbmpbfoaaaGreatDoor
open Go Go.RowKit Go.Kt Go.Kt.Rg Go.Maps Go.Kt.Os Go.Sort
attribute [local go_sem] Oper.semAt_some

theorem tinfoPRun : (Tryz.prog.info? 178).map (fun i => (i.zero, i.size, i.bytes)) = some (some (.agg #[.int .i32 0, .int .i64 0]), 2, 16) := by kernel_rfl
def ValW (b n : Nat) (V : Nat → Int) (w : World) : Prop := ∀ j, j < n → w.cell? ⟨b, j, none⟩ = some (.int .i64 (V j)) ∧ w.frozen? ⟨b, j, none⟩ = false

theorem ValW.set {b n : Nat} {V : Nat → Int} {w : World} (h : ValW b n V w) {x : Nat} (hx : x < n) (y : Int) : ValW b n (fun j => if j = x then y else V j) (w.setCell ⟨b, x, none⟩ (.int .i64 y)) := fun i hi => by
  refine ⟨?_, ?_⟩
  · by_cases e : i = x
    · subst e
      simp only [if_true]
      exact World.cell?_setCell_same _ _ _ (h i hi).1
    · simp only [if_neg e]
      exact (World.cell?_setCell_other _ _ _ _ (by intro h; injection h with _ h2 _; exact e h2.symm)).trans (h i hi).1
  · rw [World.frozen?_setCell]
    exact (h i hi).2
def RunJ (vb lb m : Nat) (E : List Nat) (P0 : Nat → Prop) (V0 : Nat → Int) (hi : Nat) (vv : Int) (first : Nat) (W0 : World) (at_ : Nat) (wr : World) : Prop :=
  first ≤ at_ ∧ at_ < m ∧ (∃ (Pc : Nat → Prop) (Vc : Nat → Int), LftW lb m Pc wr ∧ ValW vb m Vc wr ∧ Pc at_ ∧ (∀ j, j < m → (Pc j ↔ P0 j ∧ (j < first ∨ at_ ≤ j))) ∧ (∀ j, P0 j → first ≤ j → j < at_ → Vc j = vv) ∧ (∀ j, j < m → ¬ (P0 j ∧ first ≤ j ∧ j < at_) → Vc j = V0 j)) ∧
    (∀ j e, first ≤ j → j < at_ → E[j]? = some e → P0 j → e ≤ hi) ∧ Keep (fun b => b = vb ∨ b = lb) W0 wr

theorem backL_pre {rows : List Rw3} {pre : List (Nat × Rw3)} {x : Nat × Rw3} (h : pre ++ [x] <+: backL rows) : pre.length < rows.length ∧ rows[rows.length - 1 - pre.length]? = some x.2 ∧ rows.drop (rows.length - (pre ++ [x]).length) = x.2 :: rows.drop (rows.length - pre.length) := by
  have hl : pre.length < rows.length := by
    have := h.length_le
    rw [backL_len] at this
    simp at this
    omega
  have hg := backL_get rows hl
  obtain ⟨t, ht⟩ := h
  rw [← ht] at hg
  rw [List.append_assoc, List.getElem?_append_right (Nat.le_refl _)] at hg
  simp only [Nat.sub_self, List.singleton_append, List.getElem?_cons_zero, Option.some.injEq] at hg
  have hj : rows.length - 1 - pre.length < rows.length := by omega
  have hx : x.2 = rows[rows.length - 1 - pre.length] := by
    rw [hg]
    simp [List.getD_eq_getElem?_getD, List.getElem?_eq_getElem hj]
  refine ⟨hl, by rw [List.getElem?_eq_getElem hj, hx], ?_⟩
  rw [show rows.length - (pre ++ [x]).length = rows.length - 1 - pre.length by simp; omega, List.drop_eq_getElem_cons hj, ← hx, show rows.length - 1 - pre.length + 1 = rows.length - pre.length by omega]

structure RunB where
  c3 : Nat
  c4 : Nat
  c5 : Nat
  eb : Nat
  ec : Nat
  vb : Nat
  lb : Nat
  m : Nat
def RunI (B : RunB) (E : List Nat) (l : List Rw3) (W : World) : Prop :=
  W.heap[B.c3]? = some (.cells #[.slice (some ⟨B.eb, 0, none⟩) B.m B.ec] 22 (0, 0)) ∧ W.heap[B.c4]? = some (.cells #[.slice (some ⟨B.vb, 0, none⟩) B.m B.m] 53 (0, 0)) ∧ W.heap[B.c5]? = some (.cells #[.slice (some ⟨B.lb, 0, none⟩) B.m B.m] 198 (0, 0)) ∧
    (∀ (i : Nat) (x : Nat), E[i]? = some x → W.cell? ⟨B.eb, i, none⟩ = some (.int .i32 (x : Nat))) ∧ ∃ (P : Nat → Prop) (V : Nat → Int), LftW B.lb B.m P W ∧ ValW B.vb B.m V W ∧ ToldW E l P V
theorem ValW.keep {b n : Nat} {V : Nat → Int} {X : Nat → Prop} {A B : World} (h : ValW b n V A) (hk : Keep X A B) (hX : ¬ X b) : ValW b n V B := fun i hi =>
  ⟨hk.cell (h i hi).1 hX, (hk.frozen (lt_of_cell (h i hi).1) hX).trans (h i hi).2⟩
theorem RunI.keep {B : RunB} {E : List Nat} {l : List Rw3} {X : Nat → Prop} {W W' : World} (h : RunI B E l W) (hk : Keep X W W') (hX : ∀ b, b = B.c3 ∨ b = B.c4 ∨ b = B.c5 ∨ b = B.eb ∨ b = B.vb ∨ b = B.lb → ¬ X b) : RunI B E l W' := by
  obtain ⟨h1, h2, h3, h4, P, V, h5, h6, h7⟩ := h
  exact ⟨hk.heap h1 (hX _ (by simp)), hk.heap h2 (hX _ (by simp)), hk.heap h3 (hX _ (by simp)), fun i x hx => hk.cell (h4 i x hx) (hX _ (by simp)), P, V, h5.keep hk (hX _ (by simp)), h6.keep hk (hX _ (by simp)), h7⟩
theorem ToldW.nil (E : List Nat) : ToldW E [] (fun _ => True) (fun _ => 0) := fun _ _ _ => ⟨⟨fun _ => rfl, fun _ => trivial⟩, rfl⟩

set_option maxRecDepth 100000 in
set_option maxHeartbeats 4000000 in
theorem prunsOf (rows : List Rw3) (sv : Value) (w : World) (hS : RowsV sv rows w) (hne : rows ≠ []) (hn : rows.length ≤ 1000000) (hr : ∀ r ∈ rows, r.1 ≤ r.2.1 ∧ r.2.1 ≤ 1114111) :
    Calls Tryz.prog 105 #[sv] w fun e w' => ∃ v L, e = .returned v ∧ RunV w' v L ∧ L.Pairwise (fun a b => a.1 < b.1) ∧ L.length ≤ 1114113 ∧ (∀ r : Nat, runVal L r = (lastV rows r).getD 0) ∧ RowKit.Below w.heap.size w w' := by
  obtain ⟨h, hh⟩ : ∃ h, w.heap.size = h := ⟨_, rfl⟩
  have CE := Lib.hid (pedgesOf rows sv w hS hne hn (fun r h => by have := hr r h; omega))
  have HS := Lib.hid hS
  have HR := Lib.hid (And.intro hne (And.intro hn hr))
  have hfn : ∀ k, Fence.wide.fn k := fun _ => trivial
  have hdep : Fence.wide.depth = none := rfl
  obtain ⟨g, cp, rfl, hcp, hcr⟩ := hS
  obtain ⟨n, hnn⟩ : ∃ n, rows.length = n := ⟨_, rfl⟩
  rw [hnn] at CE HS ⊢
  rw [hh] at CE ⊢
  clear hne hn hr hcp hcr
  refine (callsIn_wide (n := 0)).1 ?_
  refine callsIn_of_wp_marks Tryz.func105 rfl trivial ?_ rfl
  simp only [Tryz.ntmps105, List.size_toArray, List.length_cons, List.length_nil, Nat.reduceAdd, Nat.reduceSub, Array.replicate_succ, Array.replicate_zero, List.push_toArray, List.append_toArray, List.nil_append, List.cons_append]
  gi_wp2_with fail
  refine (callsIn_wide.2 CE.out).mono ?_
  rintro e w1 ⟨E, v, rfl, hE, hEp, hEm, hb1⟩
  obtain ⟨eb, ec, hv⟩ : ∃ eb ec, v = .slice (some ⟨eb, 0, none⟩) E.length ec := by
    rcases hE with ⟨h1, _⟩ | ⟨eb, ec, h1, _⟩
    · exfalso
      obtain ⟨r, hr⟩ := List.exists_mem_of_ne_nil _ HR.out.1
      have : r.1 ∈ E := (hEm r.1).2 (List.mem_flatMap.2 ⟨r, hr, by simp⟩)
      rw [h1] at this
      cases this
    · exact ⟨eb, ec, h1⟩
  subst hv
  obtain ⟨m, hm⟩ : ∃ m, E.length = m := ⟨_, rfl⟩
  rw [hm] at hE ⊢
  have HE := Lib.hid (And.intro hE (And.intro hEp (And.intro hEm (And.intro hb1 hm))))
  clear hE hEp hEm hb1 hm
  have hml : 1 ≤ m ∧ m ≤ 4000000 := by
    refine ⟨?_, ?_⟩
    · obtain ⟨r, hr⟩ := List.exists_mem_of_ne_nil _ HR.out.1
      have h1 : r.1 ∈ E := (HE.out.2.2.1 r.1).2 (List.mem_flatMap.2 ⟨r, hr, by simp⟩)
      rw [← HE.out.2.2.2.2]
      exact List.length_pos_of_mem h1
    · rw [← HE.out.2.2.2.2]
      have h1 : E.length ≤ 1114113 := nodup_le 1114113 E (HE.out.2.1.imp (fun h => Nat.ne_of_lt h)) (fun x hx => by
        obtain ⟨r, hr, hx2⟩ := List.mem_flatMap.1 ((HE.out.2.2.1 x).1 hx)
        have := HR.out.2.2 r hr
        simp at hx2
        omega)
      omega
  obtain ⟨W1, hW1⟩ : ∃ W1, w1.alloc (.cells #[.slice (some ⟨eb, 0, none⟩) m ec] 22) = W1 := ⟨_, rfl⟩
  obtain ⟨W2, hms, hrow, hgr⟩ := run_makeSlice_full (P := Tryz.prog) (w := W1) 0 53 3 _ (.int .i64 0) 1 Tryz.underlying53 rfl rfl rfl .i64 .i64 m (by omega) (by show 8 * m ≤ _; omega) (by unfold maxLen; omega) (Nat.zero_le _)
  obtain ⟨W3, hW3⟩ : ∃ W3, W2.alloc (.cells #[.slice (some ⟨W1.heap.size, 0, none⟩) m m] 53) = W3 := ⟨_, rfl⟩
  have CA := Lib.hid (pallOf m W3 (by omega) (by omega))
  have k1h : W1.heap[w1.heap.size]? = some (.cells #[.slice (some ⟨eb, 0, none⟩) m ec] 22 (0, 0)) := by rw [← hW1]; exact heap_alloc_new _ _
  have hz1 : W1.heap.size = w1.heap.size + 1 := by rw [← hW1]; exact Array.size_push _
  have k3h : W3.heap[w1.heap.size]? = some (.cells #[.slice (some ⟨eb, 0, none⟩) m ec] 22 (0, 0)) := by
    rw [← hW3]
    exact alloc_old_h ((hgr.block _ (by omega) (by simp)).trans k1h)
  have k1 : W1.cell? ⟨w1.heap.size, 0, none⟩ = some (.slice (some ⟨eb, 0, none⟩) m ec) := by rw [Lib.cell_of_heap k1h]; rfl
  have k3 : W3.cell? ⟨w1.heap.size, 0, none⟩ = some (.slice (some ⟨eb, 0, none⟩) m ec) := by rw [Lib.cell_of_heap k3h]; rfl
  have HV := Lib.hid (And.intro hrow (And.intro hgr (And.intro k1h (And.intro k3h hz1))))
  clear hrow hgr k1h k3h hz1
  gi_wp2_with fail
  refine (callsIn_wide.2 CA.out).mono ?_
  rintro e w4 ⟨rfl, hL, hb4, hl4⟩
  obtain ⟨W5, hW5⟩ : ∃ W5, w4.alloc (.cells #[.slice (some ⟨W3.heap.size, 0, none⟩) m m] 198) = W5 := ⟨_, rfl⟩
  have CB := Lib.hid (pback_call g n cp W5)
  have HA := Lib.hid (And.intro hL (And.intro hb4 hl4))
  clear hL hb4 hl4
  gi_wp2_with fail
  refine (callsIn_wide.2 CB.out).mono ?_
  rintro e w6 ⟨rfl, hw6⟩
  have hz6 : w6.heap.size = W5.heap.size + 1 := by rw [← hw6]; exact Array.size_push _
  have hz5 : W5.heap.size = w4.heap.size + 1 := by rw [← hW5]; exact Array.size_push _
  have hz3 : W3.heap.size = W2.heap.size + 1 := by rw [← hW3]; exact Array.size_push _
  have hb56 : RowKit.Below W5.heap.size W5 w6 := by rw [← hw6]; exact (RowKit.Below.refl _ _).alloc (Nat.le_refl _) _
  have hb45 : RowKit.Below w4.heap.size w4 W5 := by rw [← hW5]; exact (RowKit.Below.refl _ _).alloc (Nat.le_refl _) _
  have hb23 : RowKit.Below W2.heap.size W2 W3 := by rw [← hW3]; exact (RowKit.Below.refl _ _).alloc (Nat.le_refl _) _
  have hb11 : RowKit.Below w1.heap.size w1 W1 := by rw [← hW1]; exact (RowKit.Below.refl _ _).alloc (Nat.le_refl _) _
  obtain ⟨hrow, hgr, k1h, k3h, hz1⟩ := HV.out
  have hg2 : RowKit.Below W1.heap.size W1 W2 := ⟨hgr.os, hgr.tape, hgr.output, hgr.size, fun x hx => hgr.block x hx (by simp)⟩
  have hs2 := (hrow.lt W1.heap.size rfl).2
  have hs4 := HA.out.2.2
  have hs1 := hg2.size
  have b46 : RowKit.Below w4.heap.size w4 w6 := hb45.trans (hb56.mono (by omega))
  have b36 : RowKit.Below W3.heap.size W3 w6 := HA.out.2.1.trans (b46.mono (by omega))
  have b26 : RowKit.Below W2.heap.size W2 w6 := hb23.trans (b36.mono (by omega))
  have b16 : RowKit.Below w1.heap.size w1 w6 := hb11.trans ((hg2.trans (b26.mono (by omega))).mono (by omega))
  have bw6 : RowKit.Below h w w6 := HE.out.2.2.2.1.trans (b16.mono (by have := HE.out.2.2.2.1.size; omega))
  have hEb : eb < w1.heap.size ∧ ∀ (i : Nat) (x : Nat), E[i]? = some x → w1.cell? ⟨eb, i, none⟩ = some (.int .i32 (x : Nat)) := by
    rcases HE.out.1 with ⟨_, h2⟩ | ⟨eb', ec', h1, _, _, h3, h4⟩
    · cases h2
    · cases h1; exact ⟨h3, h4⟩
  have hI0 : RunI ⟨w1.heap.size, W2.heap.size, w4.heap.size, eb, ec, W1.heap.size, W3.heap.size, m⟩ E [] w6 := by
    refine ⟨(b36.block w1.heap.size (by omega)).trans k3h, (b36.block W2.heap.size (by omega)).trans (by rw [← hW3]; exact heap_alloc_new _ _), (hb56.block w4.heap.size (by omega)).trans (by rw [← hW5]; exact heap_alloc_new _ _), fun i x hx => (b16.cell (lt_of_cell (hEb.2 i x hx))).trans (hEb.2 i x hx), _, _, LftW.keep HA.out.1 (Keep.of_all (b46)) (fun h => h) (X := fun _ => False), ?_, ToldW.nil E⟩
    have ho : OwnS (fun _ => True) 3 1 (.slice (some ⟨W1.heap.size, 0, none⟩) m m) m _ W2 := ⟨hrow, fun _ _ => trivial⟩
    intro j hj
    have hj : j < m := hj
    have c := ho.at0 (i := j) (u := .int .i64 0) (by
      have e : (Value.int .i64 0).cells = #[.int .i64 0] := rfl
      rw [e, Nat.mul_one]
      simp [madeCells, Nat.mod_one, hj])
    exact ⟨(b26.cell (lt_of_cell c)).trans c, (b26.frozen (lt_of_cell c)).trans (ho.frozen j)⟩
  have HI0 := Lib.hid hI0
  have HSZ := Lib.hid (And.intro bw6 (And.intro b16 hEb.1))
  have hc6 : w6.cell? ⟨W5.heap.size, 0, none⟩ = some (.slice (some ⟨g, 0, none⟩) n cp) := by rw [← hw6, Lib.cell_of_heap (heap_alloc_new _ _)]; rfl
  have hrw : RowsV (.slice (some ⟨g, 0, none⟩) n cp) rows w6 := HS.out.below (by rw [hh]; exact bw6)
  have hgc : ∀ (i : Nat) (r : Rw3), rows[i]? = some r → w6.cell? ⟨g, i * 3, none⟩ = some (.int .i32 r.1) ∧ w6.cell? ⟨g, i * 3 + 1, none⟩ = some (.int .i32 r.2.1) ∧ w6.cell? ⟨g, i * 3 + 2, none⟩ = some (.int .i64 r.2.2) := by
    obtain ⟨g', cp', h1, h2, h3⟩ := hrw
    cases h1
    exact h3
  have hgl : g < h := by
    obtain ⟨g', cp', h1, h2, h3⟩ := HS.out
    cases h1
    obtain ⟨r, hr⟩ : ∃ r, rows[0]? = some r := ⟨_, List.getElem?_eq_getElem (List.length_pos_iff.2 HR.out.1)⟩
    have h9 : g < w.heap.size := lt_of_cell (h3 0 r hr).1
    omega
  have hit := pback_iter rows n g cp W5.heap.size w6 hnn hc6 (by have := HR.out.2.1; omega) hgc
  rw [hz5] at hit
  have HIT := Lib.hid hit
  have HNN := Lib.hid hnn
  have hh1 := HE.out.2.2.2.1.size
  clear hit hgc hrw hc6 hI0 b46 b36 b26 b16 bw6 hb56 hb45 hb23 hb11 hg2 hrow hgr k1h k3h k1 k3 hnn hEb hms
  obtain ⟨B, hB⟩ : ∃ B : RunB, B = ⟨w1.heap.size, W2.heap.size, w4.heap.size, eb, ec, W1.heap.size, W3.heap.size, m⟩ := ⟨_, rfl⟩
  have HBB : Hid (B.c3 < w6.heap.size ∧ B.c4 < w6.heap.size ∧ B.c5 < w6.heap.size ∧ B.eb < w6.heap.size ∧ B.vb < w6.heap.size ∧ B.lb < w6.heap.size) := Lib.hid (by
    have := HSZ.out.2.2
    rw [hB]
    refine ⟨?_, ?_, ?_, ?_, ?_, ?_⟩ <;> simp only <;> omega)
  rw [← hB] at HI0
  have HBQ := Lib.hid hB
  have HVL : Hid (W1.heap.size < W3.heap.size) := Lib.hid (by omega)
  have HDS : Hid (B.eb ≠ B.vb ∧ B.eb ≠ B.lb ∧ B.c3 ≠ B.vb ∧ B.c3 ≠ B.lb ∧ B.c4 ≠ B.vb ∧ B.c4 ≠ B.lb ∧ B.c5 ≠ B.vb ∧ B.c5 ≠ B.lb) := Lib.hid (by
    have := HSZ.out.2.2
    rw [hB]
    refine ⟨?_, ?_, ?_, ?_, ?_, ?_, ?_, ?_⟩ <;> simp only <;> omega)
  clear hB
  gi_wp2_with fail
  refine loop_out2 (gf := 174) (lb := #[.pointer (some ⟨w4.heap.size + 1, 0, none⟩)]) (encs := encB) rfl enters_back
    HIT.out (fun _ => rfl) (X := fun b => b = B.vb ∨ b = B.lb)
    (fun b hb => by have := HBB.out; rcases hb with rfl | rfl; exact this.2.2.2.2.1; exact this.2.2.2.2.2) (fun b hb => ?nd) (fun _ _ => rfl) (Nat.le_refl _)
    (fun pre Y W => RunI B E (rows.drop (n - pre.length)) W)
    (fun _ _ _ _ => False)
    (fun pre Y W W' hk h' => h'.keep hk (fun b hb hx => by have := HBB.out; have := hx.1; rcases hb with rfl | rfl | rfl | rfl | rfl | rfl <;> omega))
    (fun _ _ _ h => h) (fun _ _ _ _ _ _ h => h) (by
      have : rows.drop (n - 0) = [] := List.drop_eq_nil_of_le (by rw [HNN.out]; omega)
      rw [List.length_nil, this]; exact HI0.out) ?round ?done ?stop
  case nd =>
    rw [HBQ.out]
    simp only
    rcases hb with rfl | rfl <;> constructor <;> omega
  case stop => intro D c pre Y W _ _ _ h; exact h.elim
  case round =>
    rintro l' hl' pre ⟨ix, lo, hi, vv⟩ Y W hpre hI hk hY hlt hr
    simp only [encB]
    have hpr := backL_pre hpre
    have hmem := List.mem_of_getElem? hpr.2.1
    have hrb := HR.out.2.2 _ hmem
    have hlE : lo ∈ E := (HE.out.2.2.1 lo).2 (List.mem_flatMap.2 ⟨_, hmem, by simp⟩)
    have hhE : hi + 1 ∈ E := (HE.out.2.2.1 (hi + 1)).2 (List.mem_flatMap.2 ⟨_, hmem, by simp⟩)
    rw [HNN.out] at hpr
    have HP := Lib.hid (And.intro hpr (And.intro hrb (And.intro hlE hhE)))
    have HY := Lib.hid hY
    have HK := Lib.hid hk
    clear hpre hI hk hY hr hpr hmem hrb hlE hhE
    gi_wp2
    refine ⟨(Keep.refl _ _).alloc _, ?_⟩
    rintro V2 hk1 hk2 hI2 rl hr2
    obtain ⟨xb, hxb⟩ : ∃ xb, W.heap.size = xb := ⟨_, rfl⟩
    have hx1 : V2.heap[xb]? = some (.cells #[.int .i32 (lo : Nat), .int .i32 (hi : Nat), .int .i64 vv] 160 (0, 0)) := by
      rw [← hxb]
      exact hk1.heap (heap_alloc_new _ _) (fun h => by have h : W.heap.size = l' := h; omega)
    have x0 : V2.cell? ⟨xb, 0, none⟩ = some (.int .i32 (lo : Nat)) := by rw [Lib.cell_of_heap hx1]; rfl
    have x1 : V2.cell? ⟨xb, 1, none⟩ = some (.int .i32 (hi : Nat)) := by rw [Lib.cell_of_heap hx1]; rfl
    have x2 : V2.cell? ⟨xb, 2, none⟩ = some (.int .i64 vv) := by rw [Lib.cell_of_heap hx1]; rfl
    have y3 : V2.cell? ⟨B.c3, 0, none⟩ = some (.slice (some ⟨B.eb, 0, none⟩) B.m B.ec) := by rw [Lib.cell_of_heap hI2.1]; rfl
    have hmB : B.m = m := by rw [HBQ.out]
    have hcE : ∀ t, t < m → V2.cell? ⟨B.eb, 0 + t, none⟩ = some (.int .i32 ((E.getD t 0 : Nat) : Int)) := fun t ht => by
      rw [Nat.zero_add]
      refine hI2.2.2.2.1 t _ ?_
      rw [List.getD_eq_getElem?_getD, List.getElem?_eq_getElem (by rw [HE.out.2.2.2.2]; exact ht)]
      rfl
    have hsE : ∀ i j, i ≤ j → j < m → ((E.getD i 0 : Nat) : Int) ≤ ((E.getD j 0 : Nat) : Int) := fun i j hij hj => by
      have hjl : j < E.length := by rw [HE.out.2.2.2.2]; exact hj
      rw [List.getD_eq_getElem?_getD, List.getD_eq_getElem?_getD, List.getElem?_eq_getElem (show i < E.length by omega), List.getElem?_eq_getElem hjl]
      by_cases e : i = j
      · subst e; exact Int.le_refl _
      · have := (List.pairwise_iff_getElem.1 HE.out.2.1) i j (by omega) hjl (by omega)
        simp only [Option.getD_some]
        omega
    have CSR := Lib.hid (oSearch (cap := B.ec) B.eb 0 m (fun t => ((E.getD t 0 : Nat) : Int)) (lo : Int) V2 hcE hsE (by omega))
    rw [← hmB] at CSR
    have HI2 := Lib.hid hI2
    have HX1 := Lib.hid (And.intro hx1 (And.intro hk1 hk2))
    have HXB : Hid (xb ≠ B.vb ∧ xb ≠ B.lb) := Lib.hid (by
      have h1 := HK.out.size
      have h2 := HBB.out
      constructor <;> omega)
    have e3 : w1.heap.size = B.c3 := by rw [HBQ.out]
    have e4 : W2.heap.size = B.c4 := by rw [HBQ.out]
    have e5 : w4.heap.size = B.c5 := by rw [HBQ.out]
    rw [hxb, e3, e4, e5]
    have HEQ := Lib.hid (And.intro hxb hmB)
    clear hcE hsE hx1 hI2 hk1 hk2 hr2 hxb hmB e3 e4 e5 hW1 hW3 hW5 hz6 hz5 hz3 hz1 hs2 hs4 hs1 hw6 hh hh1 hgl hl' hlt
    obtain ⟨first, hfe⟩ := List.getElem?_of_mem HP.out.2.2.1
    have hfm : first < m := by have := (List.getElem?_eq_some_iff.1 hfe).1; rw [HE.out.2.2.2.2] at this; exact this
    have HFE := Lib.hid hfe
    clear hfe
    gi_wp2_with fail
    refine (CallsIn.inRound l' (callsIn_wide.2 CSR.out)).mono ?_
    rintro e V3 ⟨p, fv, rfl, hp1, hp2, hp3, hb3⟩
    have hpf : p = first := by
      have hG : E.getD first 0 = lo := by rw [List.getD_eq_getElem?_getD, HFE.out]; rfl
      have hmB := HEQ.out.2
      rw [hmB] at hp1 hp3
      rcases Nat.lt_trichotomy p first with h1 | h1 | h1
      · exfalso
        have h2 := hp3 p (Nat.le_refl _) (by omega)
        have hpl : p < E.length := by rw [HE.out.2.2.2.2]; omega
        have hfl : first < E.length := by rw [HE.out.2.2.2.2]; omega
        have h3 := (List.pairwise_iff_getElem.1 HE.out.2.1) p first hpl hfl h1
        rw [List.getD_eq_getElem?_getD, List.getElem?_eq_getElem hpl, Option.getD_some] at h2
        have h4 := (List.getElem?_eq_some_iff.1 HFE.out).2
        omega
      · exact h1
      · exfalso
        have h2 := hp2 first h1
        rw [hG] at h2
        omega
    subst hpf
    have hI3 : RunI B E (rows.drop (n - pre.length)) V3 := HI2.out.keep (X := fun _ => False) (Keep.of_all hb3) (fun _ _ h => h)
    have hx3 := (hb3.block xb (Array.getElem?_eq_some_iff.1 HX1.out.1).1).trans HX1.out.1
    have x0 : V3.cell? ⟨xb, 0, none⟩ = some (.int .i32 (lo : Nat)) := by rw [Lib.cell_of_heap hx3]; rfl
    have x1 : V3.cell? ⟨xb, 1, none⟩ = some (.int .i32 (hi : Nat)) := by rw [Lib.cell_of_heap hx3]; rfl
    have x2 : V3.cell? ⟨xb, 2, none⟩ = some (.int .i64 vv) := by rw [Lib.cell_of_heap hx3]; rfl
    have y3 : V3.cell? ⟨B.c3, 0, none⟩ = some (.slice (some ⟨B.eb, 0, none⟩) B.m B.ec) := by rw [Lib.cell_of_heap hI3.1]; rfl
    have y5 : V3.cell? ⟨B.c5, 0, none⟩ = some (.slice (some ⟨B.lb, 0, none⟩) B.m B.m) := by rw [Lib.cell_of_heap hI3.2.2.1]; rfl
    obtain ⟨P, V, hL3, hV3, hT3⟩ := hI3.2.2.2.2
    have CF := Lib.hid (pfrom B.lb B.m p B.m P V3 hL3 (by rw [HEQ.out.2]; exact hfm) (by rw [HEQ.out.2]; omega))
    have HI3 := Lib.hid (And.intro hI3 (And.intro hV3 (And.intro hT3 (And.intro hb3 hx3))))
    clear hp1 hp2 hp3 hI3 hV3 hT3 hL3 hb3 hx3
    gi_wp2_with fail
    refine (CallsIn.inRound l' (callsIn_wide.2 CF.out)).mono ?_
    rintro e V4 hO4
    obtain ⟨at0, rfl, hF4, hPa⟩ := hO4
    have HF4 := Lib.hid (And.intro hF4 hPa)
    clear hF4 hPa
    gi_wp2_with fail
    have hvl : B.vb ≠ B.lb := by rw [HBQ.out]; simp only; have := HVL.out; omega
    have hJ0 : RunJ B.vb B.lb B.m E P V hi vv p V3 at0 V4 := by
      obtain ⟨⟨h1, h2, h3, h4, h5⟩, h6⟩ := HF4.out
      refine ⟨h1, h2, ⟨P, V, h4, HI3.out.2.1.keep h5 (fun e => hvl e), h6, fun j hj => ⟨fun hp => ⟨hp, ?_⟩, fun h => h.1⟩, fun j hp hf hja => absurd hp (h3 j hf hja), fun _ _ _ => rfl⟩, fun j e hf hja _ hp => absurd hp (h3 j hf hja), h5.weaken (fun b _ hb => .inr hb)⟩
      by_cases h7 : j < p
      · exact .inl h7
      · refine .inr (Nat.le_of_not_lt fun h8 => h3 j (by omega) h8 hp)
    have HJ0 := Lib.hid hJ0
    have HVB := Lib.hid hvl
    clear hJ0 x0 x1 x2 y3 y5 hvl
    gi_loopw [10] (fun x wr => ∃ at_ : Nat, x = .int .i64 at_ ∧ RunJ B.vb B.lb B.m E P V hi vv p V3 at_ wr) (fun x _ => B.m - (RowKit.intOf x).toNat)
    case atStart => exact ⟨at0, rfl, HJ0.out⟩
    case round =>
      obtain ⟨k, rfl, hJ⟩ := hrel
      obtain ⟨hj1, hj2, ⟨Pc, Vc, hLc, hVc, hPk, hPc, hVa, hVb⟩, hE5, hK5⟩ := hJ
      have hI3 := HI3.out.1
      have hnX : ∀ b, b ≠ B.vb → b ≠ B.lb → ¬ (b = B.vb ∨ b = B.lb) := fun b h1 h2 h => by rcases h with h | h; exact h1 h; exact h2 h
      have z3 : wr.cell? ⟨B.c3, 0, none⟩ = some (.slice (some ⟨B.eb, 0, none⟩) B.m B.ec) := hK5.cell (by rw [Lib.cell_of_heap hI3.1]; rfl) (hnX _ HDS.out.2.2.1 HDS.out.2.2.2.1)
      have z4 : wr.cell? ⟨B.c4, 0, none⟩ = some (.slice (some ⟨B.vb, 0, none⟩) B.m B.m) := hK5.cell (by rw [Lib.cell_of_heap hI3.2.1]; rfl) (hnX _ HDS.out.2.2.2.2.1 HDS.out.2.2.2.2.2.1)
      have z5 : wr.cell? ⟨B.c5, 0, none⟩ = some (.slice (some ⟨B.lb, 0, none⟩) B.m B.m) := hK5.cell (by rw [Lib.cell_of_heap hI3.2.2.1]; rfl) (hnX _ HDS.out.2.2.2.2.2.2.1 HDS.out.2.2.2.2.2.2.2)
      have zx1 : wr.cell? ⟨xb, 1, none⟩ = some (.int .i32 (hi : Nat)) := hK5.cell (by rw [Lib.cell_of_heap HI3.out.2.2.2.2]; rfl) (hnX _ HXB.out.1 HXB.out.2)
      have zx2 : wr.cell? ⟨xb, 2, none⟩ = some (.int .i64 vv) := hK5.cell (by rw [Lib.cell_of_heap HI3.out.2.2.2.2]; rfl) (hnX _ HXB.out.1 HXB.out.2)
      have hkE : k < E.length := by rw [HE.out.2.2.2.2, ← HEQ.out.2]; exact hj2
      obtain ⟨ek, hek⟩ : ∃ ek, E[k]? = some ek := ⟨_, List.getElem?_eq_getElem hkE⟩
      have ze : wr.cell? ⟨B.eb, k, none⟩ = some (.int .i32 (ek : Nat)) := hK5.cell (hI3.2.2.2.1 k ek hek) (hnX _ HDS.out.1 HDS.out.2.1)
      have zb1 : (k : Int) < (B.m : Int) := by omega
      have HJJ := Lib.hid (And.intro hj1 (And.intro hj2 (And.intro hLc (And.intro hVc (And.intro hPk (And.intro hPc (And.intro hVa (And.intro hVb (And.intro hE5 (And.intro hK5 hek))))))))))
      have zv := (hVc k hj2).1
      have zf := (hVc k hj2).2
      clear hj1 hLc hPk hPc hVa hVb hE5 hI3 hnX hkE
      by_cases hle : ek ≤ hi
      · have hle' : (ek : Int) ≤ (hi : Int) := by omega
        have hkm : k + 1 < B.m := by
          obtain ⟨t, ht⟩ := List.getElem?_of_mem HP.out.2.2.2
          have htl := (List.getElem?_eq_some_iff.1 ht).1
          have hkE : k < E.length := (List.getElem?_eq_some_iff.1 hek).1
          rw [HEQ.out.2, ← HE.out.2.2.2.2]
          refine Nat.lt_of_le_of_lt (Nat.lt_of_not_le fun h => ?_) htl
          by_cases e : t = k
          · subst e; rw [hek] at ht; injection ht with ht; omega
          · have h9 := (List.pairwise_iff_getElem.1 HE.out.2.1) t k htl hkE (by omega)
            rw [(List.getElem?_eq_some_iff.1 ht).2, (List.getElem?_eq_some_iff.1 hek).2] at h9
            omega
        obtain ⟨U1, hU1⟩ : ∃ U1, (wr.drew).setCell ⟨B.vb, k, none⟩ (.int .i64 vv) = U1 := ⟨_, rfl⟩
        have kU1 : Keep (fun b => b = B.vb) wr U1 := by
          rw [← hU1]
          exact Keep.setCell (X := fun b => b = B.vb) ((Keep.refl _ wr).drew) (p := ⟨B.vb, k, none⟩) rfl _
        have hVU1 : ValW B.vb B.m (fun j => if j = k then vv else Vc j) U1 := by
          rw [← hU1]
          exact ValW.set (show ValW B.vb B.m Vc wr.drew from hVc) hj2 vv
        have u5 : U1.cell? ⟨B.c5, 0, none⟩ = some (.slice (some ⟨B.lb, 0, none⟩) B.m B.m) := kU1.cell z5 HDS.out.2.2.2.2.2.2.1
        have CD := Lib.hid (pdrop B.lb B.m k B.m Pc U1 (HJJ.out.2.2.1.keep kU1 (fun e => HVB.out e.symm)) hkm (by rw [HEQ.out.2]; omega))
        have HU1 := Lib.hid (And.intro kU1 hVU1)
        have hw1 : wr.drew.cell? ⟨B.vb, k, none⟩ = some (.int .i64 (Vc k)) := zv
        clear hle hek hVc hK5 kU1 hVU1
        gi_wp2_with fail
        have r3 : ∀ X : World, X = wr.drew → (Instr.loadAt 22 (.pointer (some ⟨B.c3, 0, none⟩))).run Tryz.prog X = .ok (.slice (some ⟨B.eb, 0, none⟩) B.m B.ec) X := fun X h => by
          subst h
          have c1 : wr.drew.cell? ⟨B.c3, 0, none⟩ = some (.slice (some ⟨B.eb, 0, none⟩) B.m B.ec) := z3
          go_simp
        have re : ∀ X : World, X = wr.drew → (Instr.loadAt 21 (.pointer (some ⟨B.eb, k, none⟩))).run Tryz.prog X = .ok (.int .i32 (ek : Nat)) X := fun X h => by
          subst h
          have c1 : wr.drew.cell? ⟨B.eb, k, none⟩ = some (.int .i32 (ek : Nat)) := ze
          go_simp
        have rh : ∀ X : World, X = wr.drew → (Instr.loadAt 21 (.pointer (some ⟨xb, 1, none⟩))).run Tryz.prog X = .ok (.int .i32 (hi : Nat)) X := fun X h => by
          subst h
          have c1 : wr.drew.cell? ⟨xb, 1, none⟩ = some (.int .i32 (hi : Nat)) := zx1
          go_simp
        have rix : ∀ X : World, (Instr.indexAt 22 (.slice (some ⟨B.eb, 0, none⟩) B.m B.ec) (.int .i64 (k : Nat))).run Tryz.prog X = .ok (.pointer (some ⟨B.eb, k, none⟩)) X := fun X => by go_simp
        have rf0 : ∀ X : World, (Instr.fieldAt 160 (.pointer (some ⟨xb, 0, none⟩)) 0).run Tryz.prog X = .ok (.pointer (some ⟨xb, 0, none⟩)) X := fun X => by go_simp
        have rf1 : ∀ X : World, (Instr.fieldAt 158 (.pointer (some ⟨xb, 0, none⟩)) 1).run Tryz.prog X = .ok (.pointer (some ⟨xb, 1, none⟩)) X := fun X => by go_simp
        have rb : ∀ X : World, (do eqGuard .leq 21 (.tmp 41) (.tmp 44) (.int .i32 (ek : Nat)) (.int .i32 (hi : Nat)); binOp .leq 21 (.int .i32 (ek : Nat)) (.int .i32 (hi : Nat)) : Sem Value).run Tryz.prog X = .ok (.bool true) X := fun X => by
          go_simp
        refine wpIn_region_done (RoS (wr.drew)) (RoP (fun z => match z with | 0 => some (.slice (some ⟨B.eb, 0, none⟩) B.m B.ec) | 1 => some (.int .i64 (k : Nat)) | 2 => some (.pointer (some ⟨B.eb, k, none⟩)) | 3 => some (.int .i32 (ek : Nat)) | 4 => some (.pointer (some ⟨xb, 0, none⟩)) | 5 => some (.pointer (some ⟨xb, 1, none⟩)) | 6 => some (.int .i32 (hi : Nat)) | 7 => some (.bool true) | _ => none)) (by kernel_rfl) (by kernel_rfl) (by kernel_rfl) rfl ?hs ?hd
        case hs =>
          refine DInSteps.cons ?_ (DInSteps.cons ?_ (DInSteps.cons ?_ (DInSteps.cons ?_ (DInSteps.cons ?_ (DInSteps.cons ?_ (DInSteps.cons ?_ (DInSteps.cons ?_ (DInSteps.nil))))))))
          · intro D2 a X9 hDi hDa _ hX hL hd
            refine ⟨rfl, ?_⟩
            have e0 : a.eval (.tmp 3) = .pointer (some ⟨B.c3, 0, none⟩) := hL.far 3 (by kernel_rfl)
            exact wpIn_value (fun _ => ⟨fun h => (by cases h), fun h => (by cases h)⟩) (exec_load rfl e0 (r3 X9 hX)) ⟨_, rfl, hX, fun _ _ _ h => h, RoP.mk rfl⟩
          · intro D2 a X9 hDi hDa _ hX hL hd
            refine ⟨rfl, ?_⟩
            have e0 : a.eval (.tmp 10) = .int .i64 (k : Nat) := hL.far 10 (by kernel_rfl)
            exact wpIn_value (fun _ => ⟨fun h => (by cases h), fun h => (by cases h)⟩) (exec_move rfl e0) ⟨_, rfl, hX, fun _ _ _ h => h, RoP.mk rfl⟩
          · intro D2 a X9 hDi hDa _ hX hL hd
            refine ⟨rfl, ?_⟩
            have e0 : a.eval (.tmp 38) = .slice (some ⟨B.eb, 0, none⟩) B.m B.ec := hd 0 38 (by kernel_rfl) (by kernel_rfl) _ rfl
            have e1 : a.eval (.tmp 39) = .int .i64 (k : Nat) := hd 1 39 (by kernel_rfl) (by kernel_rfl) _ rfl
            exact wpIn_value (fun _ => ⟨fun h => (by cases h), fun h => (by cases h)⟩) (exec_indexAddr rfl e0 e1 (rix X9)) ⟨_, rfl, hX, fun _ _ _ h => h, RoP.mk rfl⟩
          · intro D2 a X9 hDi hDa _ hX hL hd
            refine ⟨rfl, ?_⟩
            have e0 : a.eval (.tmp 40) = .pointer (some ⟨B.eb, k, none⟩) := hd 2 40 (by kernel_rfl) (by kernel_rfl) _ rfl
            exact wpIn_value (fun _ => ⟨fun h => (by cases h), fun h => (by cases h)⟩) (exec_load rfl e0 (re X9 hX)) ⟨_, rfl, hX, fun _ _ _ h => h, RoP.mk rfl⟩
          · intro D2 a X9 hDi hDa _ hX hL hd
            refine ⟨rfl, ?_⟩
            have e0 : a.eval (.tmp 7) = .pointer (some ⟨xb, 0, none⟩) := hL.far 7 (by kernel_rfl)
            exact wpIn_value (fun _ => ⟨fun h => (by cases h), fun h => (by cases h)⟩) (exec_fieldAddr rfl e0 (rf0 X9)) ⟨_, rfl, hX, fun _ _ _ h => h, RoP.mk rfl⟩
          · intro D2 a X9 hDi hDa _ hX hL hd
            refine ⟨rfl, ?_⟩
            have e0 : a.eval (.tmp 42) = .pointer (some ⟨xb, 0, none⟩) := hd 4 42 (by kernel_rfl) (by kernel_rfl) _ rfl
            exact wpIn_value (fun _ => ⟨fun h => (by cases h), fun h => (by cases h)⟩) (exec_fieldAddr rfl e0 (rf1 X9)) ⟨_, rfl, hX, fun _ _ _ h => h, RoP.mk rfl⟩
          · intro D2 a X9 hDi hDa _ hX hL hd
            refine ⟨rfl, ?_⟩
            have e0 : a.eval (.tmp 43) = .pointer (some ⟨xb, 1, none⟩) := hd 5 43 (by kernel_rfl) (by kernel_rfl) _ rfl
            exact wpIn_value (fun _ => ⟨fun h => (by cases h), fun h => (by cases h)⟩) (exec_load rfl e0 (rh X9 hX)) ⟨_, rfl, hX, fun _ _ _ h => h, RoP.mk rfl⟩
          · intro D2 a X9 hDi hDa _ hX hL hd
            refine ⟨rfl, ?_⟩
            have e0 : a.eval (.tmp 41) = .int .i32 (ek : Nat) := hd 3 41 (by kernel_rfl) (by kernel_rfl) _ rfl
            have e1 : a.eval (.tmp 44) = .int .i32 (hi : Nat) := hd 6 44 (by kernel_rfl) (by kernel_rfl) _ rfl
            exact wpIn_value (fun _ => ⟨fun h => (by cases h), fun h => (by cases h)⟩) (exec_binop rfl e0 e1 (rb X9)) ⟨_, rfl, hX, fun _ _ _ h => h, RoP.mk rfl⟩
        case hd =>
          intro D2 a X9 hAll hX hL hP hE
          have hw1 := hP 7 45 (by kernel_rfl) _ rfl
          obtain ⟨f, ha, hf⟩ := hL.out [38, 39, 40, 41, 42, 43, 44, 45] (by kernel_rfl)
          have hw2 : f 45 = .bool true := (hf 45).trans hw1
          simp only [List.foldl_cons, List.foldl_nil, List.setIfInBounds_toArray, List.set_cons_zero, List.set_cons_succ, hw2] at ha
          clear hf hAll hP hL hE hw1 hw2 r3 re rh rix rf0 rf1 rb
          subst ha
          have hX : X9 = wr.drew := hX
          subst hX
          gi_wp2_with fail
          refine (CallsIn.inRound l' (callsIn_wide.2 CD.out)).mono ?_
          rintro e U2 ⟨rfl, hL2, hk2⟩
          have u5' : U2.cell? ⟨B.c5, 0, none⟩ = some (.slice (some ⟨B.lb, 0, none⟩) B.m B.m) := hk2.cell u5 HDS.out.2.2.2.2.2.2.2
          have CF2 := Lib.hid (pfrom B.lb B.m k B.m (fun j => Pc j ∧ j ≠ k) U2 hL2 hj2 (by rw [HEQ.out.2]; omega))
          have HU2 := Lib.hid (And.intro hL2 hk2)
          clear hL2 hk2 u5 hU1
          gi_wp2_with fail
          refine (CallsIn.inRound l' (callsIn_wide.2 CF2.out)).mono ?_
          rintro e U3 hO
          obtain ⟨at2, rfl, hF2, hP2⟩ := hO
          have HU3 := Lib.hid (And.intro hF2 hP2)
          clear hF2 hP2
          gi_wp2_with fail
          go_roundw
          case rel =>
            refine ⟨at2, rfl, ?_⟩
            obtain ⟨j1, j2, jL, jV, jk, jP, ja, jb, jE, jK, je⟩ := HJJ.out
            obtain ⟨⟨f1, f2, f3, f4, f5⟩, f6, f7⟩ := HU3.out
            obtain ⟨a1, a2⟩ := HU1.out
            have g2 := HU2.out.2
            have hmid : ∀ j, P j → k < j → j < at2 → False := fun j hp h1 h2 => f3 j (by omega) h2 ⟨(jP j (by omega)).2 ⟨hp, .inr (by omega)⟩, by omega⟩
            refine ⟨by omega, f2, ⟨fun j => Pc j ∧ j ≠ k, fun j => if j = k then vv else Vc j, f4, (a2.keep g2 HVB.out).keep f5 HVB.out, ⟨f6, f7⟩, fun j hj => ⟨fun h => ?_, fun h => ?_⟩, fun j hp h1 h2 => ?_, fun j hj hn => ?_⟩, fun j e h1 h2 h3 h4 => ?_, ?_⟩
            · have h5 := (jP j hj).1 h.1
              refine ⟨h5.1, ?_⟩
              rcases h5.2 with h6 | h6
              · exact .inl h6
              · exact .inr (Nat.le_of_not_lt fun h7 => hmid j h5.1 (by have := h.2; omega) h7)
            · refine ⟨(jP j hj).2 ⟨h.1, ?_⟩, ?_⟩
              · rcases h.2 with h6 | h6
                · exact .inl h6
                · exact .inr (by omega)
              · rcases h.2 with h6 | h6 <;> omega
            · by_cases e : j = k
              · simp only [if_pos e]
              · simp only [if_neg e]
                by_cases h8 : j < k
                · exact ja j hp h1 h8
                · exact (hmid j hp (by omega) h2).elim
            · have hpk := ((jP k j2).1 jk).1
              have e : j ≠ k := fun e => hn (by rw [e]; exact ⟨hpk, j1, by omega⟩)
              simp only [if_neg e]
              exact jb j hj (fun h => hn ⟨h.1, h.2.1, by omega⟩)
            · by_cases e2 : j = k
              · subst e2; rw [je] at h3; cases h3; omega
              · by_cases h8 : j < k
                · exact jE j e h1 h8 h3 h4
                · exact (hmid j h4 (by omega) h2).elim
            · exact ((jK.trans (a1.weaken (fun b _ h => .inl h))).trans (g2.weaken (fun b _ h => .inr h))).trans (f5.weaken (fun b _ h => .inr h))
          case measure =>
            obtain ⟨⟨h1, h2, _⟩, h3⟩ := HU3.out
            have h4 : at2 ≠ k := h3.2
            simp [RowKit.intOf]
            omega
      · have hle' : ¬ (ek : Int) ≤ (hi : Int) := by omega
        have HLE := Lib.hid hle
        clear hle hek hVc hK5
        gi_wp2_with fail
        have r3 : ∀ X : World, X = wr.drew → (Instr.loadAt 22 (.pointer (some ⟨B.c3, 0, none⟩))).run Tryz.prog X = .ok (.slice (some ⟨B.eb, 0, none⟩) B.m B.ec) X := fun X h => by
          subst h
          have c1 : wr.drew.cell? ⟨B.c3, 0, none⟩ = some (.slice (some ⟨B.eb, 0, none⟩) B.m B.ec) := z3
          go_simp
        have re : ∀ X : World, X = wr.drew → (Instr.loadAt 21 (.pointer (some ⟨B.eb, k, none⟩))).run Tryz.prog X = .ok (.int .i32 (ek : Nat)) X := fun X h => by
          subst h
          have c1 : wr.drew.cell? ⟨B.eb, k, none⟩ = some (.int .i32 (ek : Nat)) := ze
          go_simp
        have rh : ∀ X : World, X = wr.drew → (Instr.loadAt 21 (.pointer (some ⟨xb, 1, none⟩))).run Tryz.prog X = .ok (.int .i32 (hi : Nat)) X := fun X h => by
          subst h
          have c1 : wr.drew.cell? ⟨xb, 1, none⟩ = some (.int .i32 (hi : Nat)) := zx1
          go_simp
        have rix : ∀ X : World, (Instr.indexAt 22 (.slice (some ⟨B.eb, 0, none⟩) B.m B.ec) (.int .i64 (k : Nat))).run Tryz.prog X = .ok (.pointer (some ⟨B.eb, k, none⟩)) X := fun X => by go_simp
        have rf0 : ∀ X : World, (Instr.fieldAt 160 (.pointer (some ⟨xb, 0, none⟩)) 0).run Tryz.prog X = .ok (.pointer (some ⟨xb, 0, none⟩)) X := fun X => by go_simp
        have rf1 : ∀ X : World, (Instr.fieldAt 158 (.pointer (some ⟨xb, 0, none⟩)) 1).run Tryz.prog X = .ok (.pointer (some ⟨xb, 1, none⟩)) X := fun X => by go_simp
        have rb : ∀ X : World, (do eqGuard .leq 21 (.tmp 41) (.tmp 44) (.int .i32 (ek : Nat)) (.int .i32 (hi : Nat)); binOp .leq 21 (.int .i32 (ek : Nat)) (.int .i32 (hi : Nat)) : Sem Value).run Tryz.prog X = .ok (.bool false) X := fun X => by
          have q : (hi : Int) < (ek : Int) := by omega
          go_simp
          try omega
        refine wpIn_region_done (RoS (wr.drew)) (RoP (fun z => match z with | 0 => some (.slice (some ⟨B.eb, 0, none⟩) B.m B.ec) | 1 => some (.int .i64 (k : Nat)) | 2 => some (.pointer (some ⟨B.eb, k, none⟩)) | 3 => some (.int .i32 (ek : Nat)) | 4 => some (.pointer (some ⟨xb, 0, none⟩)) | 5 => some (.pointer (some ⟨xb, 1, none⟩)) | 6 => some (.int .i32 (hi : Nat)) | 7 => some (.bool false) | _ => none)) (by kernel_rfl) (by kernel_rfl) (by kernel_rfl) rfl ?hs ?hd
        case hs =>
          refine DInSteps.cons ?_ (DInSteps.cons ?_ (DInSteps.cons ?_ (DInSteps.cons ?_ (DInSteps.cons ?_ (DInSteps.cons ?_ (DInSteps.cons ?_ (DInSteps.cons ?_ (DInSteps.nil))))))))
          · intro D2 a X9 hDi hDa _ hX hL hd
            refine ⟨rfl, ?_⟩
            have e0 : a.eval (.tmp 3) = .pointer (some ⟨B.c3, 0, none⟩) := hL.far 3 (by kernel_rfl)
            exact wpIn_value (fun _ => ⟨fun h => (by cases h), fun h => (by cases h)⟩) (exec_load rfl e0 (r3 X9 hX)) ⟨_, rfl, hX, fun _ _ _ h => h, RoP.mk rfl⟩
          · intro D2 a X9 hDi hDa _ hX hL hd
            refine ⟨rfl, ?_⟩
            have e0 : a.eval (.tmp 10) = .int .i64 (k : Nat) := hL.far 10 (by kernel_rfl)
            exact wpIn_value (fun _ => ⟨fun h => (by cases h), fun h => (by cases h)⟩) (exec_move rfl e0) ⟨_, rfl, hX, fun _ _ _ h => h, RoP.mk rfl⟩
          · intro D2 a X9 hDi hDa _ hX hL hd
            refine ⟨rfl, ?_⟩
            have e0 : a.eval (.tmp 38) = .slice (some ⟨B.eb, 0, none⟩) B.m B.ec := hd 0 38 (by kernel_rfl) (by kernel_rfl) _ rfl
            have e1 : a.eval (.tmp 39) = .int .i64 (k : Nat) := hd 1 39 (by kernel_rfl) (by kernel_rfl) _ rfl
            exact wpIn_value (fun _ => ⟨fun h => (by cases h), fun h => (by cases h)⟩) (exec_indexAddr rfl e0 e1 (rix X9)) ⟨_, rfl, hX, fun _ _ _ h => h, RoP.mk rfl⟩
          · intro D2 a X9 hDi hDa _ hX hL hd
            refine ⟨rfl, ?_⟩
            have e0 : a.eval (.tmp 40) = .pointer (some ⟨B.eb, k, none⟩) := hd 2 40 (by kernel_rfl) (by kernel_rfl) _ rfl
            exact wpIn_value (fun _ => ⟨fun h => (by cases h), fun h => (by cases h)⟩) (exec_load rfl e0 (re X9 hX)) ⟨_, rfl, hX, fun _ _ _ h => h, RoP.mk rfl⟩
          · intro D2 a X9 hDi hDa _ hX hL hd
            refine ⟨rfl, ?_⟩
            have e0 : a.eval (.tmp 7) = .pointer (some ⟨xb, 0, none⟩) := hL.far 7 (by kernel_rfl)
            exact wpIn_value (fun _ => ⟨fun h => (by cases h), fun h => (by cases h)⟩) (exec_fieldAddr rfl e0 (rf0 X9)) ⟨_, rfl, hX, fun _ _ _ h => h, RoP.mk rfl⟩
          · intro D2 a X9 hDi hDa _ hX hL hd
            refine ⟨rfl, ?_⟩
            have e0 : a.eval (.tmp 42) = .pointer (some ⟨xb, 0, none⟩) := hd 4 42 (by kernel_rfl) (by kernel_rfl) _ rfl
            exact wpIn_value (fun _ => ⟨fun h => (by cases h), fun h => (by cases h)⟩) (exec_fieldAddr rfl e0 (rf1 X9)) ⟨_, rfl, hX, fun _ _ _ h => h, RoP.mk rfl⟩
          · intro D2 a X9 hDi hDa _ hX hL hd
            refine ⟨rfl, ?_⟩
            have e0 : a.eval (.tmp 43) = .pointer (some ⟨xb, 1, none⟩) := hd 5 43 (by kernel_rfl) (by kernel_rfl) _ rfl
            exact wpIn_value (fun _ => ⟨fun h => (by cases h), fun h => (by cases h)⟩) (exec_load rfl e0 (rh X9 hX)) ⟨_, rfl, hX, fun _ _ _ h => h, RoP.mk rfl⟩
          · intro D2 a X9 hDi hDa _ hX hL hd
            refine ⟨rfl, ?_⟩
            have e0 : a.eval (.tmp 41) = .int .i32 (ek : Nat) := hd 3 41 (by kernel_rfl) (by kernel_rfl) _ rfl
            have e1 : a.eval (.tmp 44) = .int .i32 (hi : Nat) := hd 6 44 (by kernel_rfl) (by kernel_rfl) _ rfl
            exact wpIn_value (fun _ => ⟨fun h => (by cases h), fun h => (by cases h)⟩) (exec_binop rfl e0 e1 (rb X9)) ⟨_, rfl, hX, fun _ _ _ h => h, RoP.mk rfl⟩
        case hd =>
          intro D2 a X9 hAll hX hL hP hE
          have hw1 := hP 7 45 (by kernel_rfl) _ rfl
          obtain ⟨f, ha, hf⟩ := hL.out [38, 39, 40, 41, 42, 43, 44, 45] (by kernel_rfl)
          have hw2 : f 45 = .bool false := (hf 45).trans hw1
          simp only [List.foldl_cons, List.foldl_nil, List.setIfInBounds_toArray, List.set_cons_zero, List.set_cons_succ, hw2] at ha
          clear hf hAll hP hL hE hw1 hw2 r3 re rh rix rf0 rf1 rb
          subst ha
          have hX : X9 = wr.drew := hX
          subst hX
          gi_wp2_with fail
          obtain ⟨j1, j2, jL, jV, jk, jP, ja, jb, jE, jK, je⟩ := HJJ.out
          have hk6 : Keep (fun b => b = B.vb ∨ b = B.lb) V2 wr.drew := ((Keep.of_all HI3.out.2.2.2.1).trans jK).drew
          refine ⟨fun _ => False, hk6.weaken (fun b _ h => .inl h), fun _ h => h.elim, ?_⟩
          have hnX : ∀ b, b ≠ B.vb → b ≠ B.lb → ¬ (b = B.vb ∨ b = B.lb) := fun b h1 h2 h => by rcases h with h | h; exact h1 h; exact h2 h
          have hI2 := HI2.out
          have hdr := HP.out.1.2.2
          show RunI B E (rows.drop (n - (pre ++ [(ix, lo, hi, vv)]).length)) wr.drew
          rw [hdr]
          refine ⟨hk6.heap hI2.1 (hnX _ HDS.out.2.2.1 HDS.out.2.2.2.1), hk6.heap hI2.2.1 (hnX _ HDS.out.2.2.2.2.1 HDS.out.2.2.2.2.2.1), hk6.heap hI2.2.2.1 (hnX _ HDS.out.2.2.2.2.2.2.1 HDS.out.2.2.2.2.2.2.2), fun i x hx => hk6.cell (hI2.2.2.2.1 i x hx) (hnX _ HDS.out.1 HDS.out.2.1), Pc, Vc, jL, jV, ?_⟩
          have hmB := HEQ.out.2
          refine ToldW.cons HI3.out.2.2.1 HE.out.2.1 HFE.out (fun e he => by rw [je] at he; cases he; have := HLE.out; show hi < ek; omega) (by rw [HE.out.2.2.2.2, ← hmB]; exact j2) (fun j e h1 h2 h3 h4 => jE j e h1 h2 h3 h4) (fun j hj => jP j (by rw [hmB, ← HE.out.2.2.2.2]; exact hj)) (fun j hp h1 h2 => ja j hp h1 h2) (fun j hj hn => jb j (by rw [hmB, ← HE.out.2.2.2.2]; exact hj) hn)
  case done =>
    rintro D Y W hD hDd hI hY hkW
    have hl : n - (backL rows).length = 0 := by rw [backL_len, HNN.out]; omega
    rw [hl, List.drop_zero] at hI
    have e3 : w1.heap.size = B.c3 := by rw [HBQ.out]
    have e4 : W2.heap.size = B.c4 := by rw [HBQ.out]
    have e5 : w4.heap.size = B.c5 := by rw [HBQ.out]
    have hmB : B.m = m := by rw [HBQ.out]
    have hge : h ≤ B.vb ∧ h ≤ B.lb := by
      have := HVL.out
      rw [HBQ.out]
      constructor <;> simp only <;> omega
    have hhw : h ≤ w6.heap.size := by have := HSZ.out.1.size; omega
    rw [e3, e4, e5]
    clear e3 e4 e5 hW1 hW3 hW5 hz6 hz5 hz3 hz1 hs2 hs4 hs1 hw6 hh hh1 hgl
    obtain ⟨i3, i4, i5, iE, P, V, iL, iV, iT⟩ := hI
    have hb0 : RowKit.Below h w W := HSZ.out.1.trans (hkW.below hhw (fun b hb => by rcases hb with rfl | rfl; exact hge.1; exact hge.2))
    have y3 : W.cell? ⟨B.c3, 0, none⟩ = some (.slice (some ⟨B.eb, 0, none⟩) B.m B.ec) := by rw [Lib.cell_of_heap i3]; rfl
    have y4 : W.cell? ⟨B.c4, 0, none⟩ = some (.slice (some ⟨B.vb, 0, none⟩) B.m B.m) := by rw [Lib.cell_of_heap i4]; rfl
    have HI := Lib.hid (And.intro iE (And.intro iV (And.intro iT (And.intro hmB (And.intro hb0 (And.intro hD hDd))))))
    clear i3 i4 i5 iE iL iV iT hY hkW hb0 hD hDd hmB
    have hBm : B.m ≤ 4000000 := by rw [HI.out.2.2.2.1]; omega
    gi_wp2_with fail
    gi_loopw [11, 12, 59] (fun lv v x wr => ∃ (k : Nat) (L : List (Nat × Int)) (c : Int), v = .int .i64 c ∧ x = .int .i64 k ∧ k ≤ B.m ∧ RunsAt E V k c L ∧ OwnS (fun b => W.heap.size ≤ b) 178 2 lv L.length (encR2 L) wr ∧ RowKit.Below W.heap.size W wr) (fun _ _ x _ => B.m - (RowKit.intOf x).toNat)
    case atStart => exact ⟨0, [], 0, rfl, rfl, by omega, RunsAt.zero E V, own_nil _ _ _ _, RowKit.Below.refl _ _⟩
    case round =>
      obtain ⟨k, L, c, rfl, rfl, hk, hA, hO, hB⟩ := hrel
      have hkl : L.length ≤ k := hA.1
      have hOl := own_runv hO
      have z3 := (hB.cell (lt_of_cell y3)).trans y3
      have z4 := (hB.cell (lt_of_cell y4)).trans y4
      by_cases hlt : k < B.m
      · have hlt' : (k : Int) < (B.m : Int) := by omega
        have hkE : k < E.length := by rw [HE.out.2.2.2.2, ← HI.out.2.2.2.1]; exact hlt
        obtain ⟨ek, hek⟩ : ∃ ek, E[k]? = some ek := ⟨_, List.getElem?_eq_getElem hkE⟩
        have e0 := HI.out.1 k ek hek
        have ze := (hB.cell (lt_of_cell e0)).trans e0
        have v0 := (HI.out.2.1 k hlt).1
        have zv := (hB.cell (lt_of_cell v0)).trans v0
        have hk1 : IntKind.i64.wrap ((k : Int) + 1) = ((k + 1 : Nat) : Int) := by rw [IntWalk.i64_in _ (by omega)]; omega
        obtain ⟨vk, hvk⟩ : ∃ vk, V k = vk := ⟨_, rfl⟩
        rw [hvk] at zv v0
        by_cases hc : vk = c
        · subst hc
          have HG := Lib.hid (And.intro (hA.same HE.out.2.1 hkE hvk) (And.intro hO hB))
          have hq : (!(vk == vk)) = false := by simp
          clear hA hO hB hOl hek e0 v0 hkl hkE hvk
          gi_wp2_with fail
          go_roundw
          case rel => exact ⟨k + 1, L, vk, rfl, by go_num, by omega, HG.out.1, HG.out.2.1, HG.out.2.2⟩
          case measure => simp [RowKit.intOf]; omega
        · have hq : (!(vk == c)) = true := by simp [hc]
          obtain ⟨g2, cap2, w3, hrun, hown3, hk3, hg3, hz3⟩ := append_x (P := Tryz.prog) wr 120 178 Tryz.underlying120 tinfoPRun rfl (by omega) hO [.int .i32 (ek : Nat), .int .i64 vk] rfl
            (by intro u hu; simp at hu; rcases hu with rfl | rfl <;> rfl) (by unfold maxLen; omega) (by omega)
          have hfin : OwnS (fun b => W.heap.size ≤ b) 178 2 (.slice (some ⟨g2, 0, none⟩) (L.length + 1) cap2) (L ++ [(ek, vk)]).length (encR2 (L ++ [(ek, vk)])) w3 ∧ RowKit.Below W.heap.size W w3 := by
            have hs := hB.size
            refine ⟨?_, hB.trans (hk3.below hs (fun b hb => hO.2 b hb))⟩
            rw [encR2_snoc, List.length_append]
            exact hown3.weaken (fun b hb => by
              subst hb
              rcases hg3 with hx | hx
              · exact hO.2 b hx
              · omega)
          have HA2 := hA.more HE.out.2.1 hek
          rw [hvk] at HA2
          have HG := Lib.hid (And.intro HA2 hfin)
          have H3 := Lib.hid hrun
          clear hA hO hB hOl hek e0 v0 hkl hkE hvk hrun hown3 hk3 hg3 hz3 hfin HA2
          gi_wp2_with (first | (refine wpListIn_append_eq (o := ⟨some 79, _, _, _, _, _⟩) (by rfl) (by rfl) (by rfl) (by rfl) H3.out ?_))
          go_roundw
          case rel => exact ⟨k + 1, L ++ [(ek, vk)], vk, rfl, by go_num, by omega, HG.out.1, HG.out.2.1, HG.out.2.2⟩
          case measure => simp [RowKit.intOf]; omega
      · have hkm : k = B.m := by omega
        subst hkm
        have HG := Lib.hid (And.intro hA (And.intro hO hB))
        clear hA hO hB hOl hkl z3 z4
        have hDW := HI.out.2.2.2.2.2.2
        have HDD := Lib.hid ((HG.out.2.2.block D (Array.getElem?_eq_some_iff.1 hDW).1).trans hDW)
        have HEL : Hid (E.length ≤ 1114113) := Lib.hid (nodup_le 1114113 E (HE.out.2.1.imp (fun h => Nat.ne_of_lt h)) (fun x hx => by
          obtain ⟨r, hr, hx2⟩ := List.mem_flatMap.1 ((HE.out.2.2.1 x).1 hx)
          have := HR.out.2.2 r hr
          simp at hx2
          omega))
        have HHW := Lib.hid hhw
        clear hDW hhw
        gi_wp2
        refine leaves_marks (Ds := [D]) (by simp) (fun D' h => by simp at h; subst h; exact HDD.out) (fun W' hk' => ⟨_, results_tmp rfl _ _ _, ?_⟩)
        obtain ⟨hA, hO, hB⟩ := HG.out
        have hk' : Keep (fun b => b = D) wr W' := hk'.weaken fun b _ hb => by simpa using hb
        have hDl : D < W.heap.size := (Array.getElem?_eq_some_iff.1 HI.out.2.2.2.2.2.2).1
        have hmE : B.m = E.length := by rw [HE.out.2.2.2.2]; exact HI.out.2.2.2.1
        refine ⟨_, L, rfl, own_runv (hO.keep hk' (fun b hb hy => by subst hb; have : W.heap.size ≤ b := hy; omega)), hA.2.2.1, ?_, fun r => ?_, ?_⟩
        · have h1 := hA.1
          have h2 := HEL.out
          omega
        · rw [hA.2.2.2.2 r, hmE]
          exact evV_all HI.out.2.2.1 HE.out.2.1 (fun x hx => ⟨(HE.out.2.2.1 _).2 (List.mem_flatMap.2 ⟨x, hx, by simp⟩), (HE.out.2.2.1 _).2 (List.mem_flatMap.2 ⟨x, hx, by simp⟩)⟩) r
        · have hs := HI.out.2.2.2.2.1.size
          have hDw := HI.out.2.2.2.2.2.1
          have h6 := HHW.out
          exact HI.out.2.2.2.2.1.trans ((hB.mono (by omega)).trans (hk'.below (by have := hB.size; omega) (fun b hb => by subst hb; omega)))
end Go.Proofs.YtcfhblbmpbfoaaaGreatDoor
