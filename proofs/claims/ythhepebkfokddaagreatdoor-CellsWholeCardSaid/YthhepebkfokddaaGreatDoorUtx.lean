/- props: Parse: the walk. -/
import Derived.Test.YthhepebkfokddaaGreatDoorGx21
import Derived.RangeFuncCalls
import Derived.Stop.RegionWithIn
namespace Go.Proofs.YthhepebkfokddaaGreatDoor
open Go Go.RowKit Go.Kt Go.Kt.Rg Go.Maps
attribute [local go_sem] Oper.semAt_some
theorem rise_eq : ∀ {A B : List Nat}, A.Pairwise (· < ·) → B.Pairwise (· < ·) → (∀ x, x ∈ A ↔ x ∈ B) → A = B
 | [], [], _, _, _ => rfl
 | [], y :: t, _, _, h => by have := (h y).2 List.mem_cons_self; cases this
 | x :: s, [], _, _, h => by have := (h x).1 List.mem_cons_self; cases this
 | x :: s, y :: t, ha, hb, h => by
   have h1 := List.pairwise_cons.1 ha
   have h2 := List.pairwise_cons.1 hb
   have hxy : x = y := by
    rcases List.mem_cons.1 ((h x).1 List.mem_cons_self) with e | e
    ·exact e
    ·rcases List.mem_cons.1 ((h y).2 List.mem_cons_self) with e2 | e2
     ·exact e2.symm
     ·have := h2.1 x e
      have := h1.1 y e2
      omega
   subst hxy
   rw [rise_eq h1.2 h2.2 (fun z => ⟨fun hz => by
    rcases List.mem_cons.1 ((h z).1 (List.mem_cons_of_mem _ hz)) with e | e
    ·have := h1.1 z hz; omega
    ·exact e, fun hz => by
    rcases List.mem_cons.1 ((h z).2 (List.mem_cons_of_mem _ hz)) with e | e
    ·have := h2.1 z hz; omega
    ·exact e⟩)]
theorem isAggP (w : World) : (isAgg 22).run Tryz.prog w = .ok false w := by kernel_rfl
theorem isAggE (w : World) : (isAgg 24).run Tryz.prog w = .ok false w := by kernel_rfl
theorem ends_at {l : List UInt8} {w W : World} {r2 r3 : Nat} {v2 v3 : Value} {tmps : Array Value} {Ds : List Nat} (hDs : Ds.Nodup) (h2 : tmps.getD 2 undef = .pointer (some ⟨r2, 0, none⟩)) (h3 : tmps.getD 3 undef = .pointer (some ⟨r3, 0, none⟩))
 (g2 : W.heap[r2]? = some (.cells #[v2] 22 (0, 0))) (g3 : W.heap[r3]? = some (.cells #[v3] 24 (0, 0))) (hD : ∀ D, D ∈ Ds → W.heap[D]? = some (.deferred (some [])))
 (hO : ∀ W', Keep (fun b => b ∈ Ds) W W' → ParseO l w (.returned (.tuple #[v2, v3])) W') :
 LeavesInM Fence.wide 0 Tryz.prog Tryz.f6 tmps (ParseO l w) (Ds.map fun D => { target := .collected D, args := #[] }) .returning W := by
 refine leaves_marks hDs hD (fun W' hk => ⟨_, results_cc rfl tmps W' r2 r3 v2 v3 h2 ?_ isAggP h3 ?_ isAggE, hO W' hk⟩)
 ·exact cell_one (hk.heap g2 (fun hx => by have := hD r2 hx; rw [g2] at this; cases this))
 ·exact cell_one (hk.heap g3 (fun hx => by have := hD r3 hx; rw [g3] at this; cases this))
theorem res_cells (w : World) (v : Value) : ((w.alloc (.cells #[.pointer none] 22)).alloc (.cells #[v] 24)).heap[w.heap.size]? = some (.cells #[.pointer none] 22 (0, 0)) ∧ ((w.alloc (.cells #[.pointer none] 22)).alloc (.cells #[v] 24)).heap[w.heap.size + 1]? = some (.cells #[v] 24 (0, 0)) ∧
 Below w.heap.size w ((w.alloc (.cells #[.pointer none] 22)).alloc (.cells #[v] 24)) ∧ ((w.alloc (.cells #[.pointer none] 22)).alloc (.cells #[v] 24)).heap.size = w.heap.size + 2 := by
 refine ⟨alloc_old_h (World.alloc_heap_new w _), ?_, ((Below.refl _ w).alloc (Nat.le_refl _) _).alloc (by rw [World.size_alloc]; omega) _, by rw [World.size_alloc, World.size_alloc]⟩
 rw [← World.size_alloc w (.cells #[.pointer none] 22)]
 exact World.alloc_heap_new _ _
set_option maxRecDepth 100000 in
set_option maxHeartbeats 4000000 in
theorem pParse (s : ByteArray) (w : World) (hE : PEnv w) : Calls Tryz.prog 6 #[.string s] w fun e w' => ParseO s.data.toList w e w' := by
 obtain ⟨l, hl⟩ : ∃ l, s.data.toList = l := ⟨_, rfl⟩
 have hsz : s.size = l.length := by rw [← hl]; exact Lib.size_eq s
 have hfn : ∀ k, Fence.wide.fn k := fun _ => trivial
 have hdep : Fence.wide.depth = none := rfl
 have HE := Lib.hid hE
 have HL := Lib.hid (And.intro hl hsz)
 clear hE
 rw [hl]
 have big : ∀ (W : World), (1048576 < l.length ∨ 65536 < lnC l) → Below w.heap.size w W → ParseO l w (.returned (.tuple #[.pointer none, .iface 46 (.int .i64 5)])) W := fun W hb hw =>
  ⟨5, 0, rd0, [], .inl ⟨hb, rfl, rfl⟩, hw, .inr ⟨by decide, rfl⟩⟩
 have BIG := Lib.hid big
 clear big
 refine (callsIn_wide (n := 0)).1 ?_
 refine callsIn_of_wp_marks Tryz.func6 rfl trivial ?_ rfl
 simp only [Tryz.ntmps6, List.size_toArray, List.length_cons, List.length_nil, Nat.reduceAdd, Nat.reduceSub, Array.replicate_succ, Array.replicate_zero, List.push_toArray, List.append_toArray, List.nil_append, List.cons_append]
 by_cases hbig : 1048576 < s.size
 ·have hbig' : (1048576 : Int) < (s.size : Int) := by omega
  have HB := Lib.hid hbig
  clear hl hsz hbig
  gi_wp2
  refine ends_at (Ds := []) (by simp) rfl rfl (res_cells w _).1 (res_cells w _).2.1 (by simp) (fun W' hk => BIG.out W' (.inl (by rw [← HL.out.2]; exact HB.out)) ((res_cells w _).2.2.1.trans (hk.below (by rw [(res_cells w _).2.2.2]; omega) (fun b hb => by simp at hb))))
 have hbig' : ¬ (1048576 : Int) < (s.size : Int) := by omega
 have CL := Lib.hid (fun W => plineCount s W (by omega))
 rw [hl] at CL
 have HS := Lib.hid (show s.size ≤ 1048576 by omega)
 clear hbig hsz hl
 by_cases hln : 65536 < lnC l
 ·have hln' : (65536 : Int) < (lnC l : Nat) := by omega
  have HB := Lib.hid hln
  clear hln
  generalize lnC l = nl at *
  gi_wp2_with fail
  refine (callsIn_wide.2 (CL.out _)).mono ?_
  rintro e w' ⟨rfl, rfl⟩
  gi_wp2
  refine ends_at (Ds := []) (by simp) rfl rfl (res_cells _ _).1 (res_cells _ _).2.1 (by simp) (fun W' hk => BIG.out W' (.inr HB.out) ((res_cells _ _).2.2.1.trans (hk.below (by rw [(res_cells _ _).2.2.2]; omega) (fun b hb => by simp at hb))))
 have hln' : ¬ (65536 : Int) < (lnC l : Nat) := by omega
 have HB : Hid (¬ (1048576 < l.length ∨ 65536 < lnC l) ∧ lnC l ≤ 65536) := Lib.hid ⟨fun h => by rcases h with h | h; have := HL.out.2; have := HS.out; omega; omega, by omega⟩
 clear hln
 generalize hnl : lnC l = nl at HB hln' CL
 have HNL := Lib.hid hnl
 clear hnl BIG
 obtain ⟨w1, hw1⟩ : ∃ w1, (w.alloc (.cells #[.pointer none] 22)).alloc (.cells #[.nilIface] 24) = w1 := ⟨_, rfl⟩
 have hrc := res_cells w .nilIface
 rw [hw1] at hrc
 have HRC := Lib.hid hrc
 have HW1 := Lib.hid hw1
 have CN := Lib.hid (pnewR w1)
 clear hrc hw1
 gi_wp2_with fail
 refine (callsIn_wide.2 (CL.out _)).mono ?_
 rintro e w' ⟨rfl, rfl⟩
 gi_wp2_with fail
 rw [HW1.out]
 refine (callsIn_wide.2 CN.out).mono ?_
 rintro e w2 ⟨R, rfl, hb12, ρ0, hR0⟩
 obtain ⟨w3, hw3⟩ : ∃ w3, w2.alloc (.cells #[.pointer (some ⟨R.g, 0, none⟩)] 47) = w3 := ⟨_, rfl⟩
 have CS := Lib.hid (plines_call s w3)
 have HR0 := Lib.hid (And.intro hb12 (And.intro hR0 hw3))
 clear hb12 hR0
 gi_wp2_with fail
 refine (callsIn_wide.2 CS.out).mono ?_
 rintro e w4 ⟨rfl, hw4⟩
 have HW4 := Lib.hid hw4
 clear hw3 hw4
 obtain ⟨B0, hB0⟩ : ∃ B0, w.heap.size + 2 = B0 := ⟨_, rfl⟩
 obtain ⟨H2, hH2⟩ : ∃ H2, w2.heap.size = H2 := ⟨_, rfl⟩
 obtain ⟨rfl, hs⟩ : s = ⟨l.toArray⟩ ∧ l.length ≤ 1048576 := ⟨by rw [← HL.out.1], by rw [← HL.out.2]; exact HS.out⟩
 have hz3 : w3.heap.size = H2 + 1 := by rw [← HR0.out.2.2, World.size_alloc, hH2]
 have hz4 : w4.heap.size = H2 + 2 := by rw [← HW4.out, World.size_alloc, hz3]
 have hB0' : w1.heap.size = B0 := by rw [HRC.out.2.2.2, hB0]
 have hB2 : B0 ≤ H2 := by rw [← hB0', ← hH2]; exact HR0.out.1.size
 have hc4 : w4.heap[H2]? = some (.cells #[.pointer (some ⟨R.g, 0, none⟩)] 47 (0, 0)) := by
  rw [← HW4.out]
  refine alloc_old_h ?_
  rw [← HR0.out.2.2, ← hH2]
  exact World.alloc_heap_new w2 _
 have hbs : w4.heap[H2 + 1]? = some (.cells #[.string ⟨l.toArray⟩] 9 (0, 0)) := by
  rw [← HW4.out, ← hz3]
  exact World.alloc_heap_new w3 _
 have hb24 : Below H2 w2 w4 := by
  rw [← HW4.out, ← HR0.out.2.2]
  exact ((Below.refl _ w2).alloc (by omega) _).alloc (by rw [World.size_alloc]; omega) _
 have hb14 : Below B0 w1 w4 := (by have := HR0.out.1; rw [hB0'] at this; exact this.trans (hb24.mono hB2))
 have hr2 : w4.heap[w.heap.size]? = some (.cells #[.pointer none] 22 (0, 0)) := (hb14.block _ (by omega)).trans HRC.out.1
 have hr3 : w4.heap[w.heap.size + 1]? = some (.cells #[.nilIface] 24 (0, 0)) := (hb14.block _ (by omega)).trans HRC.out.2.1
 have hbw4 : Below w.heap.size w w4 := HRC.out.2.2.1.trans (hb14.mono (by omega))
 have hit := plines_iter l (H2 + 1) w4 hbs hs
 have hI0 : LineI w.heap.size B0 H2 (H2 + 1) (H2 + 2) R [] (fun _ => False) w4 := by
  refine ⟨fun b => if b < H2 then ρ0 b else if b = H2 then 0 else 9, .slice none 0 0, .slice none 0 0, rd0, ?_, rfl, ⟨fun b _ hb => ?_, fun b hb h0 h9 => ?_⟩, hr2, hr3⟩
  ·have h1 := HR0.out.2.1
   rw [hB0'] at h1
   have h2 := h1.recast (fun b => if b < H2 then ρ0 b else if b = H2 then 0 else 9) (fun b hb => by rw [hH2] at hb; simp only [if_pos hb])
   exact h2.below (by rw [hH2]; exact hb24)
  ·have e1 : ¬ b < H2 := by omega
   have e2 : ¬ b = H2 := by omega
   simp only [if_neg e1, if_neg e2]
  ·by_cases e1 : b < H2
   ·simp only [if_pos e1] at h0
    have := HR0.out.2.1.hr b h0
    omega
   ·have e2 : ¬ b = H2 := fun e => by simp only [if_neg e1, if_pos e] at h0; exact h0 rfl
    simp only [if_neg e1, if_neg e2] at h9
    exact absurd rfl h9
 have HIT := Lib.hid hit
 have HI0 := Lib.hid hI0
 have HWW := Lib.hid (And.intro hc4 (And.intro hr2 (And.intro hr3 (And.intro hbw4 (And.intro hz4 hB2)))))
 have HZ := Lib.hid (And.intro hB0 (And.intro hH2 (And.intro hz3 hs)))
 rw [hz3, hH2]
 clear hit hI0 hc4 hr2 hr3 hbw4 hbs hb24 hb14 hB0' hs hH2 hz3
 gi_wp2_with fail
 refine loop_out3 (gf := 40) (lb := #[.pointer (some ⟨H2 + 1, 0, none⟩)]) (encs := encL) rfl enters_lines
  HIT.out (fun _ => rfl) (X := fun b => b = w.heap.size ∨ b = w.heap.size + 1 ∨ (B0 ≤ b ∧ b < H2))
  (fun b hb => by rcases hb with rfl | rfl | hb <;> omega) (fun b hb => ?nd) (fun _ _ => rfl) (Nat.le_refl _)
  (LineI w.heap.size B0 H2 (H2 + 1) (H2 + 2) R) (LineX w.heap.size (w.heap.size + 1) (linesP l))
  (by rw [hz4]; exact LineI.low (by omega) (by omega)) LineI.slim (fun c pre Y W W' hk ⟨h1, h2, h3, h4, h5⟩ => ⟨h1, h2, h3, hk.heap h4 (fun hx => by have := hx.1; rw [hz4] at this; omega), hk.heap h5 (fun hx => by have := hx.1; rw [hz4] at this; omega)⟩)
  HI0.out ?round ?done ?stop
 case nd =>
  rcases hb with hb | hb
  ·have hb : b = H2 + 1 := hb
   exact ⟨fun h => by omega, by omega⟩
  ·exact hb.elim
 case round =>
  rintro l' hl' pre x Y W hpre hI hk hY hlt hr
  simp only [encL]
  have HP := Lib.hid hpre
  have HY := Lib.hid hY
  clear hpre hI hk hY hr
  gi_wp2
  refine ⟨Keep.refl _ _, ?_⟩
  rintro W2 hk1 hk2 ⟨ρ, cv, kv, S, hR, hrd, hro, hrc2⟩ rl
  have hlen : pre.length + 1 ≤ 65536 := by
   obtain ⟨t, ht⟩ := HP.out
   have := linesP_len l
   rw [HNL.out, ← ht] at this
   simp at this
   have := HB.out.2
   omega
  have hx : x.length ≤ 1048576 := by
   obtain ⟨t, ht⟩ := HP.out
   have := linesP_le l x (by rw [← ht]; simp)
   have := HZ.out.2.2.2
   omega
  obtain ⟨hR3, hk3⟩ := hR.setline (pre.length + 1)
  have z0 : W2.cell? ⟨H2, 0, none⟩ = some (.pointer (some ⟨R.g, 0, none⟩)) := cell_one (hk2.heap HWW.out.1 (fun h => by rcases h with (h | h | h) | h <;> omega))
  have z1 : W2.cell? ⟨R.g, 1, none⟩ = some (.int .i64 (pre.length : Nat)) := by rw [Lib.cell_of_heap hR.cell]; rfl
  have zf : W2.frozen? ⟨R.g, 1, none⟩ = false := Lib.frozen_of_heap hR.cell _
  obtain ⟨W3, hW3⟩ : ∃ W3, W2.setCell ⟨R.g, 1, none⟩ (.int .i64 ((pre.length + 1 : Nat) : Int)) = W3 := ⟨_, rfl⟩
  rw [hW3] at hR3 hk3
  have hRg : ¬ H2 = R.g := fun e => by
   have h1 := hR.g
   rw [← e] at h1
   have h2 := hro.2 H2 (by omega) (by omega) (by omega)
   omega
  have z3 : W3.cell? ⟨H2, 0, none⟩ = some (.pointer (some ⟨R.g, 0, none⟩)) := hk3.cell z0 hRg
  have HR3 := Lib.hid (And.intro hR3 (And.intro hk3 (And.intro hrd (And.intro hro (And.intro hk2 (And.intro hk1 hrc2))))))
  have HLN := Lib.hid (And.intro hlen hx)
  have hk02 := hk2
  have HPE : Hid (∀ V, Below W3.heap.size W3 V → PEnv V) := Lib.hid fun V hb => by
   have h1 : Below w.heap.size w W2 := HWW.out.2.2.2.1.trans (hk2.below (by omega) (fun b hb => by rcases hb with (h | h | h) | h <;> omega))
   have h2 : Below w.heap.size w W3 := h1.trans (hk3.below (by have := h1.size; omega) (fun b hb => by subst hb; have := hR.hr R.g (by have := hR.g; omega); omega))
   exact HE.out.below (h2.trans (hb.mono h2.size))
  have hd0 : Below W3.heap.size W3 W3.drew := below_drewN (Below.refl _ _) 1
  have CW : Hid (Calls Tryz.prog 20 #[.string ⟨x.toArray⟩] W3.drew fun e w' => ∃ v, e = .returned v ∧ StrS v (wrdP x) w' ∧ Below W3.heap.size W3 w') := Lib.hid ((pwords ⟨x.toArray⟩ W3.drew (by rw [bsize]; exact hx) (HPE.out _ hd0)).mono fun e w' h => by
   obtain ⟨v, h1, h2, h3⟩ := h
   exact ⟨v, h1, by simpa using h2, hd0.trans h3⟩)
  have CT : Hid (∀ (V : World) (v : Value), Below W3.heap.size W3 V → StrS v (wrdP x) V → Calls Tryz.prog 19 #[.pointer (some ⟨R.g, 0, none⟩), v] V fun e w' => RdOut B0 ρ R (pre.length + 1) (2 * pre.length + 2) 0 (takeP (pre.length + 1) S (wrdP x)).1 (takeP (pre.length + 1) S (wrdP x)).2 V e w') := Lib.hid fun V v hb hS =>
   ptake V (hR3.below hb) (wrdP x) v hS (fun y hy => ⟨(wrdP_ok x y hy).1, Nat.le_trans (wrdP_ok x y hy).2 hx⟩) (HPE.out V hb) (by omega) (by
    have := (readP_ok pre 0 0 rd0 rd0_ok (by rw [hrd])).cs.1
    rw [hrd] at this
    simp at this
    omega) (by
    have := (readP_ok pre 0 0 rd0 rd0_ok (by rw [hrd])).ks.1
    rw [hrd] at this
    simp at this
    omega)
  have hW3' : W2.setCell ⟨R.g, 1, none⟩ (.int .i64 ((pre.length : Int) + 1)) = W3 := by rw [← hW3]; rfl
  clear hR hR3 hk3 hrd hro hk2 hk1 rl hW3 hRg hlt hrc2
  clear hk02 hd0
  gi_wp2_with fail
  gi_region_with (first
   | (gi_at_call 20; refine (CallsIn.inRound l' (callsIn_wide.2 CW.out)).mono ?_; rintro e V ⟨v, rfl, hS, hb⟩; have zz := (hb.cell (lt_of_cell z3)).trans z3)
   | (gi_at_call 19; refine (CallsIn.inRound l' (callsIn_wide.2 (CT.out _ _ (by assumption) (by assumption)))).mono ?_; rintro e V2 ⟨rfl, hkt, hex⟩))
  all_goals
   obtain ⟨ρ2, S2, cv2, kv2, hR2, hro2, hS2⟩ := hex
   have hbV : Below W3.heap.size W3 V := hb
   obtain ⟨no, hno⟩ : ∃ no, (takeP (pre.length + 1) S (wrdP x)).1 = no := ⟨_, rfl⟩
   rw [hno] at hS2 ⊢
   have HNO := Lib.hid hno
   have hrc3 : ResC w.heap.size V2 := by
    obtain ⟨hR3, hk3, hrd, hro, hk2, hk1, hrc⟩ := HR3.out
    have h1 := hrc.keep hk3 (fun e => by have := hR3.hr R.g (by have := hR3.g; omega); omega) (fun e => by have := hR3.hr R.g (by have := hR3.g; omega); omega)
    have h2 := h1.keep (X := fun _ => False) (Keep.of_all hbV) (fun h => h) (fun h => h)
    exact h2.keep hkt (fun h => by have := hR3.hr _ h.1; omega) (fun h => by have := hR3.hr _ h.1; omega)
   have HK2 : Hid (Keep (fun b => (b = w.heap.size ∨ b = w.heap.size + 1 ∨ (B0 ≤ b ∧ b < H2)) ∨ Y b) W2 V2) := Lib.hid (by
    obtain ⟨hR3, hk3, hrd, hro, hk2, hk1, hrc⟩ := HR3.out
    have hrole : ∀ b, ρ b ≠ 0 → ρ b ≠ 9 → (b = w.heap.size ∨ b = w.heap.size + 1 ∨ (B0 ≤ b ∧ b < H2)) ∨ Y b := fun b h0 h9 => by
     by_cases hb : b < H2 + 2
     ·exact .inl (.inr (.inr (hro.2 b hb h0 h9)))
     ·refine .inr (Classical.byContradiction fun hy => h9 (hro.1 b hy (by omega)))
    have k1 : Keep (fun b => ((b = w.heap.size ∨ b = w.heap.size + 1 ∨ (B0 ≤ b ∧ b < H2)) ∨ Y b) ∨ W2.heap.size ≤ b) W2 W3 := hk3.weaken (fun b _ hb => .inl (by subst hb; exact hrole R.g (by have := hR3.g; omega) (by have := hR3.g; omega)))
    have k2 : Keep (fun b => ((b = w.heap.size ∨ b = w.heap.size + 1 ∨ (B0 ≤ b ∧ b < H2)) ∨ Y b) ∨ W2.heap.size ≤ b) W3 V := Keep.of_all hbV
    have k3 : Keep (fun b => ((b = w.heap.size ∨ b = w.heap.size + 1 ∨ (B0 ≤ b ∧ b < H2)) ∨ Y b) ∨ W2.heap.size ≤ b) V V2 := hkt.weaken (fun b _ hb => .inl (hrole b hb.1 hb.2))
    exact ((k1.trans k2).trans k3).weaken (fun b hb h => by rcases h with h | h; exact h; omega))
   have hsz3 : W2.heap.size ≤ V.heap.size := Nat.le_trans HR3.out.2.1.size hbV.size
   by_cases hno0 : no = 0
   ·have hno0' : (no : Int) = 0 := by omega
    have HF := Lib.hid (And.intro hR2 (And.intro hro2 (And.intro hS2 (And.intro hrc3 (And.intro hsz3 hno0)))))
    clear hR2 hro2 hS2 hrc3 hkt hno hsz3 hb hbV hS zz hno0
    gi_wp2
    obtain ⟨hR2, hro2, hS2, hrc3, hsz3, hno0⟩ := HF.out
    have hro := HR3.out.2.2.2.1
    refine ⟨fun b => Y b ∨ W2.heap.size ≤ b, HK2.out, fun b hb => hb, ρ2, cv2, kv2, S2, ?_, ?_, ⟨fun b hb hbs => ?_, fun b hb h0 h9 => ?_⟩, hrc3⟩
    ·have e1 : (pre ++ [x]).length = pre.length + 1 := by simp
     rw [e1, show 2 * (pre.length + 1) = 2 * pre.length + 2 by omega]
     exact hR2
    ·have e1 : (pre ++ [x]).length = pre.length + 1 := by simp
     rw [readP_snoc HR3.out.2.2.1, e1, HNO.out, hno0, hS2 hno0]
     rfl
    ·have hb2 : b < W2.heap.size := Nat.lt_of_not_le fun h => hb (.inr h)
     rw [hro2 b (by omega)]
     exact hro.1 b (fun hy => hb (.inl hy)) hbs
    ·have hsw : H2 + 2 ≤ W2.heap.size := by have := HR3.out.2.2.2.2.1.size; have := HWW.out.2.2.2.2.1; omega
     rw [hro2 b (by omega)] at h0 h9
     exact hro.2 b hb h0 h9
   ·have hno0' : ¬ (no : Int) = 0 := by omega
    have CF := Lib.hid (pfaultR V2 hR2 no)
    have y2 : V2.cell? ⟨w.heap.size, 0, none⟩ = some (.pointer none) := cell_one hrc3.1
    have y3 : V2.cell? ⟨w.heap.size + 1, 0, none⟩ = some .nilIface := cell_one hrc3.2
    have f2 : V2.frozen? ⟨w.heap.size, 0, none⟩ = false := frozen_one hrc3.1
    have f3 : V2.frozen? ⟨w.heap.size + 1, 0, none⟩ = false := frozen_one hrc3.2
    have y0 : V2.cell? ⟨H2, 0, none⟩ = some (.pointer (some ⟨R.g, 0, none⟩)) := by
     have h1 := (hbV.cell (lt_of_cell z3)).trans z3
     refine hkt.cell h1 (fun h => ?_)
     have := HR3.out.2.2.2.1.2 H2 (by omega) h.1 h.2
     omega
    have HF := Lib.hid (And.intro hrc3 hno0)
    clear hR2 hro2 hS2 hrc3 hkt hno hsz3 hb hbV hS zz hno0
    gi_wp2_with fail
    refine (CallsIn.inRound l' (callsIn_wide.2 CF.out)).mono ?_
    rintro e V3 ⟨rfl, rfl⟩
    gi_wp2
    obtain ⟨hrc3, hno0⟩ := HF.out
    have hall : readP 0 rd0 (linesP l) = (no, pre.length + 1, S) := by
     obtain ⟨t, ht⟩ := HP.out
     rw [← ht, readP_bad HR3.out.2.2.1 (by rw [HNO.out]; exact hno0), HNO.out]
    have he : errP no (pre.length + 1) = .iface 90 (.agg #[.int .i64 (no : Nat), .int .i64 ((pre.length : Int) + 1), .int .i64 0]) := by
     unfold errP
     rw [if_neg (by omega)]
     rfl
    rw [← he]
    have k2 : Keep (fun b => b = w.heap.size ∨ b = w.heap.size + 1) V3 ((V3.setCell ⟨w.heap.size, 0, none⟩ (.pointer none)).setCell ⟨w.heap.size + 1, 0, none⟩ (errP no (pre.length + 1))) :=
     Keep.setCell (X := fun b => b = w.heap.size ∨ b = w.heap.size + 1) (p := ⟨w.heap.size + 1, 0, none⟩) (Keep.setCell (X := fun b => b = w.heap.size ∨ b = w.heap.size + 1) (p := ⟨w.heap.size, 0, none⟩) (Keep.refl _ _) (.inl rfl) _) (.inr rfl) _
    refine ⟨Y, HK2.out.trans (k2.weaken (fun b _ h => by rcases h with h | h; exact .inl (.inl h); exact .inl (.inr (.inl h)))), fun b hb => .inl hb, rfl, by rw [hall]; exact hno0, by rw [hall]; simp, ?_, ?_⟩
    ·exact set_old (set_at hrc3.1) (by omega)
    ·rw [hall]
     exact set_at (set_old hrc3.2 (by omega))
 case stop =>
  rintro D c pre Y W hD hDd hpre ⟨rfl, h1, h2, h3, h4⟩ hY hkW
  have hbW : Below w.heap.size w W := HWW.out.2.2.2.1.trans (hkW.below (by omega) (fun b hb => by rcases hb with (h | h | h) | h <;> omega))
  have HF := Lib.hid (And.intro h1 (And.intro h2 (And.intro h3 (And.intro h4 (And.intro hbW (And.intro hDd hD))))))
  clear h1 h2 h3 h4 hbW hDd hY hkW
  gi_wp2
  obtain ⟨h1, h2, h3, h4, hbW, hDd, hD⟩ := HF.out
  refine ends_at (Ds := [D]) (by simp) rfl rfl h3 h4 (fun D' h => by simp at h; subst h; exact hDd) (fun W' hk => ?_)
  refine ⟨_, _, rd0, [], .inr (.inl ⟨by rw [HNL.out]; exact HB.out.1, h1, rfl, rfl⟩), hbW.trans (hk.below hbW.size (fun b hb => by simp at hb; omega)), .inr ⟨h1, rfl⟩⟩
 case done =>
  rintro D Y W hD hDd ⟨ρ, cv, kv, S, hR, hrd, hro, hrc⟩ hY hkW
  have hok := readP_ok (linesP l) 0 0 rd0 rd0_ok (by rw [hrd])
  rw [hrd] at hok
  simp only [Nat.zero_add] at hok
  have hlen : (linesP l).length ≤ 65536 := by rw [linesP_len, HNL.out]; exact HB.out.2
  have hbW : Below w.heap.size w W := HWW.out.2.2.2.1.trans (hkW.below (by omega) (fun b hb => by rcases hb with (h | h | h) | h <;> omega))
  have y0 : W.cell? ⟨H2, 0, none⟩ = some (.pointer (some ⟨R.g, 0, none⟩)) := cell_one (hkW.heap HWW.out.1 (fun h => by rcases h with (h | h | h) | h <;> omega))
  have CDE := Lib.hid (pdecomposed W hR (fun x hx => by
   obtain ⟨y, hy⟩ := Option.isSome_iff_exists.1 hx
   have := valid_le (hok.ds x y hy).1.1
   omega))
  obtain ⟨nn, hnn⟩ : ∃ nn, (linesP l).length = nn := ⟨_, rfl⟩
  rw [hnn] at hR hrd hok hlen
  have HD := Lib.hid (And.intro hR (And.intro hrd (And.intro hro (And.intro hrc (And.intro hok (And.intro hlen (And.intro hbW (And.intro hDd (And.intro hD hnn)))))))))
  clear hR hrd hro hrc hok hlen hbW hDd hY hkW hD hnn
  gi_wp2_with fail
  refine (callsIn_wide.2 CDE.out).mono ?_
  rintro e W4 ⟨L, v, hp, hm, rfl, hRs, hb4⟩
  obtain ⟨ao, cp, rfl, hcl⟩ : ∃ ao cp, v = .slice ao L.length cp ∧ ∀ i x, L[i]? = some x → ∃ g, ao = some ⟨g, 0, none⟩ ∧ W.heap.size ≤ g ∧ W4.cell? ⟨g, i, none⟩ = some (.int .i32 (x : Nat)) := by
   rcases hRs with ⟨rfl, rfl⟩ | ⟨g, cp, rfl, _, h3, _, h5⟩
   ·exact ⟨none, 0, rfl, fun i x h => by cases h⟩
   ·exact ⟨_, cp, rfl, fun i x h => ⟨g, rfl, h3, h5 i x h⟩⟩
  obtain ⟨N, hN⟩ : ∃ N, L.length = N := ⟨_, rfl⟩
  have hNl : N ≤ 1114112 := by
   rw [← hN]
   refine nodup_le 1114112 L (hp.imp (fun h => Nat.ne_of_lt h)) (fun x hx => ?_)
   obtain ⟨y, hy⟩ := Option.isSome_iff_exists.1 ((hm x).1 hx)
   have := valid_le (HD.out.2.2.2.2.1.ds x y hy).1.1
   omega
  have HLL := Lib.hid (And.intro hp (And.intro hm (And.intro hcl (And.intro hN hb4))))
  have y4 := (hb4.cell (lt_of_cell y0)).trans y0
  rw [hN]
  clear hp hm hRs hcl hb4 hN y0
  gi_wp2_with fail
  have hI0 : RingI B0 ρ R (2 * nn) N L S cv kv W4 0 W4 := by
   obtain ⟨hR, hrd, hro, hrc, hok, hlen, hbW, hDd, hD, hnn⟩ := HD.out
   refine ⟨nn, 0, ?_, rfl, fun y v h => (by cases h), ?_, Keep.refl _ _⟩
   ·have h9 := hR.below HLL.out.2.2.2.2
    rw [← rd_le_none (show S.le = fun _ => none by have := readP_le (linesP l) 0 rd0; rw [hrd] at this; exact this)] at h9
    exact h9
   ·have := unk_len L (fun _ => none)
    rw [HLL.out.2.2.2.1] at this
    simp only [List.take_zero, ringL]
    omega
  have HI0 := Lib.hid hI0
  clear hI0
  have hRne : Hid (H2 ≠ R.g ∧ H2 ≠ R.bn ∧ w.heap.size ≠ R.g ∧ w.heap.size ≠ R.bn ∧ w.heap.size + 1 ≠ R.g ∧ w.heap.size + 1 ≠ R.bn ∧ D ≠ R.g ∧ D ≠ R.bn ∧ R.g < W.heap.size ∧ R.bn < W.heap.size ∧ B0 ≤ R.g ∧ B0 ≤ R.bn ∧ R.g ≠ R.bn) := Lib.hid (by
   obtain ⟨hR, hrd, hro, hrc, hok, hlen, hbW, hDd, hD, hnn⟩ := HD.out
   have g1 := hR.hr R.g (by have := hR.g; omega)
   have g2 := hR.hr R.bn (by have := hR.e.1; omega)
   have g3 := hR.g
   have g4 := hR.e.1
   refine ⟨fun e => ?_, fun e => ?_, by omega, by omega, by omega, by omega, fun e => ?_, fun e => ?_, hR.gl, hR.e.2.lt, g1, g2, fun e => by rw [e] at g3; omega⟩
   ·have := hro.2 H2 (by omega) (by rw [e]; omega) (by rw [e]; omega)
    omega
   ·have := hro.2 H2 (by omega) (by rw [e]; omega) (by rw [e]; omega)
    omega
   ·have h9 := hR.cell
    rw [← e, hDd] at h9
    cases h9
   ·obtain ⟨D9, ⟨es, clock, h1, _⟩, _⟩ := hR.e.2
    rw [← e, hDd] at h1
    cases h1)
  gi_loopw [42] (fun x wr => ∃ i : Nat, x = .int .i64 i ∧ i ≤ N ∧ RingI B0 ρ R (2 * nn) N L S cv kv W4 i wr) (fun x _ => N - (RowKit.intOf x).toNat)
  case atStart => exact ⟨0, rfl, by omega, HI0.out⟩
  case round =>
   obtain ⟨i, rfl, hi, line, m, hR, hrp, hle, hmu, hk⟩ := hrel
   have hsz := hk.size
   have hs4 := HLL.out.2.2.2.2.size
   have z4 : wr.cell? ⟨H2, 0, none⟩ = some (.pointer (some ⟨R.g, 0, none⟩)) := hk.cell y4 (fun h => by rcases h with h | h; exact hRne.out.1 h; exact hRne.out.2.1 h)
   by_cases hlt : i < N
   ·have hlt' : (i : Int) < (N : Int) := by omega
    obtain ⟨x, hx⟩ : ∃ x, L[i]? = some x := ⟨_, List.getElem?_eq_getElem (by rw [HLL.out.2.2.2.1]; exact hlt)⟩
    obtain ⟨gl, rfl, hgl, hcx⟩ := HLL.out.2.2.1 i x hx
    obtain ⟨y, hy⟩ := Option.isSome_iff_exists.1 ((HLL.out.2.1 x).1 (List.mem_of_getElem? hx))
    obtain ⟨ln, hlp, hln⟩ : ∃ ln, 0 < ln ∧ S.ls x = some ln := by
     obtain ⟨m9, h9⟩ := HD.out.2.2.2.2.1.ls x ((HLL.out.2.1 x).1 (List.mem_of_getElem? hx))
     exact ⟨m9 + 1, by omega, h9⟩
    have hxv := valid_le (HD.out.2.2.2.2.1.ds x y hy).1.1
    have hcx2 := hk.cell hcx (fun h => by have h0 : gl = R.g ∨ gl = R.bn := h; have := hRne.out; rcases h0 with h0 | h0 <;> omega)
    have hk1 : IntKind.i64.wrap ((i : Int) + 1) = ((i + 1 : Nat) : Int) := by rw [IntWalk.i64_in _ (by omega)]; omega
    have hbng := hRne.out.2.2.2.2.2.2.2.2.2.2.2.2
    have hgz := hR.gl
    have FA6 : Hid (∀ X : World, (Instr.fieldAt 57 (.pointer (some ⟨R.g, 0, none⟩)) 6).run Tryz.prog X = .ok (.pointer (some ⟨R.g, 6, none⟩)) X) := Lib.hid fun X => by go_simp
    have FA1 : Hid (∀ X : World, (Instr.fieldAt 57 (.pointer (some ⟨R.g, 0, none⟩)) 1).run Tryz.prog X = .ok (.pointer (some ⟨R.g, 1, none⟩)) X) := Lib.hid fun X => by go_simp
    have LDr : Hid (∀ X : World, Below wr.heap.size wr X → (Instr.loadAt 47 (.pointer (some ⟨H2, 0, none⟩))).run Tryz.prog X = .ok (.pointer (some ⟨R.g, 0, none⟩)) X) := Lib.hid fun X hb => by
     have c := (hb.cell (lt_of_cell z4)).trans z4
     go_simp
    have LDl : Hid (∀ X : World, Below wr.heap.size wr X → (Instr.loadAt 55 (.pointer (some ⟨R.g, 6, none⟩))).run Tryz.prog X = .ok (.map (some R.bl)) X) := Lib.hid fun X hb => by
     have c : X.cell? ⟨R.g, 6, none⟩ = some (.map (some R.bl)) := (hb.cell hR.gl).trans (by rw [Lib.cell_of_heap hR.cell]; rfl)
     go_simp
    have LKl : Hid (∀ X : World, Below wr.heap.size wr X → (Instr.lookup 55 (.map (some R.bl)) (.int .i32 (x : Nat)) false).run Tryz.prog X = .ok (.int .i64 (ln : Nat)) X) := Lib.hid fun X hb =>
     (hR.below hb).lnl hxv hln
    have STl : Hid (∀ X : World, Below wr.heap.size wr X → (Instr.storeAt 3 (.pointer (some ⟨R.g, 1, none⟩)) (.int .i64 (ln : Nat))).run Tryz.prog X = .ok () (X.setCell ⟨R.g, 1, none⟩ (.int .i64 (ln : Nat))) ∧ RdW B0 ρ R ln (2 * nn) m { S with le := ringL S (N + 1) (L.take i) fun _ => none } cv kv (X.setCell ⟨R.g, 1, none⟩ (.int .i64 (ln : Nat))) ∧ Keep (fun b => b = R.g) X (X.setCell ⟨R.g, 1, none⟩ (.int .i64 (ln : Nat)))) := Lib.hid fun X hb => by
     have hRX := hR.below hb
     have q : X.cell? ⟨R.g, 1, none⟩ = some (.int .i64 (line : Nat)) := by rw [Lib.cell_of_heap hRX.cell]; rfl
     have q2 : X.frozen? ⟨R.g, 1, none⟩ = false := Lib.frozen_of_heap hRX.cell _
     refine ⟨by go_simp, hRX.setline ln⟩
    have HX := Lib.hid (And.intro hx (And.intro hy (And.intro hln (And.intro hR (And.intro hrp (And.intro hle (And.intro hmu hk)))))))
    have hxi := Lib.hid hi
    clear hx hy hln hR hrp hle hmu hk hcx
    gi_wp2_with fail
    refine wpIn_wide.2 ?_
    obtain ⟨FF, hFF⟩ : ∃ FF : StoB, FF = ⟨wr, wr.heap.size, R.g, 9, fun i v W => match i with | 0 => v = .pointer (some ⟨R.g, 0, none⟩) | 1 => v = .pointer (some ⟨R.g, 0, none⟩) | 2 => v = .pointer (some ⟨R.g, 0, none⟩) | 3 => v = .pointer (some ⟨R.g, 6, none⟩) | 4 => v = .map (some R.bl) | 5 => v = .int .i32 (x : Nat) | 6 => v = .int .i64 (ln : Nat) | 7 => v = .pointer (some ⟨R.g, 0, none⟩) | 8 => v = .pointer (some ⟨R.g, 1, none⟩) | _ => True, fun W => RdW B0 ρ R ln (2 * nn) m { S with le := ringL S (N + 1) (L.take i) fun _ => none } cv kv W ∧ Keep (fun b => b = R.g) wr W⟩ := ⟨_, rfl⟩
    have HOK : StoB.Ok FF := by
     rw [hFF]
     refine ⟨rfl, by show R.g < wr.heap.size; omega, fun i v A B hb => ?_⟩
     match i with
     | 0 => exact fun h => h
     | 1 => exact fun h => h
     | 2 => exact fun h => h
     | 3 => exact fun h => h
     | 4 => exact fun h => h
     | 5 => exact fun h => h
     | 6 => exact fun h => h
     | 7 => exact fun h => h
     | 8 => exact fun h => h
     | _ + 9 => exact fun _ => trivial
    have H0 : Below FF.H FF.w wr.drew := by rw [hFF]; exact below_drewN (Below.refl _ _) 1
    refine wp_region_stob FF (by kernel_rfl) (by kernel_rfl) (by kernel_rfl) HOK (by rw [hFF]; kernel_rfl) (by rw [hFF]; show (9 : Nat) < 10; decide) H0 ?hsl ?hdl
    case hsl =>
     refine BSteps.cons ?_ (BSteps.cons ?_ (BSteps.cons ?_ (BSteps.cons ?_ (BSteps.cons ?_ (BSteps.cons ?_ (BSteps.cons ?_ (BSteps.cons ?_ (BSteps.cons ?_ (BSteps.cons ?_ (BSteps.nil))))))))))
     ·intro a X9 hXB hL hd
      rw [hFF] at hXB
      refine ⟨rfl, ?_⟩
      have e0 : a.eval (.tmp 4) = .pointer (some ⟨H2, 0, none⟩) := hL.far 4 (by kernel_rfl)
      exact wp_value (exec_load rfl e0 (LDr.out X9 hXB)) ⟨_, rfl, .inl ⟨by rw [hFF]; show (0 : Nat) ≠ 9; decide, Below.refl _ _, by rw [hFF]; exact rfl⟩⟩
     ·intro a X9 hXB hL hd
      rw [hFF] at hXB
      refine ⟨rfl, ?_⟩
      have e0 : a.eval (.tmp 4) = .pointer (some ⟨H2, 0, none⟩) := hL.far 4 (by kernel_rfl)
      exact wp_value (exec_load rfl e0 (LDr.out X9 hXB)) ⟨_, rfl, .inl ⟨by rw [hFF]; show (1 : Nat) ≠ 9; decide, Below.refl _ _, by rw [hFF]; exact rfl⟩⟩
     ·intro a X9 hXB hL hd
      have q0 := hd 1 47 (by rw [hFF]; show (1 : Nat) ≠ 9; decide) (by kernel_rfl) (by kernel_rfl)
      rw [hFF] at hXB q0
      refine ⟨rfl, ?_⟩
      have e0 : a.eval (.tmp 47) = .pointer (some ⟨R.g, 0, none⟩) := q0
      exact wp_value (exec_nilCheck rfl e0) ⟨_, rfl, .inl ⟨by rw [hFF]; show (2 : Nat) ≠ 9; decide, Below.refl _ _, by rw [hFF]; exact rfl⟩⟩
     ·intro a X9 hXB hL hd
      have q0 := hd 2 48 (by rw [hFF]; show (2 : Nat) ≠ 9; decide) (by kernel_rfl) (by kernel_rfl)
      rw [hFF] at hXB q0
      refine ⟨rfl, ?_⟩
      have e0 : a.eval (.tmp 48) = .pointer (some ⟨R.g, 0, none⟩) := q0
      exact wp_value (exec_fieldAddr rfl e0 (FA6.out X9)) ⟨_, rfl, .inl ⟨by rw [hFF]; show (3 : Nat) ≠ 9; decide, Below.refl _ _, by rw [hFF]; exact rfl⟩⟩
     ·intro a X9 hXB hL hd
      have q0 := hd 3 49 (by rw [hFF]; show (3 : Nat) ≠ 9; decide) (by kernel_rfl) (by kernel_rfl)
      rw [hFF] at hXB q0
      refine ⟨rfl, ?_⟩
      have e0 : a.eval (.tmp 49) = .pointer (some ⟨R.g, 6, none⟩) := q0
      exact wp_value (exec_load rfl e0 (LDl.out X9 hXB)) ⟨_, rfl, .inl ⟨by rw [hFF]; show (4 : Nat) ≠ 9; decide, Below.refl _ _, by rw [hFF]; exact rfl⟩⟩
     ·intro a X9 hXB hL hd
      rw [hFF] at hXB
      refine ⟨rfl, ?_⟩
      have e0 : a.eval (.tmp 8) = .int .i32 (x : Nat) := hL.far 8 (by kernel_rfl)
      exact wp_value (exec_move rfl e0) ⟨_, rfl, .inl ⟨by rw [hFF]; show (5 : Nat) ≠ 9; decide, Below.refl _ _, by rw [hFF]; exact rfl⟩⟩
     ·intro a X9 hXB hL hd
      have q0 := hd 4 50 (by rw [hFF]; show (4 : Nat) ≠ 9; decide) (by kernel_rfl) (by kernel_rfl)
      have q1 := hd 5 51 (by rw [hFF]; show (5 : Nat) ≠ 9; decide) (by kernel_rfl) (by kernel_rfl)
      rw [hFF] at hXB q0 q1
      refine ⟨rfl, ?_⟩
      have e0 : a.eval (.tmp 50) = .map (some R.bl) := q0
      have e1 : a.eval (.tmp 51) = .int .i32 (x : Nat) := q1
      exact wp_value (exec_lookup rfl e0 e1 (LKl.out X9 hXB)) ⟨_, rfl, .inl ⟨by rw [hFF]; show (6 : Nat) ≠ 9; decide, Below.refl _ _, by rw [hFF]; exact rfl⟩⟩
     ·intro a X9 hXB hL hd
      have q0 := hd 0 46 (by rw [hFF]; show (0 : Nat) ≠ 9; decide) (by kernel_rfl) (by kernel_rfl)
      rw [hFF] at hXB q0
      refine ⟨rfl, ?_⟩
      have e0 : a.eval (.tmp 46) = .pointer (some ⟨R.g, 0, none⟩) := q0
      exact wp_value (exec_nilCheck rfl e0) ⟨_, rfl, .inl ⟨by rw [hFF]; show (7 : Nat) ≠ 9; decide, Below.refl _ _, by rw [hFF]; exact rfl⟩⟩
     ·intro a X9 hXB hL hd
      have q0 := hd 7 53 (by rw [hFF]; show (7 : Nat) ≠ 9; decide) (by kernel_rfl) (by kernel_rfl)
      rw [hFF] at hXB q0
      refine ⟨rfl, ?_⟩
      have e0 : a.eval (.tmp 53) = .pointer (some ⟨R.g, 0, none⟩) := q0
      exact wp_value (exec_fieldAddr rfl e0 (FA1.out X9)) ⟨_, rfl, .inl ⟨by rw [hFF]; show (8 : Nat) ≠ 9; decide, Below.refl _ _, by rw [hFF]; exact rfl⟩⟩
     ·intro a X9 hXB hL hd
      have q0 := hd 8 54 (by rw [hFF]; show (8 : Nat) ≠ 9; decide) (by kernel_rfl) (by kernel_rfl)
      have q1 := hd 6 52 (by rw [hFF]; show (6 : Nat) ≠ 9; decide) (by kernel_rfl) (by kernel_rfl)
      rw [hFF] at hXB q0 q1
      refine ⟨rfl, ?_⟩
      have e0 : a.eval (.tmp 54) = .pointer (some ⟨R.g, 1, none⟩) := q0
      have e1 : a.eval (.tmp 52) = .int .i64 (ln : Nat) := q1
      obtain ⟨hr9, hR9, hk9⟩ := STl.out X9 hXB
      refine wp_skipped (exec_store rfl e0 e1 hr9) ⟨undef, rfl, ?_⟩
      exact .inr ⟨by subst hFF; rfl, by rw [hFF]; exact hk9, by rw [hFF]; exact ⟨hR9, (Keep.of_all hXB).trans hk9⟩⟩
    intro a X9 hL hfin
    rw [hFF] at hfin
    obtain ⟨f, ha, hf⟩ := hL.out [46, 47, 48, 49, 50, 51, 52, 53, 54] rfl
    clear hf hL H0 HOK hFF
    simp only [List.foldl_cons, List.foldl_nil, List.setIfInBounds_toArray, List.set_cons_zero, List.set_cons_succ] at ha
    subst ha
    obtain ⟨hR5, hk5⟩ := hfin
    obtain ⟨W5, hW5⟩ : ∃ W5, X9 = W5 := ⟨_, rfl⟩
    rw [hW5] at hR5 hk5 ⊢
    have CE := Lib.hid (pended L (N + 1) W5 ρ m _ cv kv x hR5 (fun y9 h9 => (HLL.out.2.1 y9).2 h9) (fun y9 l9 h9 => by
     obtain ⟨_, h2, h3⟩ := HD.out.2.2.2.2.1.ds y9 l9 h9
     exact ⟨by omega, fun z hz => valid_le (h3 z hz)⟩) HX.out.2.2.2.2.2.1 (by
     have := unk_len L (ringL S (N + 1) (L.take i) fun _ => none)
     rw [HLL.out.2.2.2.1] at this
     show unk L (ringL S (N + 1) (L.take i) fun _ => none) < N + 1
     omega) hxv (by have := HX.out.2.2.2.2.2.2.1; show m + 2 * unk L (ringL S (N + 1) (L.take i) fun _ => none) ≤ _; omega))
    have z5 : W5.cell? ⟨H2, 0, none⟩ = some (.pointer (some ⟨R.g, 0, none⟩)) := hk5.cell z4 hRne.out.1
    have H5 := Lib.hid (And.intro hR5 hk5)
    clear hR5 hk5 hW5
    gi_wp2_with fail
    refine (callsIn_wide.2 CE.out).mono ?_
    rintro e W6 ⟨rfl, ⟨m', hR6, hm6⟩, hk6⟩
    obtain ⟨no, hno⟩ : ∃ no, endN (lenF S.ds (N + 1) (ringL S (N + 1) (L.take i) fun _ => none) x).1 = no := ⟨_, rfl⟩
    rw [hno]
    have z6 : W6.cell? ⟨H2, 0, none⟩ = some (.pointer (some ⟨R.g, 0, none⟩)) := hk6.cell z5 hRne.out.2.1
    have HK6 : Hid (Keep (fun b => b = R.g ∨ b = R.bn) W4 W6) := Lib.hid ((HX.out.2.2.2.2.2.2.2.trans (H5.out.2.weaken (fun b _ h => .inl h))).trans (hk6.weaken (fun b _ h => .inr h)))
    by_cases hno0 : no = 0
    ·have hno0' : (no : Int) = 0 := by omega
     have H6 := Lib.hid (And.intro hR6 (And.intro hm6 (And.intro hno hno0)))
     clear hR6 hm6 hno hno0 hk6
     gi_wp2
     go_roundw
     case rel =>
      obtain ⟨hR6, hm6, hno, hno0⟩ := H6.out
      obtain ⟨hx, hy, hln, hR, hrp, hle, hmu, hk⟩ := HX.out
      refine ⟨i + 1, by go_num, by omega, ln, m', ?_, ?_, ?_, ?_, HK6.out⟩
      ·rw [ringL_snoc hx]; exact hR6
      ·rw [ringP_snoc hx hrp, hno, hno0]; rfl
      ·rw [ringL_snoc hx]; exact (lenF_ok S.ds (N + 1) _ x hle).2.1
      ·rw [ringL_snoc hx]; exact Nat.le_trans hm6 hmu
     case measure => simp [RowKit.intOf]; omega
    ·have hno0' : ¬ (no : Int) = 0 := by omega
     have CF := Lib.hid (pfaultR W6 hR6 no)
     have hrc6 : ResC w.heap.size W6 := (HD.out.2.2.2.1.keep (X := fun _ => False) (Keep.of_all HLL.out.2.2.2.2) (fun h => h) (fun h => h)).keep HK6.out (fun h => by have := hRne.out; rcases h with h | h <;> omega) (fun h => by have := hRne.out; rcases h with h | h <;> omega)
     have y2 : W6.cell? ⟨w.heap.size, 0, none⟩ = some (.pointer none) := cell_one hrc6.1
     have y3 : W6.cell? ⟨w.heap.size + 1, 0, none⟩ = some .nilIface := cell_one hrc6.2
     have f2 : W6.frozen? ⟨w.heap.size, 0, none⟩ = false := frozen_one hrc6.1
     have f3 : W6.frozen? ⟨w.heap.size + 1, 0, none⟩ = false := frozen_one hrc6.2
     have H6 := Lib.hid (And.intro hrc6 (And.intro hno hno0))
     clear hR6 hm6 hno hno0 hk6 hrc6
     gi_wp2_with fail
     refine (callsIn_wide.2 CF.out).mono ?_
     rintro e V3 ⟨rfl, rfl⟩
     have HLP := Lib.hid hlp
     clear hlp
     gi_wp2
     obtain ⟨hrc6, hno, hno0⟩ := H6.out
     obtain ⟨hx, hy, hln, hR, hrp, hle, hmu, hk⟩ := HX.out
     obtain ⟨_, hrd, hro, hrc, hok, hlen, hbW, hDd, hD, hnn⟩ := HD.out
     have he : errP no ln = .iface 90 (.agg #[.int .i64 (no : Nat), .int .i64 (ln : Nat), .int .i64 0]) := by
      unfold errP
      rw [if_neg (by have := HLP.out; omega)]
     rw [← he]
     have hd3 : V3.heap[D]? = some (.deferred (some [])) := HK6.out.heap ((HLL.out.2.2.2.2.block D (Array.getElem?_eq_some_iff.1 hDd).1).trans hDd) (fun h => by have := hRne.out; rcases h with h | h <;> omega)
     have hb3 : Below w.heap.size w V3 := (hbW.trans (HLL.out.2.2.2.2.mono hbW.size)).trans (HK6.out.below (by have := hbW.size; have := HLL.out.2.2.2.2.size; omega) (fun b h => by have := hRne.out; rcases h with h | h <;> omega))
     refine ends_at (Ds := [D]) (by simp) rfl rfl (set_old (set_at hrc6.1) (by omega)) (set_at (set_old hrc6.2 (by omega))) (fun D' h => by simp at h; subst h; exact set_old (set_old hd3 (by omega)) (by omega)) (fun W' hk9 => ?_)
     have hrb := ringP_bad hx hrp hno hno0
     rw [hln] at hrb
     refine ⟨no, ln, S, L, .inr (.inr ⟨by rw [HNL.out]; exact HB.out.1, by rw [hrd], by rw [hrd], HLL.out.1, HLL.out.2.1, by rw [HLL.out.2.2.2.1, hrb], by rw [HLL.out.2.2.2.1, hrb]; rfl⟩), ?_, .inr ⟨hno0, rfl⟩⟩
     have k2 : Keep (fun b => b = w.heap.size ∨ b = w.heap.size + 1) V3 ((V3.setCell ⟨w.heap.size, 0, none⟩ (.pointer none)).setCell ⟨w.heap.size + 1, 0, none⟩ (errP no ln)) :=
      Keep.setCell (X := fun b => b = w.heap.size ∨ b = w.heap.size + 1) (p := ⟨w.heap.size + 1, 0, none⟩) (Keep.setCell (X := fun b => b = w.heap.size ∨ b = w.heap.size + 1) (p := ⟨w.heap.size, 0, none⟩) (Keep.refl _ _) (.inl rfl) _) (.inr rfl) _
     exact (hb3.trans (k2.below hb3.size (fun b h => by omega))).trans (hk9.below (by have := hb3.size; have := k2.size; omega) (fun b h => by simp at h; omega))
   ·have hiN : i = N := by omega
    subst hiN
    have HX := Lib.hid (And.intro hR (And.intro hrp (And.intro hle (And.intro hmu hk))))
    clear hR hrp hle hmu hk
    have CPR := Lib.hid (pprops wr HX.out.1 (show RdOk nn { S with le := _ } from ⟨HD.out.2.2.2.2.1.cs, HD.out.2.2.2.2.1.ks, HD.out.2.2.2.2.1.ds, HD.out.2.2.2.2.1.fs, HD.out.2.2.2.2.1.ls⟩) HD.out.2.2.2.2.2.1 (by have := HD.out.2.2.2.2.2.1; omega))
    gi_wp2_with fail
    refine (callsIn_wide.2 CPR.out).mono ?_
    rintro e W7 ⟨g, L', rfl, hp', hm', hPW, hb7⟩
    have hLL : L' = L := rise_eq hp' HLL.out.1 (fun y => (hm' y).trans (HLL.out.2.1 y).symm)
    subst hLL
    have hPW2 := hPW.le
    have hk7 : Keep (fun b => b = R.g ∨ b = R.bn) W4 W7 := HX.out.2.2.2.2.trans (Keep.of_all hb7)
    have hrc7 : ResC w.heap.size W7 := (HD.out.2.2.2.1.keep (X := fun _ => False) (Keep.of_all HLL.out.2.2.2.2) (fun h => h) (fun h => h)).keep hk7 (fun h => by have := hRne.out; rcases h with h | h <;> omega) (fun h => by have := hRne.out; rcases h with h | h <;> omega)
    have y2 : W7.cell? ⟨w.heap.size, 0, none⟩ = some (.pointer none) := cell_one hrc7.1
    have y3 : W7.cell? ⟨w.heap.size + 1, 0, none⟩ = some .nilIface := cell_one hrc7.2
    have f2 : W7.frozen? ⟨w.heap.size, 0, none⟩ = false := frozen_one hrc7.1
    have f3 : W7.frozen? ⟨w.heap.size + 1, 0, none⟩ = false := frozen_one hrc7.2
    have H7 := Lib.hid (And.intro hPW2 (And.intro hk7 hrc7))
    clear hp' hm' hPW hb7 hPW2 hk7 hrc7
    gi_wp2
    obtain ⟨hPW2, hk7, hrc7⟩ := H7.out
    obtain ⟨_, hrd, hro, hrc, hok, hlen, hbW, hDd, hD, hnn⟩ := HD.out
    have hd3 : W7.heap[D]? = some (.deferred (some [])) := hk7.heap ((HLL.out.2.2.2.2.block D (Array.getElem?_eq_some_iff.1 hDd).1).trans hDd) (fun h => by have := hRne.out; rcases h with h | h <;> omega)
    have hb3 : Below w.heap.size w W7 := (hbW.trans (HLL.out.2.2.2.2.mono hbW.size)).trans (hk7.below (by have := hbW.size; have := HLL.out.2.2.2.2.size; omega) (fun b h => by have := hRne.out; rcases h with h | h <;> omega))
    refine ends_at (Ds := [D]) (by simp) rfl rfl (set_old (set_at hrc7.1) (by omega)) (set_at (set_old hrc7.2 (by omega))) (fun D' h => by simp at h; subst h; exact set_old (set_old hd3 (by omega)) (by omega)) (fun W' hk9 => ?_)
    have ht : L'.take i = L' := by rw [← HLL.out.2.2.2.1]; exact List.take_length
    have hrb := HX.out.2.1
    rw [ht] at hrb
    have k2 : Keep (fun b => b = w.heap.size ∨ b = w.heap.size + 1 ∨ b = D) W7 ((W7.setCell ⟨w.heap.size, 0, none⟩ (.pointer (some ⟨g, 0, none⟩))).setCell ⟨w.heap.size + 1, 0, none⟩ .nilIface) :=
     Keep.setCell (X := fun b => b = w.heap.size ∨ b = w.heap.size + 1 ∨ b = D) (p := ⟨w.heap.size + 1, 0, none⟩) (Keep.setCell (X := fun b => b = w.heap.size ∨ b = w.heap.size + 1 ∨ b = D) (p := ⟨w.heap.size, 0, none⟩) (Keep.refl _ _) (.inl rfl) _) (.inr (.inl rfl)) _
    have k3 := k2.trans (hk9.weaken (fun b _ h => by simp at h; exact .inr (.inr h)))
    have hrl : (ringP S (i + 1) L' fun _ => none).2 = (ringP S (i + 1) L' fun _ => none).2 := rfl
    refine ⟨0, (ringP S (L'.length + 1) L' fun _ => none).2, S, L', .inr (.inr ⟨by rw [HNL.out]; exact HB.out.1, by rw [hrd], by rw [hrd], HLL.out.1, HLL.out.2.1, by rw [HLL.out.2.2.2.1]; exact hrb.symm, rfl⟩), hb3.trans (k3.below hb3.size (fun b h => by omega)), .inl ⟨rfl, g, rfl, hPW2.alien k3 (fun b hb => ?_)⟩⟩
    rcases hb with rfl | rfl | rfl
    ·exact alien_one hrc7.1 (by decide) (fun _ _ h => by cases h)
    ·exact alien_one hrc7.2 (by decide) (fun _ _ h => by cases h)
    ·exact alien_def hd3
end Go.Proofs.YthhepebkfokddaaGreatDoor
