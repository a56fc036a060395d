/- Parts of the proof of what the last text says. -/
import Derived.Test.YtlfdpdlhppgakaaGreatDoorQs8
import Derived.Test.YtlfdpdlhppgakaaGreatDoorQs1
import Derived.Deep.RegionHeldLaw
import Derived.Deep.QuietTactic
import Derived.BigQuiet
import Derived.Test.YtlfdpdlhppgakaaGreatDoorQs3
import Derived.Laws.OwnMore
import Derived.Test.YtlfdpdlhppgakaaGreatDoorQs7
import Derived.Test.YtlfdpdlhppgakaaGreatDoorCards
import Derived.Test.YtlfdpdlhppgakaaGreatDoorQs6
/- The document's answer for scan: One: the walk. -/
namespace Go.Proofs.YtlfdpdlhppgakaaGreatDoor
open Go Go.RowKit Go.Kt Go.Kt.Rg Go.Shelf Go.Lib
attribute [local go_sem] Oper.semAt_some

theorem results_cell4 {P : Program} {fn : Func} {p a b c : Tmp} {ty : TypeId} (h : fn.results = #[.cell p ty, .tmp a, .tmp b, .tmp c]) (tmps : Array Value) (w : World) (g : Nat) (t : TypeId) (cs : Array Value) (fr : Nat × Nat) (d : TypeDesc)
    (hp : tmps.getD p undef = .pointer (some ⟨g, 0, none⟩)) (hg : w.heap[g]? = some (.cells cs t fr))
    (hu : P.underlying ty = some d) (hd : (match d with | .struct _ | .array _ _ => true | _ => false) = true) (hi : (P.info? ty).map (·.size) = some cs.size) :
    (results fn tmps).run P w = .ok (.tuple #[.agg cs, tmps.getD a undef, tmps.getD b undef, tmps.getD c undef]) w := by
  have hp' : tmps[p]?.getD undef = .pointer (some ⟨g, 0, none⟩) := by simpa using hp
  simp [results, h, hp', asAddr, run_loadVar_row w g t ty cs fr d hg hu hd hi]

/-- What One answers. -/
def oneO (o : X1) (l c p : Nat) (e : Ending) : Prop := match o with
  | .fin => e = .returned (.tuple #[tkA 0 ⟨#[]⟩ (l : Nat) (c : Nat) (p : Nat), .int .i64 (p : Nat), .int .i64 0, .int .i64 0])
  | .tok k x next => ∃ a : Int, e = .returned (.tuple #[tkA (k : Nat) ⟨x.toArray⟩ (l : Nat) (c : Nat) (p : Nat), .int .i64 (next : Nat), .int .i64 0, .int .i64 a])
  | .bad no j => ∃ k a : Int, e = .returned (.tuple #[tkA k ⟨#[]⟩ (l : Nat) (c : Nat) (p : Nat), .int .i64 a, .int .i64 (no : Nat), .int .i64 (j : Nat)])
/-- The result's block n, and the token's, behind it. -/
def Two (w V : World) (n : Nat) (k : Int) (t : ByteArray) (l c p : Int) : Prop :=
  V.heap[n]? = some (.cells (tkX 0 ⟨#[]⟩ 0 0 0) 39 (0, 0)) ∧ V.heap[n + 1]? = some (.cells (tkX k t l c p) 39 (0, 0)) ∧ Below n w V
theorem Two.below {w V V' : World} {n : Nat} {k : Int} {t : ByteArray} {l c p : Int} (h : Two w V n k t l c p) (hb : Below V.heap.size V V') : Two w V' n k t l c p := by
  obtain ⟨h1, h2, h3⟩ := h
  have l1 := (Array.getElem?_eq_some_iff.1 h1).1
  have l2 := (Array.getElem?_eq_some_iff.1 h2).1
  exact ⟨(hb.block n l1).trans h1, (hb.block (n + 1) l2).trans h2, h3.trans (hb.mono (by omega))⟩
theorem Two.kind {w V : World} {n : Nat} {k : Int} {t : ByteArray} {l c p : Int} (h : Two w V n k t l c p) (k2 : Int) : Two w (V.setCell ⟨n + 1, 0, none⟩ (.int .i64 k2)) n k2 t l c p :=
  ⟨(setc_other (by omega)).trans h.1, set_0 k2 h.2.1, h.2.2.trans ((Below.refl n V).setCell (p := ⟨n + 1, 0, none⟩) (by simp only; omega) _)⟩
theorem Two.text {w V : World} {n : Nat} {k : Int} {t : ByteArray} {l c p : Int} (h : Two w V n k t l c p) (t2 : ByteArray) : Two w (V.setCell ⟨n + 1, 1, none⟩ (.string t2)) n k t2 l c p :=
  ⟨(setc_other (by omega)).trans h.1, set_t t2 h.2.1, h.2.2.trans ((Below.refl n V).setCell (p := ⟨n + 1, 1, none⟩) (by simp only; omega) _)⟩
theorem Two.fr0 {w V : World} {n : Nat} {k : Int} {t : ByteArray} {l c p : Int} (h : Two w V n k t l c p) : V.frozen? ⟨n + 1, 0, none⟩ = false ∧ V.frozen? ⟨n + 1, 1, none⟩ = false := ⟨frozen_at5 h.2.1, frozen_at5 h.2.1⟩
/-- The last store: what is told lies in the result's block. -/
theorem Two.out {w V : World} {n : Nat} {k : Int} {t : ByteArray} {l c p : Int} (h : Two w V n k t l c p) :
    ∃ V', (Instr.storeAt 39 (.pointer (some ⟨n, 0, none⟩)) (tkA k t l c p)).run Tryz.prog V = .ok () V' ∧ V'.heap[n]? = some (.cells (tkX k t l c p) 39 (0, 0)) ∧ Below n w V' :=
  ⟨_, store_new V n _ _ _ _ _ k t l c p h.1, set5_at k t l c p h.1, h.2.2.trans (set5_below (Nat.le_refl _) k t l c p)⟩

set_option maxRecDepth 100000 in
set_option maxHeartbeats 4000000 in
theorem xone_any (s : ByteArray) (n0 l c p : Nat) (w : World) (hs : s.size ≤ 1048576) (hp : plN s n0 = (l, c, p)) (hpz : p ≤ s.size) :
    Calls Tryz.prog 22 #[.string s, .int .i64 (p : Nat)] w fun e w' => oneO (xoneV s p) l c p e ∧ Below w.heap.size w w' := by
  have CP := Lib.hid (fun V => xplace_any s n0 l c p V (by omega) hp)
  clear hp
  obtain ⟨n, hn⟩ : ∃ n, w.heap.size = n := ⟨_, rfl⟩
  obtain ⟨W0, hW0⟩ : ∃ W0, w.alloc (.cells (tkX 0 ⟨#[]⟩ 0 0 0) 39) = W0 := ⟨_, rfl⟩
  obtain ⟨W1, hW1⟩ : ∃ W1, W0.alloc (.cells (tkX 0 ⟨#[]⟩ 0 0 0) 39) = W1 := ⟨_, rfl⟩
  have z0 : W0.heap.size = n + 1 := by rw [← hW0, asz, hn]
  have a0 : W0.heap[n]? = some (.cells (tkX 0 ⟨#[]⟩ 0 0 0) 39 (0, 0)) := by rw [← hW0, ← hn]; exact World.alloc_heap_new w _
  have b1 : W1.heap[n + 1]? = some (.cells (tkX 0 ⟨#[]⟩ 0 0 0) 39 (0, 0)) := by rw [← hW1, ← z0]; exact World.alloc_heap_new W0 _
  have hb0 : Below n w W0 := by rw [← hW0]; exact (Below.refl n w).alloc (by omega) _
  have hb1 : Below (n + 1) W0 W1 := by rw [← hW1]; exact (Below.refl (n + 1) W0).alloc (by omega) _
  have b0 : W1.heap[n]? = some (.cells (tkX 0 ⟨#[]⟩ 0 0 0) 39 (0, 0)) := (hb1.block n (by omega)).trans a0
  have st0 := store_new W1 (n + 1) _ _ _ _ _ 0 ⟨#[]⟩ (l : Nat) (c : Nat) (p : Nat) b1
  have T2 : Two w (set5 W1 (n + 1) 0 ⟨#[]⟩ (l : Nat) (c : Nat) (p : Nat)) n 0 ⟨#[]⟩ (l : Nat) (c : Nat) (p : Nat) := ⟨(set5_block (Nat.lt_succ_self n) (by have := (Array.getElem?_eq_some_iff.1 b0).1; exact this) 0 ⟨#[]⟩ (l : Nat) (c : Nat) (p : Nat)).trans b0, set5_at 0 ⟨#[]⟩ (l : Nat) (c : Nat) (p : Nat) b1, (hb0.trans (hb1.mono (Nat.le_succ n))).trans (set5_below (Nat.le_succ n) 0 ⟨#[]⟩ (l : Nat) (c : Nat) (p : Nat))⟩
  obtain ⟨W2, hW2⟩ : ∃ W2, set5 W1 (n + 1) 0 ⟨#[]⟩ (l : Nat) (c : Nat) (p : Nat) = W2 := ⟨_, rfl⟩
  rw [hW2] at st0 T2
  have ST0 := Lib.hid st0
  clear hW2 st0 b1 b0 hb0 hb1 a0
  rw [hn]
  by_cases hps : p < s.size
  · have hlt : ((p : Int) == (s.size : Int)) = false := by simp; omega
    have HI : ∀ w, (Instr.index 9 (.string s) (.int .i64 (p : Nat))).run Tryz.prog w = .ok (.int .u8 (bAt s p)) w := fun w => run_bAt s p hps w
    by_cases h93 : B s p = 93
    · have hx : xoneV s p = .bad 25 p := by unfold xoneV; rw [if_pos hps, if_pos h93]
      have hb : bAt s p = 93 := by rw [bAt_B, h93]; rfl
      rw [hx]
      rw [hb] at HI
      clear hx hb h93
      obtain ⟨V', hst, hv, hbv⟩ := T2.out
      obtain ⟨q0, q1, q2, q3, q4⟩ := cells5 T2.2.1
      have ST4 := Lib.hid hst
      have HV := Lib.hid (And.intro hv hbv)
      clear hst hv hbv T2
      go_enter Tryz.func22, Tryz.ntmps22
      go_wp2_with (first | (go_at_call 24; refine (CP.out _).mono ?_; clear CP; rintro e w1 ⟨rfl, rfl⟩) | (refine wpList_store_eq rfl rfl rfl rfl rfl ST0.out ?_; clear ST0) | (refine wpList_store_eq rfl rfl rfl rfl rfl ST4.out ?_; clear ST4))
      (try simp only [Exit.inBlock, Exit.then])
      refine bodyPost_ret (results_cell4 rfl _ _ n 39 (tkX 0 ⟨#[]⟩ (l : Nat) (c : Nat) (p : Nat)) (0, 0) _ rfl HV.out.1 Tryz.underlying39 rfl (by kernel_rfl)) rfl ?_
      exact ⟨⟨_, _, rfl⟩, HV.out.2⟩
    have n93 : (bAt s p == 93) = false := by rw [bAt_B]; simp; omega
    by_cases h42 : B s p = 42
    · have hx : xoneV s p = .bad 4 p := by unfold xoneV; rw [if_pos hps, if_neg h93, if_pos h42]
      have hb : bAt s p = 42 := by rw [bAt_B, h42]; rfl
      rw [hx]
      rw [hb] at HI
      clear hx hb h93 h42 n93
      obtain ⟨V', hst, hv, hbv⟩ := T2.out
      obtain ⟨q0, q1, q2, q3, q4⟩ := cells5 T2.2.1
      have ST4 := Lib.hid hst
      have HV := Lib.hid (And.intro hv hbv)
      clear hst hv hbv T2
      go_enter Tryz.func22, Tryz.ntmps22
      go_wp2_with (first | (go_at_call 24; refine (CP.out _).mono ?_; clear CP; rintro e w1 ⟨rfl, rfl⟩) | (refine wpList_store_eq rfl rfl rfl rfl rfl ST0.out ?_; clear ST0) | (refine wpList_store_eq rfl rfl rfl rfl rfl ST4.out ?_; clear ST4))
      (try simp only [Exit.inBlock, Exit.then])
      refine bodyPost_ret (results_cell4 rfl _ _ n 39 (tkX 0 ⟨#[]⟩ (l : Nat) (c : Nat) (p : Nat)) (0, 0) _ rfl HV.out.1 Tryz.underlying39 rfl (by kernel_rfl)) rfl ?_
      exact ⟨⟨_, _, rfl⟩, HV.out.2⟩
    have n42 : (bAt s p == 42) = false := by rw [bAt_B]; simp; omega
    by_cases h91 : B s p = 91
    · have hb : bAt s p = 91 := by rw [bAt_B, h91]; rfl
      rw [hb] at HI
      clear n93 n42
      have CF : Hid (∀ V, Calls Tryz.prog 39 #[.string s, .int .i64 (p : Nat), .int .u8 93] V fun e w' => e = .returned (.int .i64 (xfindI s (93 : Nat) p)) ∧ V = w') := Lib.hid fun V => xfind_any s p 93 V (by omega) hpz
      rcases xfindI_spec s 93 p hpz with ⟨e1, h1⟩ | ⟨j, e1, h1, h2, h3, h4⟩
      · have hx : xoneV s p = .bad 25 p := by unfold xoneV; rw [if_pos hps, if_neg h93, if_neg h42, if_pos h91, if_pos (by rw [e1]; decide)]
        rw [hx]
        rw [e1] at CF
        clear hx e1 h1 h93 h42 h91 hb
        obtain ⟨V', hst, hv, hbv⟩ := T2.out
        obtain ⟨q0, q1, q2, q3, q4⟩ := cells5 T2.2.1
        have ST4 := Lib.hid hst
        have HV := Lib.hid (And.intro hv hbv)
        clear hst hv hbv T2
        go_enter Tryz.func22, Tryz.ntmps22
        go_wp2_with (first | (go_at_call 24; refine (CP.out _).mono ?_; clear CP; rintro e w1 ⟨rfl, rfl⟩) | (refine wpList_store_eq rfl rfl rfl rfl rfl ST0.out ?_; clear ST0) | (go_at_call 39; refine (CF.out _).mono ?_; clear CF; rintro e w1 ⟨rfl, rfl⟩) | (refine wpList_store_eq rfl rfl rfl rfl rfl ST4.out ?_; clear ST4))
        (try simp only [Exit.inBlock, Exit.then])
        refine bodyPost_ret (results_cell4 rfl _ _ n 39 (tkX 0 ⟨#[]⟩ (l : Nat) (c : Nat) (p : Nat)) (0, 0) _ rfl HV.out.1 Tryz.underlying39 rfl (by kernel_rfl)) rfl ?_
        exact ⟨⟨_, _, rfl⟩, HV.out.2⟩
      · have hx : xoneV s p = .tok 3 (evnV (s.extract (p + 1) j)) (j + 1) := by unfold xoneV; rw [if_pos hps, if_neg h93, if_neg h42, if_pos h91, if_neg (by rw [e1]; omega), e1, Int.toNat_natCast]
        rw [hx]
        rw [e1] at CF
        have hpj : p + 1 ≤ j := by
          rcases Nat.lt_or_ge p j with h | h
          · exact h
          · obtain rfl : j = p := by omega
            omega
        have hj0 : ¬ (j : Int) < 0 := by omega
        have hj1 : (p : Int) + 1 ≤ (j : Nat) := by omega
        have hj2 : (j : Int) ≤ (s.size : Nat) := by omega
        have hp1 : ((p : Int) + 1).toNat = p + 1 := by omega
        have CS : Hid (∀ V, Calls Tryz.prog 40 #[.string (s.extract (p + 1) j)] V fun e w' => e = .returned (.string ⟨(evnV (s.extract (p + 1) j)).toArray⟩) ∧ Below V.heap.size V w') := Lib.hid fun V => xspaced_any (s.extract (p + 1) j) V (by rw [ByteArray.size_extract]; omega)
        generalize evnV (s.extract (p + 1) j) = X at *
        have T3 := T2.kind 3
        obtain ⟨f0, -⟩ := T2.fr0
        obtain ⟨q0, -, -, -, -⟩ := cells5 T2.2.1
        obtain ⟨W3, hW3⟩ : ∃ W3, W2.setCell ⟨n + 1, 0, none⟩ (.int .i64 3) = W3 := ⟨_, rfl⟩
        rw [hW3] at T3
        have OPT : ∀ w4, Below W3.heap.size W3 w4 → w4.frozen? ⟨n + 1, 1, none⟩ = false ∧ w4.cell? ⟨n + 1, 1, none⟩ = some (.string ⟨#[]⟩) ∧ ∃ W5, w4.setCell ⟨n + 1, 1, none⟩ (.string ⟨X.toArray⟩) = W5 ∧ Two w W5 n 3 ⟨X.toArray⟩ (l : Nat) (c : Nat) (p : Nat) := fun w4 h => by
          have T4 := T3.below h
          exact ⟨T4.fr0.2, (cells5 T4.2.1).2.1, _, rfl, T4.text _⟩
        have HOP := Lib.hid OPT
        clear OPT T2 T3 hx e1 h1 h2 h3 h4 h93 h42 h91 hb hpj
        go_enter Tryz.func22, Tryz.ntmps22
        go_wp2_with (first | (go_at_call 24; refine (CP.out _).mono ?_; clear CP; rintro e w1 ⟨rfl, rfl⟩) | (refine wpList_store_eq rfl rfl rfl rfl rfl ST0.out ?_; clear ST0) | (go_at_call 39; refine (CF.out _).mono ?_; clear CF; rintro e w1 ⟨rfl, rfl⟩) | (go_at_call 40; refine (CS.out _).mono ?_; clear CS; rintro e w4 ⟨rfl, hb4⟩; obtain ⟨f1, q1, W5, hW5, T5⟩ := HOP.out w4 hb4; obtain ⟨V', hst, hv, hbv⟩ := T5.out; obtain ⟨p0, p1, p2, p3, p4⟩ := cells5 T5.2.1; have ST4 := Lib.hid hst; have HV := Lib.hid (And.intro hv hbv); clear hst hv hbv T5 hb4 HOP) | (refine wpList_store_eq rfl rfl rfl rfl rfl ST4.out ?_; clear ST4))
        (try simp only [Exit.inBlock, Exit.then])
        refine bodyPost_ret (results_cell4 rfl _ _ n 39 (tkX 3 ⟨X.toArray⟩ (l : Nat) (c : Nat) (p : Nat)) (0, 0) _ rfl HV.out.1 Tryz.underlying39 rfl (by kernel_rfl)) rfl ?_
        exact ⟨⟨_, rfl⟩, HV.out.2⟩
    have n91 : (bAt s p == 91) = false := by rw [bAt_B]; simp; omega
    generalize hbb : bAt s p = b at *
    clear hbb
    have CG := Lib.hid (fun V => xsign_any s p V (by omega) hpz)
    by_cases hsg : sgnN s p ≠ 0
    · have hx : xoneV s p = .tok 2 (seg s p (p + sgnN s p)) (p + sgnN s p) := by unfold xoneV; rw [if_pos hps, if_neg h93, if_neg h42, if_neg h91, if_pos hsg]
      rw [hx]
      have hsz := (sgn_stop s p hsg).1
      have hln : (seg s p (p + sgnN s p)).length = sgnN s p := by rw [seg_len s _ _ (by omega) hsz]; omega
      obtain ⟨nx, hnx⟩ : ∃ nx, p + sgnN s p = nx := ⟨_, rfl⟩
      rw [hnx] at hln hsz CG ⊢
      generalize seg s p nx = X at *
      have hX : X ≠ [] := fun h => by rw [h] at hln; exact hsg hln.symm
      have hXs : (⟨X.toArray⟩ : ByteArray).size = X.length := by rw [Lib.size_eq]
      have hXe : X.isEmpty = false := by cases X with | nil => exact absurd rfl hX | cons a t => rfl
      have OPT : ∀ w4, Below W2.heap.size W2 w4 → w4.frozen? ⟨n + 1, 1, none⟩ = false ∧ w4.cell? ⟨n + 1, 1, none⟩ = some (.string ⟨#[]⟩) ∧ ∃ W5, w4.setCell ⟨n + 1, 1, none⟩ (.string ⟨X.toArray⟩) = W5 ∧ W5.frozen? ⟨n + 1, 0, none⟩ = false ∧ W5.cell? ⟨n + 1, 0, none⟩ = some (.int .i64 0) ∧ W5.cell? ⟨n + 1, 1, none⟩ = some (.string ⟨X.toArray⟩) ∧ ∃ W6, W5.setCell ⟨n + 1, 0, none⟩ (.int .i64 2) = W6 ∧ Two w W6 n 2 ⟨X.toArray⟩ (l : Nat) (c : Nat) (p : Nat) := fun w4 h => by
        have T4 := T2.below h
        have T5 := T4.text ⟨X.toArray⟩
        exact ⟨T4.fr0.2, (cells5 T4.2.1).2.1, _, rfl, T5.fr0.1, (cells5 T5.2.1).1, (cells5 T5.2.1).2.1, _, rfl, T5.kind 2⟩
      have HOP := Lib.hid OPT
      have HLN : Hid (p + X.length = nx ∧ nx ≤ s.size) := Lib.hid ⟨by rw [hln]; exact hnx, hsz⟩
      clear OPT T2 hx h93 h42 h91 hsg hln hnx hsz
      go_enter Tryz.func22, Tryz.ntmps22
      go_wp2_with (first | (go_at_call 24; refine (CP.out _).mono ?_; clear CP; rintro e w1 ⟨rfl, rfl⟩) | (refine wpList_store_eq rfl rfl rfl rfl rfl ST0.out ?_; clear ST0) | (go_at_call 41; refine (CG.out _).mono ?_; clear CG; rintro e w4 ⟨rfl, hb4⟩; obtain ⟨f1, q1, W5, hW5, f2, q2, q3, W6, hW6, T6⟩ := HOP.out w4 hb4; have HT6 := Lib.hid T6; clear T6 hb4 HOP))
      obtain ⟨h0, p0, hb6⟩ := HT6.out
      obtain ⟨p0, p1, p2, p3, p4⟩ := cells5 p0
      have h1 := setc_at (i := 0) (u := .int .i64 2) h0
      have h2 := setc_at (i := 1) (u := .string ⟨X.toArray⟩) h1
      have h3 := setc_at (i := 2) (u := .int .i64 (l : Nat)) h2
      have h4 := setc_at (i := 3) (u := .int .i64 (c : Nat)) h3
      have r0 := cell_at5 h0 (i := 0) rfl
      have r1 := cell_at5 h1 (i := 1) rfl
      have r2 := cell_at5 h2 (i := 2) rfl
      have r3 := cell_at5 h3 (i := 3) rfl
      have r4 := cell_at5 h4 (i := 4) rfl
      have g0 := frozen_at5 h0 (i := 0)
      have g1 := frozen_at5 h1 (i := 1)
      have g2 := frozen_at5 h2 (i := 2)
      have g3 := frozen_at5 h3 (i := 3)
      have g4 := frozen_at5 h4 (i := 4)
      have hv := set5_at 2 ⟨X.toArray⟩ (l : Nat) (c : Nat) (p : Nat) h0
      have hbv := hb6.trans (set5_below (V := W6) (Nat.le_refl n) 2 ⟨X.toArray⟩ (l : Nat) (c : Nat) (p : Nat))
      unfold set5 at hv hbv
      have hv1 : (((((W6.setCell ⟨n, 0, none⟩ (.int .i64 2)).setCell ⟨n, 1, none⟩ (.string ⟨X.toArray⟩)).setCell ⟨n, 2, none⟩ (.int .i64 (l : Nat))).setCell ⟨n, 3, none⟩ (.int .i64 (c : Nat))).setCell ⟨n, 4, none⟩ (.int .i64 (p : Nat))).cell? ⟨n + 1, 1, none⟩ = some (.string ⟨X.toArray⟩) := by
        have hq : (((((W6.setCell ⟨n, 0, none⟩ (.int .i64 2)).setCell ⟨n, 1, none⟩ (.string ⟨X.toArray⟩)).setCell ⟨n, 2, none⟩ (.int .i64 (l : Nat))).setCell ⟨n, 3, none⟩ (.int .i64 (c : Nat))).setCell ⟨n, 4, none⟩ (.int .i64 (p : Nat))).heap[n + 1]? = W6.heap[n + 1]? := by
          rw [setc_other (by omega), setc_other (by omega), setc_other (by omega), setc_other (by omega), setc_other (by omega)]
        exact (cells5 (hq.trans HT6.out.2.1)).2.1
      have HV := Lib.hid (And.intro hv hbv)
      clear hv hbv h0 h1 h2 h3 h4 hb6
      go_region
      all_goals
        rw [show wrap64 ((p : Int) + (X.length : Nat)) = ((nx : Nat) : Int) by unfold wrap64; have := HLN.out; omega]
        go_wp2
        (try simp only [Exit.inBlock, Exit.then])
        refine bodyPost_ret (results_cell4 rfl _ _ n 39 (tkX 2 ⟨X.toArray⟩ (l : Nat) (c : Nat) (p : Nat)) (0, 0) _ rfl HV.out.1 Tryz.underlying39 rfl (by kernel_rfl)) rfl ?_
        exact ⟨⟨_, rfl⟩, HV.out.2.trans (below_drewN (Below.refl _ _) 1)⟩
    · have h0 : sgnN s p = 0 := by omega
      rw [h0, Nat.add_zero, seg_none] at CG
      have CT := Lib.hid (fun V => xtext_any s p V hs hpz)
      have hx : xoneV s p = (match xtextV s p with | .ok x next => X1.tok 1 x next | .bad no i => X1.bad no i) := by unfold xoneV; rw [if_pos hps, if_neg h93, if_neg h42, if_neg h91, if_neg hsg]; cases xtextV s p <;> rfl
      rw [hx]
      have OPT : ∀ w4, Below W2.heap.size W2 w4 → w4.frozen? ⟨n + 1, 1, none⟩ = false ∧ w4.cell? ⟨n + 1, 1, none⟩ = some (.string ⟨#[]⟩) ∧ ∃ W5, w4.setCell ⟨n + 1, 1, none⟩ (.string ⟨#[]⟩) = W5 ∧ W5.frozen? ⟨n + 1, 0, none⟩ = false ∧ W5.cell? ⟨n + 1, 0, none⟩ = some (.int .i64 0) ∧ W5.cell? ⟨n + 1, 1, none⟩ = some (.string ⟨#[]⟩) ∧ 
          ∀ Y w7, Below (W5.setCell ⟨n + 1, 0, none⟩ (.int .i64 1)).heap.size (W5.setCell ⟨n + 1, 0, none⟩ (.int .i64 1)) w7 → w7.frozen? ⟨n + 1, 1, none⟩ = false ∧ w7.cell? ⟨n + 1, 1, none⟩ = some (.string ⟨#[]⟩) ∧ ∃ W8, w7.setCell ⟨n + 1, 1, none⟩ (.string Y) = W8 ∧ Two w W8 n 1 Y (l : Nat) (c : Nat) (p : Nat) := fun w4 h => by
        have T4 := T2.below h
        have T5 := T4.text ⟨#[]⟩
        have T6 := T5.kind 1
        refine ⟨T4.fr0.2, (cells5 T4.2.1).2.1, _, rfl, T5.fr0.1, (cells5 T5.2.1).1, (cells5 T5.2.1).2.1, fun Y w7 h7 => ?_⟩
        have T7 := T6.below h7
        exact ⟨T7.fr0.2, (cells5 T7.2.1).2.1, _, rfl, T7.text Y⟩
      have HOP := Lib.hid OPT
      cases hxt : xtextV s p with
      | ok x next =>
        rw [hxt] at CT
        clear OPT T2 hx h93 h42 h91 hsg h0 hxt
        go_enter Tryz.func22, Tryz.ntmps22
        go_wp2_with (first | (go_at_call 24; refine (CP.out _).mono ?_; clear CP; rintro e w1 ⟨rfl, rfl⟩) | (refine wpList_store_eq rfl rfl rfl rfl rfl ST0.out ?_; clear ST0) | (go_at_call 41; refine (CG.out _).mono ?_; clear CG; rintro e w4 ⟨rfl, hb4⟩; obtain ⟨f1, q1, W5, hW5, f2, q2, q3, hT⟩ := HOP.out w4 hb4; have HT := Lib.hid hT; clear hT hb4 HOP) | fail)
        refine (CT.out _).mono ?_
        clear CT
        rintro e w7 ⟨he, hb7⟩
        have he2 : e = _ := he
        subst he2
        obtain ⟨f7, q7, W8, hW8, T8⟩ := HT.out ⟨x.toArray⟩ w7 hb7
        obtain ⟨V', hst, hv, hbv⟩ := T8.out
        obtain ⟨p0, p1, p2, p3, p4⟩ := cells5 T8.2.1
        have ST4 := Lib.hid hst
        have HV := Lib.hid (And.intro hv hbv)
        clear hst hv hbv T8 HT
        go_wp2_with (refine wpList_store_eq rfl rfl rfl rfl rfl ST4.out ?_; clear ST4)
        (try simp only [Exit.inBlock, Exit.then])
        refine bodyPost_ret (results_cell4 rfl _ _ n 39 (tkX 1 ⟨x.toArray⟩ (l : Nat) (c : Nat) (p : Nat)) (0, 0) _ rfl HV.out.1 Tryz.underlying39 rfl (by kernel_rfl)) rfl ?_
        exact ⟨⟨_, rfl⟩, HV.out.2⟩
      | bad no j =>
        rw [hxt] at CT
        clear OPT T2 hx h93 h42 h91 hsg h0 hxt
        go_enter Tryz.func22, Tryz.ntmps22
        go_wp2_with (first | (go_at_call 24; refine (CP.out _).mono ?_; clear CP; rintro e w1 ⟨rfl, rfl⟩) | (refine wpList_store_eq rfl rfl rfl rfl rfl ST0.out ?_; clear ST0) | (go_at_call 41; refine (CG.out _).mono ?_; clear CG; rintro e w4 ⟨rfl, hb4⟩; obtain ⟨f1, q1, W5, hW5, f2, q2, q3, hT⟩ := HOP.out w4 hb4; have HT := Lib.hid hT; clear hT hb4 HOP) | fail)
        refine (CT.out _).mono ?_
        clear CT
        rintro e w7 ⟨he, hb7⟩
        have he2 : e = _ := he
        subst he2
        obtain ⟨f7, q7, W8, hW8, T8⟩ := HT.out ⟨#[]⟩ w7 hb7
        obtain ⟨V', hst, hv, hbv⟩ := T8.out
        obtain ⟨p0, p1, p2, p3, p4⟩ := cells5 T8.2.1
        have ST4 := Lib.hid hst
        have HV := Lib.hid (And.intro hv hbv)
        clear hst hv hbv T8 HT
        go_wp2_with (refine wpList_store_eq rfl rfl rfl rfl rfl ST4.out ?_; clear ST4)
        (try simp only [Exit.inBlock, Exit.then])
        refine bodyPost_ret (results_cell4 rfl _ _ n 39 (tkX 1 ⟨#[]⟩ (l : Nat) (c : Nat) (p : Nat)) (0, 0) _ rfl HV.out.1 Tryz.underlying39 rfl (by kernel_rfl)) rfl ?_
        exact ⟨⟨_, _, rfl⟩, HV.out.2⟩
  · have hx : xoneV s p = .fin := by unfold xoneV; rw [if_neg hps]
    have hlt : ((p : Int) == (s.size : Int)) = true := by simp; omega
    rw [hx]
    clear hx hps
    obtain ⟨V', hst, hv, hbv⟩ := T2.out
    obtain ⟨q0, q1, q2, q3, q4⟩ := cells5 T2.2.1
    have ST4 := Lib.hid hst
    have HV := Lib.hid (And.intro hv hbv)
    clear hst hv hbv T2
    go_enter Tryz.func22, Tryz.ntmps22
    go_wp2_with (first | (go_at_call 24; refine (CP.out _).mono ?_; clear CP; rintro e w1 ⟨rfl, rfl⟩) | (refine wpList_store_eq rfl rfl rfl rfl rfl ST0.out ?_; clear ST0) | (refine wpList_store_eq rfl rfl rfl rfl rfl ST4.out ?_; clear ST4))
    (try simp only [Exit.inBlock, Exit.then])
    refine bodyPost_ret (results_cell4 rfl _ _ n 39 (tkX 0 ⟨#[]⟩ (l : Nat) (c : Nat) (p : Nat)) (0, 0) _ rfl HV.out.1 Tryz.underlying39 rfl (by kernel_rfl)) rfl ?_
    exact ⟨rfl, HV.out.2⟩
end Go.Proofs.YtlfdpdlhppgakaaGreatDoor
/- The document's answer for scan: Scan: the walk. -/
namespace Go.Proofs.YtlfdpdlhppgakaaGreatDoor
open Go Go.RowKit Go.Kt Go.Kt.Rg Go.Shelf Go.Lib
attribute [local go_sem] Oper.semAt_some

/-- The lines of a file, as the document counts them. -/
theorem nlc_more (s : ByteArray) : ∀ i, i < s.size → xlinN s i = nlc s i
  | 0, _ => by simp [xlinN, nlc]
  | i + 1, h => by
    rw [xlinN, nlc_more s i (by omega), nlc_succ s i (by omega)]
    have hne : i + 1 ≠ s.size := by omega
    by_cases hb : B s i = 10
    · rw [if_pos (.inl hb), if_pos hb]
    · rw [if_neg (by omega), if_neg hb]
theorem xlin_last (s : ByteArray) (h : 0 < s.size) : xlinN s s.size = nlN s + 1 := by
  obtain ⟨n, hn⟩ : ∃ n, s.size = n + 1 := ⟨s.size - 1, by omega⟩
  have hlen : s.data.toList.length = n + 1 := by rw [← Lib.size_eq, hn]
  rw [hn, xlinN, if_pos (.inr hn.symm), nlc_more s n (by omega)]
  have hsplit : s.data.toList = s.data.toList.take n ++ [UInt8.ofNat (B s n)] := by
    have h1 := seg_more (s := s) (p := 0) (k := n) (by omega)
    rw [Nat.zero_add, Nat.zero_add, seg_eq, seg_eq, List.drop_zero, List.drop_zero] at h1
    rw [← h1, List.take_of_length_le (by omega)]
  have hlast : nlN s = (s.data.toList.take n).count 10 := by
    unfold nlN Lib.countByte Lib.trimSuffix
    split
    · rw [hlen]; rfl
    · rename_i hs
      have hne : UInt8.ofNat (B s n) ≠ 10 := fun he => by
        apply hs
        rw [hsplit, he]
        unfold Lib.hasSuffix
        simp
      conv => lhs; rw [hsplit]
      rw [List.count_append, List.count_singleton]
      have : (UInt8.ofNat (B s n) == 10) = false := by simpa using hne
      rw [this]
      rfl
  rw [hlast]
  rfl
theorem xlin_nl (s : ByteArray) : 65536 < xlinN s s.size ↔ 65536 ≤ nlN s := by
  rcases Nat.eq_zero_or_pos s.size with h | h
  · have h1 := nlN_le s
    have h2 : nlc s s.size ≤ s.size := by unfold nlc; exact Nat.le_trans List.count_le_length (by rw [List.length_take]; exact Nat.min_le_left _ _)
    have h3 := xlin_le s s.size
    omega
  · rw [xlin_last s h]; omega

theorem results_tmp4 {fn : Func} {t u v x : Tmp} (h : fn.results = #[.tmp t, .tmp u, .tmp v, .tmp x]) (tmps : Array Value) (P : Program) (w : World) :
    (results fn tmps).run P w = .ok (.tuple #[tmps.getD t undef, tmps.getD u undef, tmps.getD v undef, tmps.getD x undef]) w := by
  simp [results, h]
/-- The variable that holds a token. -/
theorem tok_store {D : Nat} {w wr w5 : World} (hb : Below D w wr) (hD : D ≤ w.heap.size) (h5 : Below wr.heap.size wr w5) (k : Int) (x : ByteArray) (l c p : Int) :
    ∃ W6 W7, w5.alloc (.cells (tkX 0 ⟨#[]⟩ 0 0 0) 39) = W6 ∧ (Instr.storeAt 39 (.pointer (some ⟨w5.heap.size, 0, none⟩)) (tkA k x l c p)).run Tryz.prog W6 = .ok () W7 ∧ W7.heap[w5.heap.size]? = some (.cells (tkX k x l c p) 39 (0, 0)) ∧ Below w5.heap.size w5 W7 ∧ Below D w W7 := by
  have hDr : D ≤ wr.heap.size := Nat.le_trans hD hb.size
  have b5 : Below D w w5 := hb.trans (h5.mono hDr)
  obtain ⟨W6, hW6⟩ : ∃ W6, w5.alloc (.cells (tkX 0 ⟨#[]⟩ 0 0 0) 39) = W6 := ⟨_, rfl⟩
  have n6 : W6.heap[w5.heap.size]? = some (.cells (tkX 0 ⟨#[]⟩ 0 0 0) 39 (0, 0)) := by rw [← hW6]; exact World.alloc_heap_new w5 _
  have b6 : Below w5.heap.size w5 W6 := by rw [← hW6]; exact (Below.refl _ w5).alloc (Nat.le_refl _) _
  have b57 := b6.trans (set5_below (V := W6) (Nat.le_refl w5.heap.size) k x l c p)
  exact ⟨W6, _, hW6, store_new W6 w5.heap.size _ _ _ _ _ k x l c p n6, set5_at k x l c p n6, b57, b5.trans (b57.mono (Nat.le_trans hD b5.size))⟩
/-- A token appended to a row of one's own; the variable that held it. -/
theorem tok_step {D : Nat} {w wr w5 : World} {ao : Option Addr} {m cp : Nat} {T : List Tk} (hown : OwnS (fun b => D ≤ b) 39 5 (.slice ao m cp) m (tksC T) wr) (hb : Below D w wr) (hD : D ≤ w.heap.size) (h5 : Below wr.heap.size wr w5) (t : Tk) (k : Int) (x : ByteArray) (l c p : Int) (ht : tkC t = [.int .i64 k, .string x, .int .i64 l, .int .i64 c, .int .i64 p]) (hm : m ≤ 2097152) :
    ∃ W6 W7 g3 cap3 w8, w5.alloc (.cells (tkX 0 ⟨#[]⟩ 0 0 0) 39) = W6 ∧
      (Instr.storeAt 39 (.pointer (some ⟨w5.heap.size, 0, none⟩)) (tkA k x l c p)).run Tryz.prog W6 = .ok () W7 ∧
      W7.heap[w5.heap.size]? = some (.cells (tkX k x l c p) 39 (0, 0)) ∧
      (∀ ty, (Builtin.append_ #[24, 24] ty #[.slice ao m cp, .slice (some ⟨W7.heap.size, 0, none⟩) 1 1]).run Tryz.prog (W7.alloc (.cells (tkX k x l c p) 39)) = .ok (.slice (some ⟨g3, 0, none⟩) (m + 1) cap3) w8) ∧
      w8.heap[w5.heap.size]? = some (.cells (tkX k x l c p) 39 (0, 0)) ∧
      OwnS (fun b => D ≤ b) 39 5 (.slice (some ⟨g3, 0, none⟩) (m + 1) cap3) (m + 1) (tksC (T ++ [t])) w8 ∧ Below D w w8 := by
  have hDr : D ≤ wr.heap.size := Nat.le_trans hD hb.size
  have hz5 := h5.size
  have b5 : Below D w w5 := hb.trans (h5.mono hDr)
  have own5 : OwnS (fun b => D ≤ b ∧ b < w5.heap.size) 39 5 (.slice ao m cp) m (tksC T) w5 := by
    have h1 := hown.keep (X := fun _ => False) (B := w5) ⟨h5.os, h5.tape, h5.output, h5.size, fun c hc _ => h5.block c hc⟩ (fun _ h => h.elim)
    exact ⟨h1.1, fun g hg => ⟨h1.2 g hg, own_ne h1 hg⟩⟩
  obtain ⟨W6, W7, hW6, st, n7, b57, b7⟩ := tok_store hb hD h5 k x l c p
  have own7 : OwnS (fun b => D ≤ b ∧ b < w5.heap.size) 39 5 (.slice ao m cp) m (tksC T) W7 := own5.keep (X := fun _ => False) ⟨b57.os, b57.tape, b57.output, b57.size, fun c hc _ => b57.block c hc⟩ (fun _ h => h.elim)
  obtain ⟨g3, cap3, w8, hrun, hown8, hk8, hg8, hz8⟩ := append_x (P := Tryz.prog) W7 24 39 Tryz.underlying24 tinfoTok rfl (by omega) own7 [.int .i64 k, .string x, .int .i64 l, .int .i64 c, .int .i64 p] rfl
    (by intro u hu; simp at hu; rcases hu with rfl | rfl | rfl | rfl | rfl <;> rfl) (by unfold maxLen; omega) (by omega)
  have hz7 := b57.size
  have hge : D ≤ g3 := by
    rcases hg8 with h | h
    · exact (own7.2 g3 h).1
    · omega
  refine ⟨W6, W7, g3, cap3, w8, hW6, st, n7, hrun, ?_, ?_, b7.trans (hk8.below (by omega) fun b h => (own7.2 b h).1)⟩
  · have hlt : w5.heap.size < W7.heap.size := (Array.getElem?_eq_some_iff.1 n7).1
    exact (hk8.same w5.heap.size hlt (fun h => by have := (own7.2 _ h).2; omega)).trans n7
  · have e : tksC (T ++ [t]) = tksC T ++ [.int .i64 k, .string x, .int .i64 l, .int .i64 c, .int .i64 p] := by rw [← ht]; simp [tksC]
    rw [e]
    exact hown8.weaken (fun b h => by subst h; exact hge)

/-- What Scan answers. -/
def xscanO (D : Nat) (R : SR) (e : Ending) (w' : World) : Prop := match R with
  | .ok L => ∃ g cap, e = .returned (.tuple #[.slice (some ⟨g, 0, none⟩) L.length cap, .int .i64 0, .int .i64 0, .int .i64 0]) ∧ OwnS (fun b => D ≤ b) 39 5 (.slice (some ⟨g, 0, none⟩) L.length cap) L.length (tksC L) w'
  | .bad no l c => e = .returned (.tuple #[.slice none 0 0, .int .i64 (no : Nat), .int .i64 (l : Nat), .int .i64 (c : Nat)])
theorem bad_no {s : ByteArray} {p no j : Nat} (h : xoneV s p = .bad no j) : no = 25 ∨ no = 4 ∨ no = 9 ∨ no = 10 := by
  have hx : ∀ (f i : Nat) (o : List UInt8) (no j : Nat), xtextF s f i o = .bad no j → no = 9 ∨ no = 10 := by
    intro f
    induction f with
    | zero => intro i o no j h; cases h
    | succ f ih =>
      intro i o no j h
      rw [xtextF] at h
      split at h
      · split at h
        · split at h
          · exact ih _ _ _ _ h
          · cases h; exact .inr rfl
        · split at h
          · split at h
            · exact ih _ _ _ _ h
            · cases h; exact .inl rfl
          · split at h
            · cases h
            · exact ih _ _ _ _ h
      · cases h
  unfold xoneV at h
  split at h
  · split at h
    · cases h; exact .inl rfl
    · split at h
      · cases h; exact .inr (.inl rfl)
      · split at h
        · split at h
          · cases h; exact .inl rfl
          · cases h
        · split at h
          · cases h
          · split at h
            · cases h
            · rename_i hz
              cases h
              rcases hx _ _ _ _ _ hz with h | h
              · exact .inr (.inr (.inl h))
              · exact .inr (.inr (.inr h))
  · cases h
set_option maxRecDepth 100000 in
set_option maxHeartbeats 4000000 in
theorem xscan_any (s : ByteArray) (w : World) (hs : s.size ≤ 140737488351232) :
    Calls Tryz.prog 11 #[.string s] w fun e w' => xscanO w.heap.size (scanS s) e w' ∧ Below w.heap.size w w' := by
  by_cases hz : 1048576 < s.size
  · have hR : scanS s = .bad 5 0 0 := by unfold scanS; rw [if_pos hz]
    have hz' : (1048576 : Int) < s.size := by omega
    rw [hR]
    clear hR hz
    go_enter Tryz.func11, Tryz.ntmps11
    go_wp2
    (try simp only [Exit.inBlock, Exit.then])
    refine bodyPost_ret (results_tmp4 rfl _ _ _) rfl ?_
    exact ⟨rfl, Below.refl _ _⟩
  have hz' : ¬ (1048576 : Int) < s.size := by omega
  have CL := Lib.hid (fun V => xlines_any s V hs)
  by_cases hn : 65536 ≤ nlN s
  · have hR : scanS s = .bad 5 65537 1 := by unfold scanS; rw [if_neg hz, if_pos hn]
    have hl : (65536 : Int) < (xlinN s s.size : Nat) := by have := (xlin_nl s).2 hn; omega
    rw [hR]
    generalize xlinN s s.size = L at *
    clear hR hz hn
    go_enter Tryz.func11, Tryz.ntmps11
    go_wp2_with (go_at_call 21; refine (CL.out _).mono ?_; clear CL; rintro e w1 ⟨rfl, rfl⟩)
    (try simp only [Exit.inBlock, Exit.then])
    refine bodyPost_ret (results_tmp4 rfl _ _ _) rfl ?_
    exact ⟨rfl, Below.refl _ _⟩
  have hl : ¬ (65536 : Int) < (xlinN s s.size : Nat) := by
    intro h
    exact hn ((xlin_nl s).1 (by omega))
  obtain ⟨R, hR⟩ : ∃ R, finS (runS s (s.size + 1) 0 c0S) = R := ⟨_, rfl⟩
  have hRs : scanS s = R := by
    rw [← hR]
    unfold scanS finS
    rw [if_neg hz, if_neg hn]
    rfl
  rw [hRs]
  have HX : Hid (XS s 0 [] R) := Lib.hid (by rw [← hR]; exact XS.first s)
  generalize xlinN s s.size = L at *
  clear hR hRs hn
  go_enter Tryz.func11, Tryz.ntmps11
  go_wp2_with (go_at_call 21; refine (CL.out _).mono ?_; clear CL; rintro e w1 ⟨rfl, rfl⟩)
  go_loopw [6, 7] (fun o v wr => ∃ (i m cp : Nat) (ao : Option Addr) (T : List Tk), i ≤ s.size ∧ m ≤ i ∧ v = .int .i64 i ∧ o = .slice ao m cp ∧ m = T.length ∧ OwnS (fun b => w.heap.size ≤ b) 39 5 (.slice ao m cp) m (tksC T) wr ∧ Below w.heap.size w wr ∧ XS s i T R)
    (fun _ v _ => s.size - (RowKit.intOf v).toNat)
  case atStart => exact ⟨0, 0, 0, none, [], Nat.zero_le _, Nat.le_refl _, rfl, rfl, rfl, own_nil _ _ _ _, Below.refl _ _, HX.out⟩
  case round =>
    obtain ⟨i, m, cp, ao, T, hi, hmi, rfl, rfl, hm, hown, hb, hX⟩ := hrel
    obtain ⟨y1, y2, pl, ⟨n0, hn0⟩, hpl, hcase⟩ := XS.step hX
    have CA := Lib.hid (fun V => xpast_any s i V hs hi)
    generalize xpastF s (s.size + 1) i = p at *
    obtain ⟨l, c, p2⟩ := pl
    simp only at hpl
    subst hpl
    have CO := Lib.hid (fun V => xone_any s n0 l c p2 V (by omega) hn0 y2)
    cases hx : xoneV s p2 with
    | fin =>
      rw [hx] at CO hcase
      have HST : Hid (∀ w5, Below wr.heap.size wr w5 → _) := Lib.hid fun w5 h5 => tok_step hown hb (Nat.le_refl _) h5 ⟨0, [], (l, c, p2)⟩ 0 ⟨#[]⟩ (l : Nat) (c : Nat) (p2 : Nat) rfl (by omega)
      have HC := Lib.hid (And.intro hcase.2 hm)
      clear hx hcase hown hb hX hm hn0
      go_wp2_with (first | (go_at_call 23; refine (CA.out _).mono ?_; clear CA; rintro e w1 ⟨rfl, rfl⟩) | (go_at_call 22; refine (CO.out _).mono ?_; clear CO; rintro e w5 ⟨he, h5⟩; have he2 : e = _ := he; subst he2; obtain ⟨W6, W7, g3, cap3, w8, hW6, st, n7, hrun, n8, own8, b8⟩ := HST.out w5 h5; obtain ⟨n5, hn5⟩ : ∃ n5, w5.heap.size = n5 := ⟨_, rfl⟩; rw [hn5] at st n7 n8; obtain ⟨q0, q1, q2, q3, q4⟩ := cells5 n7; obtain ⟨r0, -, -, -, -⟩ := cells5 n8; have ST := Lib.hid st; have RUN := Lib.hid hrun; have HE := Lib.hid (And.intro own8 b8); clear st hrun n7 n8 own8 b8 h5 HST) | (refine wpList_store_eq rfl rfl rfl rfl rfl ST.out ?_; clear ST) | (at_builtin; refine wpList_append_eq rfl rfl rfl rfl RUN.out ?_; clear RUN))
      (try simp only [Exit.inBlock, Exit.then])
      refine bodyPost_ret (results_tmp4 rfl _ _ _) rfl ?_
      obtain ⟨hR, hm⟩ := HC.out
      rw [hR]
      have hl : (T ++ [(⟨0, [], (l, c, p2)⟩ : Tk)]).length = m + 1 := by rw [hm]; simp
      exact ⟨⟨g3, cap3, by rw [hl]; rfl, by rw [hl]; exact HE.out.1⟩, HE.out.2⟩
    | tok k x next =>
      rw [hx] at CO hcase
      obtain ⟨hk3, hpn, hnz, hX2⟩ := hcase
      have hk0 : ((k : Int) == 0) = false := by simp; omega
      have HST : Hid (∀ w5, Below wr.heap.size wr w5 → _) := Lib.hid fun w5 h5 => tok_step hown hb (Nat.le_refl _) h5 ⟨k, x, (l, c, p2)⟩ (k : Nat) ⟨x.toArray⟩ (l : Nat) (c : Nat) (p2 : Nat) rfl (by omega)
      have HC := Lib.hid (And.intro hX2 (And.intro hm (And.intro hpn (And.intro hnz (And.intro y1 hmi)))))
      clear hx hX2 hown hb hX hm hn0 hk3 hpn hnz y1 y2 hmi
      go_wp2_with (first | (go_at_call 23; refine (CA.out _).mono ?_; clear CA; rintro e w1 ⟨rfl, rfl⟩) | (go_at_call 22; refine (CO.out _).mono ?_; clear CO; rintro e w5 ⟨he, h5⟩; obtain ⟨a, rfl⟩ := he; obtain ⟨W6, W7, g3, cap3, w8, hW6, st, n7, hrun, n8, own8, b8⟩ := HST.out w5 h5; obtain ⟨n5, hn5⟩ : ∃ n5, w5.heap.size = n5 := ⟨_, rfl⟩; rw [hn5] at st n7 n8; obtain ⟨q0, q1, q2, q3, q4⟩ := cells5 n7; obtain ⟨r0, -, -, -, -⟩ := cells5 n8; have ST := Lib.hid st; have RUN := Lib.hid hrun; have HE := Lib.hid (And.intro own8 b8); clear st hrun n7 n8 own8 b8 h5 HST) | (refine wpList_store_eq rfl rfl rfl rfl rfl ST.out ?_; clear ST) | (at_builtin; refine wpList_append_eq rfl rfl rfl rfl RUN.out ?_; clear RUN))
      go_roundw
      case rel => exact ⟨next, m + 1, cap3, some ⟨g3, 0, none⟩, T ++ [⟨k, x, (l, c, p2)⟩], HC.out.2.2.2.1, by have := HC.out.2.2; omega, rfl, rfl, by rw [HC.out.2.1]; simp, HE.out.1, HE.out.2, HC.out.1⟩
      case measure => have := HC.out.2.2; simp [RowKit.intOf]; omega
    | bad no j =>
      rw [hx] at CO hcase
      have hno := bad_no hx
      have hn1 : ((no : Int) == 0) = false := by simp; omega
      obtain ⟨⟨l2, c2, j2⟩, ⟨n2, hn2⟩, hj2, hR⟩ := hcase
      simp only at hj2 hR
      subst hj2
      have CL2 := Lib.hid (fun V => xplace_any s n2 l2 c2 j2 V (by omega) hn2)
      have HST : Hid (∀ w5, Below wr.heap.size wr w5 → ∀ k x l c p, _) := Lib.hid fun w5 h5 k x l c p => tok_store hb (Nat.le_refl _) h5 k x l c p
      have HC := Lib.hid hR
      clear hx hR hown hb hX hm hn0 hn2 hno
      go_wp2_with (first | (go_at_call 23; refine (CA.out _).mono ?_; clear CA; rintro e w1 ⟨rfl, rfl⟩) | (go_at_call 22; refine (CO.out _).mono ?_; clear CO; rintro e w5 ⟨he, h5⟩; obtain ⟨ki, a, rfl⟩ := he; obtain ⟨W6, W7, hW6, st, n7, -, b7⟩ := HST.out w5 h5 ki ⟨#[]⟩ (l : Nat) (c : Nat) (p2 : Nat); obtain ⟨n5, hn5⟩ : ∃ n5, w5.heap.size = n5 := ⟨_, rfl⟩; rw [hn5] at st n7; obtain ⟨q0, q1, q2, q3, q4⟩ := cells5 n7; have ST := Lib.hid st; have HE := Lib.hid b7; clear st n7 b7 h5 HST) | (refine wpList_store_eq rfl rfl rfl rfl rfl ST.out ?_; clear ST) | (go_at_call 24; refine (CL2.out _).mono ?_; clear CL2; rintro e w1 ⟨rfl, rfl⟩))
      (try simp only [Exit.inBlock, Exit.then])
      refine bodyPost_ret (results_tmp4 rfl _ _ _) rfl ?_
      rw [HC.out]
      exact ⟨rfl, HE.out⟩
end Go.Proofs.YtlfdpdlhppgakaaGreatDoor
/- What is the same of any program: an append leaves the cells of the slice it was given as they were. -/
namespace Go.Kt
open Go Go.RowKit
variable {P : Program}

theorem append_keep (W : World) (t e : TypeId) {z : Value} {size bytes : Nat} (ht : P.underlying t = some (.slice e)) (hinfo : (P.info? e).map (fun i => (i.zero, i.size, i.bytes)) = some (some z, size, bytes))
    (hzs : z.cells.size = size) (hsz : 0 < size) {Y : Nat → Prop} {g0 cap0 n : Nat} {xs : List Value} (hown : OwnS Y e size (.slice (some ⟨g0, 0, none⟩) n cap0) n xs W)
    (news : List Value) (hl : news.length = size) (h1 : ∀ u ∈ news, u.oneCell' = true) (h63 : n + 1 ≤ maxLen) (hbytes : (n + 1) * bytes ≤ 140737488355328) {ty : TypeId} {v' : Value} {w' : World}
    (hrun : (Builtin.append_ #[t, t] ty #[.slice (some ⟨g0, 0, none⟩) n cap0, .slice (some ⟨W.heap.size, 0, none⟩) 1 1]).run P (W.alloc (.cells news.toArray e)) = .ok v' w') :
    ∀ j, j < n * size → w'.cell? ⟨g0, j, none⟩ = W.cell? ⟨g0, j, none⟩ := by
  intro j hj
  obtain ⟨i, hi, hz, hs1, hb1⟩ := info_parts hinfo
  have hc : ∀ j u, news[j]? = some u → (W.alloc (.cells news.toArray e)).cell? ((⟨W.heap.size, 0, none⟩ : Addr).add j) = some u := fun j u hj => by
    have hh := World.alloc_heap_new W (.cells news.toArray e)
    rw [Addr.add_lit, Lib.cell_of_heap hh]
    simpa using hj
  have hxl := hown.1.1
  have hx : ∃ u, xs[j]? = some u := ⟨xs[j]'(by omega), List.getElem?_eq_getElem _⟩
  obtain ⟨u, hu⟩ := hx
  have hW : W.cell? ⟨g0, j, none⟩ = some u := by
    have := hown.1.cells (g := g0) rfl j u hu
    rwa [Addr.add_lit, Nat.zero_add] at this
  have hown' : (W.alloc (.cells news.toArray e)).ownsRow 0 e size (.slice (some ⟨g0, 0, none⟩) n cap0) n xs := hown.1.alloc _
  rw [hW]
  rcases hown'.2 with ⟨hv, _⟩ | ⟨g1, cap1, cur0, hv, hb0, hg0, hnc, hcm, hcs, _⟩
  · cases hv
  · injection hv with e1 e2 e3
    injection e1 with e1
    injection e1 with e1
    subst e1; subst e3
    by_cases hroom : n + 1 ≤ cap0
    · obtain ⟨g, cap, w2, hrun2, hown2, _, _, _⟩ := append_x (P := P) W t e ht hinfo hzs hsz hown news hl h1 h63 hbytes
      have hr := run_append_room (P := P) (W.alloc (.cells news.toArray e)) t ty e i ht hi g0 n cap0 cur0 hg0 ⟨W.heap.size, 0, none⟩ 1 1 news (by omega) hc h1 hroom (by rw [hs1, hcs, hl, ← Nat.succ_mul]; exact Nat.mul_le_mul_right _ hroom)
      have hq := hrun2 ty
      rw [hr] at hq
      injection hq with e4 e5
      injection e4 with e4 _ _
      injection e4 with e4
      injection e4 with e4
      subst e4
      rw [hr] at hrun
      injection hrun with _ e6
      rw [← e6, e5]
      have := hown2.1.cells (g := g0) rfl j u (by rw [List.getElem?_append_left (by omega)]; exact hu)
      rwa [Addr.add_lit, Nat.zero_add] at this
    · have holds : ∀ j u, xs[j]? = some u → (W.alloc (.cells news.toArray e)).cell? ((⟨g0, 0, none⟩ : Addr).add j) = some u := hown'.cells (g := g0) rfl
      have hsmall : n + 1 ≤ 9223372036854775807 := by simp only [maxLen] at h63; omega
      have hr := run_append_grow (P := P) (W.alloc (.cells news.toArray e)) t ty e i z ht hi hz ⟨g0, 0, none⟩ n cap0 xs (by rw [hs1]; exact hown'.1) holds ⟨W.heap.size, 0, none⟩ 1 1 news (by omega) hc (by omega) (by omega) (by rw [hb1]; exact growslice_fits (by omega) hbytes)
      rw [hrun] at hr
      injection hr with _ e2
      rw [e2]
      exact ((((Keep.refl (fun _ => False) W).alloc _).drew).alloc _).cell hW (fun h => h)
end Go.Kt
/- What is the same of any program and any type: a look at lists that were handed out, which marks each thing, makes each list longer and asks for the marks again: what its loops keep. -/
namespace Go.Kt.Lk
open Go Go.RowKit Go.Kt

/-- The marks of list k: n of them, cell by cell. -/
def mL (M : Nat → Nat → List Value) (k n : Nat) : List Value := (List.range n).flatMap (M k)
theorem mL_succ (M : Nat → Nat → List Value) (k n : Nat) : mL M k (n + 1) = mL M k n ++ M k n := by simp [mL, List.range_succ]
theorem mL_zero (M : Nat → Nat → List Value) (k : Nat) : mL M k 0 = [] := rfl
theorem mL_len {M : Nat → Nat → List Value} {size : Nat} (hM : ∀ k i, (M k i).length = size) (k : Nat) : ∀ n, (mL M k n).length = n * size
  | 0 => by simp [mL]
  | n + 1 => by rw [mL_succ, List.length_append, mL_len hM k n, hM, Nat.succ_mul]
theorem mL_get {M : Nat → Nat → List Value} {size : Nat} (hM : ∀ k i, (M k i).length = size) (k : Nat) : ∀ (n i c : Nat) (u : Value), i < n → (M k i)[c]? = some u → (mL M k n)[i * size + c]? = some u
  | 0, i, c, u, h, _ => by omega
  | n + 1, i, c, u, h, hu => by
    have hc : c < size := by rw [← hM k i]; exact (List.getElem?_eq_some_iff.1 hu).1
    rw [mL_succ]
    rcases Nat.lt_or_ge i n with hin | hin
    · rw [List.getElem?_append_left (by
        rw [mL_len hM]
        have : (i + 1) * size ≤ n * size := Nat.mul_le_mul_right _ hin
        rw [Nat.succ_mul] at this
        omega)]
      exact mL_get hM k n i c u hin hu
    · obtain rfl : i = n := by omega
      rw [List.getElem?_append_right (by rw [mL_len hM]; omega), mL_len hM, Nat.add_sub_cancel_left]
      exact hu

/-- The type of the things: e; of a list of them: t; of a list of lists: tt. -/
structure AK (P : Program) (e t tt : TypeId) (size bytes : Nat) (z : Value) (M : Nat → Nat → List Value) : Prop where
  ht : P.underlying t = some (.slice e)
  hinfo : (P.info? e).map (fun i => (i.zero, i.size, i.bytes)) = some (some z, size, bytes)
  hzs : z.cells.size = size
  hsz : 0 < size
  htt : P.underlying tt = some (.slice t)
  hinfo2 : (P.info? t).map (fun i => (i.zero, i.size, i.bytes)) = some (some (.slice none 0 0), 1, 24)
  hM : ∀ k i, (M k i).length = size
  h1 : ∀ k i u, u ∈ M k i → u.oneCell' = true
  hb : bytes ≤ 1000

theorem at_row {Y : Nat → Prop} {e : TypeId} {sz n g cap : Nat} {xs : List Value} {W : World} (h : OwnS Y e sz (.slice (some ⟨g, 0, none⟩) n cap) n xs W) {i : Nat} {u : Value} (hi : xs[i]? = some u) : W.cell? ⟨g, i, none⟩ = some u := by
  have := h.1.cells (g := g) rfl i u hi
  rwa [Addr.add_lit, Nat.zero_add] at this
theorem fz_row {Y : Nat → Prop} {e : TypeId} {sz n g cap : Nat} {xs : List Value} {W : World} (h : OwnS Y e sz (.slice (some ⟨g, 0, none⟩) n cap) n xs W) (i : Nat) : W.frozen? ⟨g, i, none⟩ = false := by
  rcases h.1.2 with ⟨h1, _⟩ | ⟨g', cap', cur, h1, _, hg, _⟩
  · cases h1
  · injection h1 with e1 _ _
    injection e1 with e1
    injection e1 with e1
    subst e1
    exact Lib.frozen_of_heap hg i

/-- Values written side by side. -/
def setB : World → Nat → Nat → List Value → World
  | W, _, _, [] => W
  | W, g, o, u :: us => setB (W.setCell ⟨g, o, none⟩ u) g (o + 1) us
def setL : List Value → Nat → List Value → List Value
  | xs, _, [] => xs
  | xs, o, u :: us => setL (xs.set o u) (o + 1) us
theorem setL_len : ∀ (us xs : List Value) (o : Nat), (setL xs o us).length = xs.length
  | [], _, _ => rfl
  | u :: us, xs, o => by rw [setL, setL_len us, List.length_set]
theorem setL_take : ∀ (us xs : List Value) (o : Nat), o + us.length ≤ xs.length → (setL xs o us).take (o + us.length) = xs.take o ++ us
  | [], xs, o, _ => by simp [setL]
  | u :: us, xs, o, h => by
    rw [List.length_cons] at h
    have ih := setL_take us (xs.set o u) (o + 1) (by rw [List.length_set]; omega)
    rw [setL, List.length_cons, show o + (us.length + 1) = o + 1 + us.length by omega, ih, List.take_add_one, List.getElem?_set_self (by omega), List.take_set_of_le (by omega)]
    simp
theorem setB_own {e : TypeId} {size g n cap : Nat} {Y : Nat → Prop} : ∀ (us xs : List Value) (W : World) (o : Nat), OwnS Y e size (.slice (some ⟨g, 0, none⟩) n cap) n xs W → OwnS Y e size (.slice (some ⟨g, 0, none⟩) n cap) n (setL xs o us) (setB W g o us) ∧ Keep (fun b => b = g) W (setB W g o us)
  | [], xs, W, o, h => ⟨h, Keep.refl _ _⟩
  | u :: us, xs, W, o, h => by
    have h1 : OwnS Y e size (.slice (some ⟨g, 0, none⟩) n cap) n (xs.set o u) (W.setCell ⟨g, o, none⟩ u) := ⟨(h.1.stored o u).1, h.2⟩
    obtain ⟨h2, h3⟩ := setB_own us (xs.set o u) (W.setCell ⟨g, o, none⟩ u) (o + 1) h1
    exact ⟨h2, ((Keep.refl (fun b => b = g) W).setCell (p := ⟨g, o, none⟩) rfl u).trans h3⟩

section
variable (e t : TypeId) (size : Nat) (M : Nat → Nat → List Value) (q : Nat) (vs : List Value) (ns : Nat → Nat)
/-- The lists' own blocks. -/
def Xs (b : Nat) : Prop := ∃ v ∈ vs, v.ownBlock = some b
/-- No two lists lie in one block. -/
def Apart : Prop := ∀ (i j : Nat) (u v : Value) (b : Nat), i ≠ j → vs[i]? = some u → vs[j]? = some v → u.ownBlock = some b → v.ownBlock ≠ some b
/-- What the look is handed. -/
structure Handed (w : World) : Prop where
  row : w.heap[q]? = some (.cells vs.toArray t (0, 0))
  few : vs.length ≤ 1000
  own : ∀ k v, vs[k]? = some v → ns k ≤ 2097152 ∧ ∃ xs, OwnS (fun b => b ≠ q) e size v (ns k) xs w
  apart : Apart vs
/-- While the marks are written: k lists are done, of list k the first i. -/
def Mk (w : World) (k i : Nat) (W : World) : Prop :=
  W.heap[q]? = some (.cells vs.toArray t (0, 0)) ∧ Keep (Xs vs) w W ∧
  ∀ j v, vs[j]? = some v → ∃ xs, OwnS (fun b => b ≠ q ∧ b < w.heap.size) e size v (ns j) xs W ∧ (j < k → xs = mL M j (ns j)) ∧ (j = k → xs.take (i * size) = mL M k i)
/-- List j is done: the longer one and itself bear its marks, in blocks of S. -/
structure Done (S : Nat → Prop) (gl : List Value) (j : Nat) (W : World) : Prop where
  long : ∃ h cap, gl[j]? = some (.slice (some ⟨h, 0, none⟩) (ns j + 64) cap) ∧ S h ∧ ∀ (c : Nat) u, (mL M j (ns j + 64))[c]? = some u → W.cell? ⟨h, c, none⟩ = some u
  own : ∀ v, vs[j]? = some v → ∀ (c : Nat) u, (mL M j (ns j))[c]? = some u → ∃ g cap, v = .slice (some ⟨g, 0, none⟩) (ns j) cap ∧ S g ∧ W.cell? ⟨g, c, none⟩ = some u
/-- What every state of the two later loops has. -/
structure Base (S : Nat → Prop) (w : World) (k : Nat) (gv : Value) (gl : List Value) (W : World) : Prop where
  len : gl.length = k
  row : W.heap[q]? = some (.cells vs.toArray t (0, 0))
  keep : Keep (Xs vs) w W
  bd : ∀ b, S b → b ≠ q ∧ b < W.heap.size
  list : OwnS (fun b => ¬ S b ∧ b ≠ q ∧ w.heap.size ≤ b) t 1 gv k gl W
  done : ∀ j, j < k → Done M vs ns S gl j W
  rest : ∀ j v, k < j → vs[j]? = some v → OwnS (fun b => ¬ S b ∧ b ≠ q ∧ b < w.heap.size) e size v (ns j) (mL M j (ns j)) W
def Gs (w : World) (k : Nat) (gv : Value) (W : World) : Prop :=
  ∃ S gl, Base e t size M q vs ns S w k gv gl W ∧ ∀ v, vs[k]? = some v → OwnS (fun b => ¬ S b ∧ b ≠ q ∧ b < w.heap.size) e size v (ns k) (mL M k (ns k)) W
def In (w : World) (k i : Nat) (gv g' : Value) (W : World) : Prop :=
  ∃ S gl, Base e t size M q vs ns S w k gv gl W ∧ OwnS (fun b => ¬ S b ∧ b ≠ q ∧ (b < w.heap.size → Xs vs b) ∧ gv.ownBlock ≠ some b ∧ ∀ j v, k < j → vs[j]? = some v → v.ownBlock ≠ some b) e size g' (ns k + i) (mL M k (ns k + i)) W ∧
    ∀ v, vs[k]? = some v → ∀ (c : Nat) u, (mL M k (ns k))[c]? = some u → ∃ g cap, v = .slice (some ⟨g, 0, none⟩) (ns k) cap ∧ g ≠ q ∧ g < w.heap.size ∧ W.cell? ⟨g, c, none⟩ = some u
end

variable {P : Program} {e t tt : TypeId} {size bytes : Nat} {z : Value} {M : Nat → Nat → List Value} {S : Nat → Prop} {q : Nat} {vs : List Value} {ns : Nat → Nat}
theorem Handed.mk0 {w : World} (h : Handed e t size q vs ns w) : Mk e t size M q vs ns w 0 0 w :=
  ⟨h.row, Keep.refl _ _, fun j v hv => by
    obtain ⟨_, xs, ho⟩ := h.own j v hv
    exact ⟨xs, ⟨ho.1, fun b hb => ⟨ho.2 b hb, (ho.1.lt b hb).2⟩⟩, fun h => by omega, fun _ => by simp [mL]⟩⟩
/-- What makes memory alone changes nothing. -/
theorem Mk.call {w W W' : World} {k i : Nat} (h : Mk e t size M q vs ns w k i W) (hb : Below W.heap.size W W') : Mk e t size M q vs ns w k i W' := by
  obtain ⟨h1, h2, h3⟩ := h
  have hk : Keep (fun _ => False) W W' := .of_all hb
  refine ⟨hk.heap h1 (fun h => h), h2.plus hk (fun _ _ h => h.elim), fun j v hv => ?_⟩
  obtain ⟨xs, ho, ha, hb2⟩ := h3 j v hv
  exact ⟨xs, ho.keep hk (fun _ h => h.elim), ha, hb2⟩
theorem Mk.start {w W : World} {k i : Nat} (h : Mk e t size M q vs ns w k i W) (hi : i = ns k) : Mk e t size M q vs ns w (k + 1) 0 W := by
  obtain ⟨h1, h2, h3⟩ := h
  refine ⟨h1, h2, fun j v hv => ?_⟩
  obtain ⟨xs, ho, ha, hb⟩ := h3 j v hv
  refine ⟨xs, ho, fun hj => ?_, fun _ => by simp [mL]⟩
  rcases Nat.lt_or_ge j k with h | h
  · exact ha h
  · obtain rfl : j = k := by omega
    have := hb rfl
    rw [hi, List.take_of_length_le (by have := ho.1.1; omega)] at this
    exact this
theorem Mk.store {w W : World} {k i g cap : Nat} (hA : AK P e t tt size bytes z M) (h : Mk e t size M q vs ns w k i W) (ha : Apart vs) (hv : vs[k]? = some (.slice (some ⟨g, 0, none⟩) (ns k) cap)) (hi : i < ns k) :
    Mk e t size M q vs ns w k (i + 1) (setB W g (i * size) (M k i)) := by
  obtain ⟨h1, h2, h3⟩ := h
  obtain ⟨xs, ho, ha1, hb1⟩ := h3 k _ hv
  have hgq : g ≠ q := (ho.2 g rfl).1
  obtain ⟨hs, hk⟩ := setB_own (M k i) xs W (i * size) ho
  refine ⟨hk.heap h1 (fun e => hgq e.symm), h2.plus hk (fun b _ e => ⟨_, List.mem_of_getElem? hv, by subst e; rfl⟩), fun j v hj => ?_⟩
  by_cases hjk : j = k
  · subst hjk
    rw [hv] at hj
    have hj := Option.some.inj hj
    subst hj
    refine ⟨_, hs, fun h => by omega, fun _ => ?_⟩
    have hl : (i + 1) * size ≤ xs.length := by
      rw [ho.1.1]
      exact Nat.mul_le_mul_right _ hi
    have ht := setL_take (M j i) xs (i * size) (by rw [hA.hM, ← Nat.succ_mul]; exact hl)
    rw [hA.hM, ← Nat.succ_mul, hb1 rfl, ← mL_succ] at ht
    exact ht
  · obtain ⟨ys, hoj, haj, hbj⟩ := h3 j v hj
    have hs2 := hoj.self.keep hk (fun b hb hy => ha k j _ _ g (fun e => hjk e.symm) hv hj rfl (by rw [hy, hb]))
    exact ⟨ys, ⟨hs2.1, hoj.2⟩, haj, fun e => absurd e hjk⟩
theorem Mk.gs0 {w W : World} (h : Mk e t size M q vs ns w vs.length 0 W) : Gs e t size M q vs ns w 0 (.slice none 0 0) W := by
  obtain ⟨h1, h2, h4⟩ := h
  have all : ∀ j v, vs[j]? = some v → OwnS (fun b => ¬ False ∧ b ≠ q ∧ b < w.heap.size) e size v (ns j) (mL M j (ns j)) W := fun j v hv => by
    obtain ⟨xs, ho, ha, _⟩ := h4 j v hv
    rw [ha (List.getElem?_eq_some_iff.1 hv).1] at ho
    exact ⟨ho.1, fun b hb => ⟨fun h => h, (ho.2 b hb).1, (ho.2 b hb).2⟩⟩
  exact ⟨fun _ => False, [], ⟨rfl, h1, h2, fun _ h => h.elim, own_nil _ _ _ _, fun j hj => by omega, fun j v _ hv => all j v hv⟩, fun v hv => all 0 v hv⟩
theorem Done.keep {gl : List Value} {j : Nat} {A B : World} {X : Nat → Prop} (h : Done M vs ns S gl j A) (hk : Keep X A B) (hX : ∀ b, X b → ¬ S b) : Done M vs ns S gl j B := by
  obtain ⟨⟨h1, cap, e, hS, hc⟩, ho⟩ := h
  refine ⟨⟨h1, cap, e, hS, fun c u hu => hk.cell (hc c u hu) (fun hx => hX _ hx hS)⟩, fun v hv c u hu => ?_⟩
  obtain ⟨g, cap, e, hg, hc⟩ := ho v hv c u hu
  exact ⟨g, cap, e, hg, hk.cell hc (fun hx => hX _ hx hg)⟩
theorem Done.more {T : Nat → Prop} {gl gl' : List Value} {j : Nat} {W : World} (h : Done M vs ns S gl j W) (hS : ∀ b, S b → T b) (hg : gl'[j]? = gl[j]?) : Done M vs ns T gl' j W := by
  obtain ⟨⟨h1, cap, e, h2, hc⟩, ho⟩ := h
  refine ⟨⟨h1, cap, hg.trans e, hS _ h2, hc⟩, fun v hv c u hu => ?_⟩
  obtain ⟨g, cap, e, hg, hc⟩ := ho v hv c u hu
  exact ⟨g, cap, e, hS _ hg, hc⟩
theorem Base.step {w : World} {k : Nat} {gv : Value} {gl : List Value} {A B : World} {X : Nat → Prop} (h : Base e t size M q vs ns S w k gv gl A) (hk : Keep X A B) (hS : ∀ b, X b → ¬ S b) (hq : ¬ X q) (hX : ∀ b, b < w.heap.size → X b → Xs vs b)
    (hl : ∀ b, X b → gv.ownBlock ≠ some b) (hr : ∀ j v, k < j → vs[j]? = some v → ∀ b, X b → v.ownBlock ≠ some b) : Base e t size M q vs ns S w k gv gl B :=
  ⟨h.len, hk.heap h.row hq, h.keep.plus hk hX, fun b hb => ⟨(h.bd b hb).1, Nat.lt_of_lt_of_le (h.bd b hb).2 hk.size⟩, h.list.keepX hk hl, fun j hj => (h.done j hj).keep hk hS, fun j v hj hv => (h.rest j v hj hv).keepX hk (hr j v hj hv)⟩
theorem Gs.enter {w : World} {k : Nat} {gv v : Value} {W : World} (h : Gs e t size M q vs ns w k gv W) (ha : Apart vs) (hv : vs[k]? = some v) : In e t size M q vs ns w k 0 gv v W := by
  obtain ⟨S, gl, hb, ho⟩ := h
  have ho := ho v hv
  refine ⟨S, gl, hb, ⟨by simpa using ho.1, fun b hb2 => ?_⟩, fun u hu c x hx => ?_⟩
  · obtain ⟨h1, h2, h3⟩ := ho.2 b hb2
    refine ⟨h1, h2, fun _ => ⟨v, List.mem_of_getElem? hv, hb2⟩, fun e => ?_, fun j u hj hu => ha k j v u b (by omega) hv hu hb2⟩
    have := (hb.list.2 b e).2.2
    omega
  · rw [hv] at hu
    have hu := Option.some.inj hu
    subst hu
    rcases ho.shape with ⟨_, h0⟩ | ⟨g, cap, rfl, hy, hlt⟩
    · rw [h0, mL_zero] at hx
      simp at hx
    · exact ⟨g, cap, rfl, hy.2.1, hy.2.2, at_row ho hx⟩
/-- What makes memory alone changes nothing. -/
theorem In.call {w : World} {k i : Nat} {gv g' : Value} {W W' : World} (h : In e t size M q vs ns w k i gv g' W) (hb : Below W.heap.size W W') : In e t size M q vs ns w k i gv g' W' := by
  obtain ⟨S, gl, hbs, ho, hor⟩ := h
  have hk : Keep (fun _ => False) W W' := .of_all hb
  refine ⟨S, gl, hbs.step hk (fun _ h => h.elim) (fun h => h) (fun _ _ h => h.elim) (fun _ h => h.elim) (fun _ _ _ _ _ h => h.elim), ho.keep hk (fun _ h => h.elim), fun v hv c u hu => ?_⟩
  obtain ⟨g0, c0, e, h1, h2, hc⟩ := hor v hv c u hu
  exact ⟨g0, c0, e, h1, h2, hk.cell hc (fun h => h)⟩
theorem In.step {w : World} {k i : Nat} {gv g' : Value} {W : World} (hA : AK P e t tt size bytes z M) (h : In e t size M q vs ns w k i gv g' W) (hn : ns k ≤ 2097152) (hi : i ≤ 64) :
    ∃ g cap w2, (∀ ty, (Builtin.append_ #[t, t] ty #[g', .slice (some ⟨W.heap.size, 0, none⟩) 1 1]).run P (W.alloc (.cells (M k (ns k + i)).toArray e)) = .ok (.slice (some ⟨g, 0, none⟩) (ns k + (i + 1)) cap) w2) ∧
      In e t size M q vs ns w k (i + 1) gv (.slice (some ⟨g, 0, none⟩) (ns k + (i + 1)) cap) w2 := by
  obtain ⟨S, gl, hb, ho, hor⟩ := h
  have hzw := hb.keep.size
  have hby : (ns k + i + 1) * bytes ≤ 140737488355328 := Nat.le_trans (Nat.mul_le_mul_left _ hA.hb) (by omega)
  obtain ⟨g, cap, w2, hrun, hown2, hk2, hg2, hz2⟩ := append_x (P := P) W t e hA.ht hA.hinfo hA.hzs hA.hsz ho (M k (ns k + i)) (hA.hM _ _)
    (hA.h1 _ _) (by unfold maxLen; omega) hby
  refine ⟨g, cap, w2, hrun, S, gl, hb.step hk2 (fun b e => (ho.2 b e).1) (fun e => (ho.2 q e).2.1 rfl) (fun b hb2 e => (ho.2 b e).2.2.1 hb2) (fun b e => (ho.2 b e).2.2.2.1) (fun j v hj hv b e => (ho.2 b e).2.2.2.2 j v hj hv), ⟨?_, ?_⟩, ?_⟩
  · have e1 : mL M k (ns k + (i + 1)) = mL M k (ns k + i) ++ M k (ns k + i) := by rw [← Nat.add_assoc, mL_succ]
    rw [e1]
    exact hown2.1
  · intro b hb2
    have e : g = b := by simpa [Value.ownBlock] using hb2
    subst e
    rcases hg2 with h | h
    · exact ho.2 g h
    · refine ⟨fun e => by have := (hb.bd g e).2; omega, fun e => ?_, fun e => by omega, fun e => ?_, fun j v hj hv e => ?_⟩
      · subst e
        have := (Array.getElem?_eq_some_iff.1 hb.row).1
        omega
      · have := (hb.list.1.lt g e).2; omega
      · have := ((hb.rest j v hj hv).1.lt g e).2; omega
  · intro v hv c u hu
    obtain ⟨g0, c0, e0, h1, h2, hc⟩ := hor v hv c u hu
    refine ⟨g0, c0, e0, h1, h2, ?_⟩
    by_cases hg : g'.ownBlock = some g0
    · rcases ho.shape with ⟨_, h0⟩ | ⟨g1, cap1, rfl, _, _⟩
      · have : ns k = 0 := by omega
        rw [this, mL_zero] at hu
        simp at hu
      · have e2 : g1 = g0 := by simpa [Value.ownBlock] using hg
        subst e2
        have hcl : c < (ns k + i) * size := by
          have h3 := (List.getElem?_eq_some_iff.1 hu).1
          rw [mL_len hA.hM] at h3
          exact Nat.lt_of_lt_of_le h3 (Nat.mul_le_mul_right _ (by omega))
        rw [append_keep (P := P) W t e hA.ht hA.hinfo hA.hzs hA.hsz ho (M k (ns k + i)) (hA.hM _ _)
          (hA.h1 _ _) (by unfold maxLen; omega) hby (hrun 0) c hcl]
        exact hc
    · exact hk2.cell hc hg
theorem In.leave {w : World} {k : Nat} {gv g' : Value} {W : World} (hA : AK P e t tt size bytes z M) (h : In e t size M q vs ns w k 64 gv g' W) (ha : Apart vs) (hk : k ≤ 1000) :
    ∃ g cap w2, (∀ ty, (Builtin.append_ #[tt, tt] ty #[gv, .slice (some ⟨W.heap.size, 0, none⟩) 1 1]).run P (W.alloc (.cells #[g'] t)) = .ok (.slice (some ⟨g, 0, none⟩) (k + 1) cap) w2) ∧
      Gs e t size M q vs ns w (k + 1) (.slice (some ⟨g, 0, none⟩) (k + 1) cap) w2 := by
  obtain ⟨S, gl, hb, ho, hor⟩ := h
  have hzw := hb.keep.size
  have hsz := hA.hsz
  rcases ho.shape with ⟨_, h0⟩ | ⟨h, ch, rfl, hy, hlt⟩
  · omega
  obtain ⟨g, cap, w2, hrun, hown2, hk2, hg2, hz2⟩ := append_x (P := P) W tt t hA.htt hA.hinfo2 rfl (by omega) hb.list [.slice (some ⟨h, 0, none⟩) (ns k + 64) ch] rfl
    (by intro u hu; simp at hu; subst hu; rfl) (by unfold maxLen; omega) (by omega)
  have hX : ∀ b, gv.ownBlock = some b → ¬ S b ∧ b ≠ q ∧ w.heap.size ≤ b := hb.list.2
  have hgB : w.heap.size ≤ g := by
    rcases hg2 with e | e
    · exact (hX g e).2.2
    · omega
  have hgh : g ≠ h := fun e => by
    subst e
    rcases hg2 with e | e
    · exact hy.2.2.2.1 e
    · omega
  have hpos0 : 0 < ns k → ∃ u, (mL M k (ns k))[0]? = some u := fun hp => by
    have hl := mL_len (M := M) hA.hM k (ns k)
    exact ⟨_, List.getElem?_eq_getElem (by rw [hl]; exact Nat.mul_pos hp hsz)⟩
  refine ⟨g, cap, w2, hrun, fun b => S b ∨ b = h ∨ ∃ v cap, vs[k]? = some v ∧ v = .slice (some ⟨b, 0, none⟩) (ns k) cap ∧ 0 < ns k, gl ++ [.slice (some ⟨h, 0, none⟩) (ns k + 64) ch], ⟨?_, ?_, ?_, ?_, ?_, ?_, ?_⟩, ?_⟩
  · simp [hb.len]
  · exact hk2.heap hb.row (fun e => (hX q e).2.1 rfl)
  · exact hb.keep.plus hk2 (fun b hb2 e => by have := (hX b e).2.2; omega)
  · rintro b (e | e | ⟨v, c, hv, rfl, hpos⟩)
    · exact ⟨(hb.bd b e).1, by have := (hb.bd b e).2; omega⟩
    · subst e; exact ⟨hy.2.1, by omega⟩
    · obtain ⟨u0, hu0⟩ := hpos0 hpos
      obtain ⟨g0, c0, e0, h1, h2, _⟩ := hor _ hv 0 u0 hu0
      injection e0 with e1 _ _
      injection e1 with e1
      injection e1 with e1
      subst e1
      exact ⟨h1, by omega⟩
  · refine ⟨hown2.1, fun b hb2 => ?_⟩
    have e : g = b := by simpa [Value.ownBlock] using hb2
    subst e
    refine ⟨?_, ?_, hgB⟩
    · rintro (e | e | ⟨v, c, hv, rfl, hpos⟩)
      · rcases hg2 with e2 | e2
        · exact (hX g e2).1 e
        · have := (hb.bd g e).2; omega
      · exact hgh e
      · obtain ⟨u0, hu0⟩ := hpos0 hpos
        obtain ⟨g0, c0, e0, h1, h2, _⟩ := hor _ hv 0 u0 hu0
        injection e0 with e1 _ _
        injection e1 with e1
        injection e1 with e1
        subst e1
        omega
    · intro e
      subst e
      rcases hg2 with e2 | e2
      · exact (hX g e2).2.1 rfl
      · have := (Array.getElem?_eq_some_iff.1 hb.row).1; omega
  · intro j hj
    rcases Nat.lt_or_ge j k with hjk | hjk
    · exact ((hb.done j hjk).keep hk2 (fun b e => (hX b e).1)).more (fun b e => .inl e) (by rw [List.getElem?_append_left (by rw [hb.len]; exact hjk)])
    · obtain rfl : j = k := by omega
      refine ⟨⟨h, ch, by rw [List.getElem?_append_right (by rw [hb.len]; omega), hb.len]; simp, .inr (.inl rfl), fun c u hu => ?_⟩, fun v hv c u hu => ?_⟩
      · exact hk2.cell (at_row ho hu) (fun e => hy.2.2.2.1 e)
      · obtain ⟨g0, c0, e, h1, h2, hc⟩ := hor v hv c u hu
        have hp : 0 < ns j := by
          rcases Nat.eq_zero_or_pos (ns j) with h0 | h0
          · rw [h0, mL_zero] at hu; simp at hu
          · exact h0
        refine ⟨g0, c0, e, .inr (.inr ⟨v, c0, hv, e, hp⟩), hk2.cell hc (fun e2 => by have := (hX g0 e2).2.2; omega)⟩
  · intro j v hj hv
    have hr := hb.rest j v (by omega) hv
    have := hr.keepX hk2 (fun b e e2 => by have := (hX b e).2.2; have := (hr.2 b e2).2.2; omega)
    refine this.1 |> fun h3 => ⟨h3, fun b hb2 => ?_⟩
    obtain ⟨k1, k2, k3⟩ := hr.2 b hb2
    refine ⟨?_, k2, k3⟩
    rintro (e | e | ⟨u, c, hu, rfl, hpos⟩)
    · exact k1 e
    · subst e; exact hy.2.2.2.2 j v (by omega) hv hb2
    · exact ha k j _ v b (by omega) hu hv rfl hb2
  · intro v hv
    have hr := hb.rest (k + 1) v (by omega) hv
    have := hr.keepX hk2 (fun b e e2 => by have := (hX b e).2.2; have := (hr.2 b e2).2.2; omega)
    refine this.1 |> fun h3 => ⟨h3, fun b hb2 => ?_⟩
    obtain ⟨k1, k2, k3⟩ := hr.2 b hb2
    refine ⟨?_, k2, k3⟩
    rintro (e | e | ⟨u, c, hu, rfl, hpos⟩)
    · exact k1 e
    · subst e; exact hy.2.2.2.2 (k + 1) v (by omega) hv hb2
    · exact ha k (k + 1) _ v b (by omega) hu hv rfl hb2
end Go.Kt.Lk
/- The kit's marks of tokens. -/
namespace Go.Proofs.YtlfdpdlhppgakaaGreatDoor
open Go Go.RowKit Go.Kt Go.Shelf Go.Lib
attribute [local go_sem] Oper.semAt_some

/-- The mark of a place in a list of texts. -/
def mtL (k i : Nat) : List UInt8 := [35, UInt8.ofNat (k % 256), UInt8.ofNat (k / 256), UInt8.ofNat (i % 256), UInt8.ofNat (i / 256 % 256)]
set_option maxRecDepth 100000 in
theorem markText_any (k i : Nat) (w : World) (hk : k ≤ 1000) (hi : i ≤ 4194304) :
    Calls Tryz.prog 57 #[.int .i64 (k : Nat), .int .i64 (i : Nat)] w fun e w' => e = .returned (.string ⟨(mtL k i).toArray⟩) ∧ Below w.heap.size w w' := by
  have hc : Lib.byteCells (mtL k i) = [.int .u8 35, .int .u8 ((k : Int) % 256), .int .u8 ((k : Int) / 256), .int .u8 ((i : Int) % 256), .int .u8 ((i : Int) / 256 % 256)] := by
    have h : ∀ n : Nat, n < 256 → (((UInt8.ofNat n).toNat : Nat) : Int) = (n : Int) := fun n hn => by rw [UInt8.toNat_ofNat']; omega
    unfold mtL
    simp only [Lib.byteCells, List.map_cons, List.map_nil]
    rw [h (k % 256) (by omega), h (k / 256) (by omega), h (i % 256) (by omega), h (i / 256 % 256) (by omega)]
    simp
  have ht := (newB_own (l := mtL k i) (w := w) (by simp [mtL])).text
  rw [hc] at ht
  have hl : (mtL k i).length = 5 := rfl
  rw [hl] at ht
  generalize mtL k i = X at *
  clear hc hl
  go_enter Tryz.func57, Tryz.ntmps57
  go_wp2_with (simp only [ht])
  go_ret
  exact ⟨rfl, (Below.refl _ w).alloc (Nat.le_refl _) _⟩
/-- A token's mark, cell by cell. -/
def mkT (k i : Nat) : List Value := [.int .i64 (-7), .string ⟨(mtL k i).toArray⟩, .int .i64 0, .int .i64 0, .int .i64 0]
theorem tinfoSlT : (Tryz.prog.info? 24).map (fun i => (i.zero, i.size, i.bytes)) = some (some (.slice none 0 0), 1, 24) := by kernel_rfl
theorem akT : Lk.AK Tryz.prog 39 24 35 5 48 (.agg #[.int .i64 0, .string ⟨#[]⟩, .int .i64 0, .int .i64 0, .int .i64 0]) mkT :=
  ⟨Tryz.underlying24, tinfoTok, rfl, by decide, Tryz.underlying35, tinfoSlT, fun _ _ => rfl, fun k i u hu => by
    unfold mkT at hu
    simp at hu
    rcases hu with rfl | rfl | rfl <;> rfl, by decide⟩
set_option maxRecDepth 100000 in
theorem markTokens_any (k i : Nat) (w : World) (hk : k ≤ 1000) (hi : i ≤ 4194304) :
    Calls Tryz.prog 31 #[.int .i64 (k : Nat), .int .i64 (i : Nat)] w fun e w' => e = .returned (tkA (-7) ⟨(mtL k i).toArray⟩ 0 0 0) ∧ Below w.heap.size w w' := by
  have CM := Lib.hid (fun V => markText_any k i V hk hi)
  generalize mtL k i = X at *
  obtain ⟨n, hn⟩ : ∃ n, w.heap.size = n := ⟨_, rfl⟩
  obtain ⟨W0, hW0⟩ : ∃ W0, w.alloc (.cells (tkX 0 ⟨#[]⟩ 0 0 0) 39) = W0 := ⟨_, rfl⟩
  have n0 : W0.heap[n]? = some (.cells (tkX 0 ⟨#[]⟩ 0 0 0) 39 (0, 0)) := by rw [← hW0, ← hn]; exact World.alloc_heap_new w _
  have b0 : Below n w W0 := by rw [← hW0, ← hn]; exact (Below.refl _ w).alloc (Nat.le_refl _) _
  have HST : Hid (∀ w5, Below W0.heap.size W0 w5 → ∃ W7, (Instr.storeAt 39 (.pointer (some ⟨n, 0, none⟩)) (tkA (-7) ⟨X.toArray⟩ 0 0 0)).run Tryz.prog w5 = .ok () W7 ∧ W7.heap[n]? = some (.cells (tkX (-7) ⟨X.toArray⟩ 0 0 0) 39 (0, 0)) ∧ Below n w W7) := Lib.hid fun w5 h5 => by
    have hlt := (Array.getElem?_eq_some_iff.1 n0).1
    have n5 := (h5.block n hlt).trans n0
    exact ⟨_, store_new w5 n _ _ _ _ _ (-7) ⟨X.toArray⟩ 0 0 0 n5, set5_at (-7) ⟨X.toArray⟩ 0 0 0 n5, (b0.trans (h5.mono (by omega))).trans (set5_below (V := w5) (Nat.le_refl n) (-7) ⟨X.toArray⟩ 0 0 0)⟩
  rw [hn]
  clear n0 b0
  go_enter Tryz.func31, Tryz.ntmps31
  go_wp2_with (first | (go_at_call 57; refine (CM.out _).mono ?_; clear CM; rintro e w5 ⟨rfl, h5⟩; obtain ⟨W7, st, n7, b7⟩ := HST.out w5 h5; have ST := Lib.hid st; have HE := Lib.hid (And.intro n7 b7); clear st n7 b7 HST) | (refine wpList_store_eq rfl rfl rfl rfl rfl ST.out ?_; clear ST))
  (try simp only [Exit.inBlock, Exit.then])
  refine bodyPost_ret (results_cell_row rfl _ _ n 39 (tkX (-7) ⟨X.toArray⟩ 0 0 0) (0, 0) _ rfl HE.out.1 Tryz.underlying39 rfl (by kernel_rfl)) rfl ?_
  exact ⟨rfl, HE.out.2⟩
end Go.Proofs.YtlfdpdlhppgakaaGreatDoor
/- The kit's look at lists of tokens that were handed out: the walk. -/
namespace Go.Proofs.YtlfdpdlhppgakaaGreatDoor
open Go Go.RowKit Go.Kt Go.Shelf Go.Lib
attribute [local go_sem] Oper.semAt_some

/-- Five cells of a row of one's own, written one behind the other: what is asked of each. -/
theorem five {Y : Nat → Prop} {n g cap : Nat} {xs : List Value} {W : World} (ho : OwnS Y 39 5 (.slice (some ⟨g, 0, none⟩) n cap) n xs W) {o : Nat} (h : o + 4 < xs.length) (a b c d e : Value) :
    (∃ u, W.cell? ⟨g, o, none⟩ = some u) ∧ (∃ u, (W.setCell ⟨g, o, none⟩ a).cell? ⟨g, o + 1, none⟩ = some u) ∧ (∃ u, ((W.setCell ⟨g, o, none⟩ a).setCell ⟨g, o + 1, none⟩ b).cell? ⟨g, o + 2, none⟩ = some u) ∧ (∃ u, (((W.setCell ⟨g, o, none⟩ a).setCell ⟨g, o + 1, none⟩ b).setCell ⟨g, o + 2, none⟩ c).cell? ⟨g, o + 3, none⟩ = some u) ∧
    (∃ u, ((((W.setCell ⟨g, o, none⟩ a).setCell ⟨g, o + 1, none⟩ b).setCell ⟨g, o + 2, none⟩ c).setCell ⟨g, o + 3, none⟩ d).cell? ⟨g, o + 4, none⟩ = some u) ∧
    W.frozen? ⟨g, o, none⟩ = false ∧ (W.setCell ⟨g, o, none⟩ a).frozen? ⟨g, o + 1, none⟩ = false ∧ ((W.setCell ⟨g, o, none⟩ a).setCell ⟨g, o + 1, none⟩ b).frozen? ⟨g, o + 2, none⟩ = false ∧ (((W.setCell ⟨g, o, none⟩ a).setCell ⟨g, o + 1, none⟩ b).setCell ⟨g, o + 2, none⟩ c).frozen? ⟨g, o + 3, none⟩ = false ∧
    ((((W.setCell ⟨g, o, none⟩ a).setCell ⟨g, o + 1, none⟩ b).setCell ⟨g, o + 2, none⟩ c).setCell ⟨g, o + 3, none⟩ d).frozen? ⟨g, o + 4, none⟩ = false := by
  have st : ∀ {V : World} {ys : List Value} (hv : OwnS Y 39 5 (.slice (some ⟨g, 0, none⟩) n cap) n ys V) (j : Nat) (u : Value), OwnS Y 39 5 (.slice (some ⟨g, 0, none⟩) n cap) n (ys.set j u) (V.setCell ⟨g, j, none⟩ u) := fun hv j u => ⟨(hv.1.stored j u).1, hv.2⟩
  have at_ : ∀ {V : World} {ys : List Value} (hv : OwnS Y 39 5 (.slice (some ⟨g, 0, none⟩) n cap) n ys V) (j : Nat), j < ys.length → ∃ u, V.cell? ⟨g, j, none⟩ = some u := fun hv j hj => ⟨_, Lk.at_row hv (List.getElem?_eq_getElem hj)⟩
  have o1 := st ho o a
  have o2 := st o1 (o + 1) b
  have o3 := st o2 (o + 2) c
  have o4 := st o3 (o + 3) d
  exact ⟨at_ ho o (by omega), at_ o1 (o + 1) (by simp; omega), at_ o2 (o + 2) (by simp; omega), at_ o3 (o + 3) (by simp; omega), at_ o4 (o + 4) (by simp; omega), Lk.fz_row ho _, Lk.fz_row o1 _, Lk.fz_row o2 _, Lk.fz_row o3 _, Lk.fz_row o4 _⟩

abbrev HandT (q : Nat) (vs : List Value) (ns : Nat → Nat) (w : World) : Prop := Lk.Handed 39 24 5 q vs ns w
abbrev MkT (q : Nat) (vs : List Value) (ns : Nat → Nat) (w : World) (k i : Nat) (W : World) : Prop := Lk.Mk 39 24 5 mkT q vs ns w k i W
abbrev GsT (q : Nat) (vs : List Value) (ns : Nat → Nat) (w : World) (k : Nat) (gv : Value) (W : World) : Prop := Lk.Gs 39 24 5 mkT q vs ns w k gv W
abbrev InT (q : Nat) (vs : List Value) (ns : Nat → Nat) (w : World) (k i : Nat) (gv g' : Value) (W : World) : Prop := Lk.In 39 24 5 mkT q vs ns w k i gv g' W

theorem mk_get {p n i c : Nat} {u : Value} (hi : i < n) (hu : (mkT p i)[c]? = some u) : (Lk.mL mkT p n)[i * 5 + c]? = some u := Lk.mL_get (M := mkT) (size := 5) (fun _ _ => rfl) p n i c u hi hu
/-- The five cells of a mark. -/
theorem mk_cells {W : World} {b n p i : Nat} (hi : i < n) (h : ∀ (c : Nat) u, (Lk.mL mkT p n)[c]? = some u → W.cell? ⟨b, c, none⟩ = some u) :
    W.cell? ⟨b, i * 5, none⟩ = some (.int .i64 (-7)) ∧ W.cell? ⟨b, i * 5 + 1, none⟩ = some (.string ⟨(mtL p i).toArray⟩) ∧ W.cell? ⟨b, i * 5 + 2, none⟩ = some (.int .i64 0) ∧ W.cell? ⟨b, i * 5 + 3, none⟩ = some (.int .i64 0) ∧ W.cell? ⟨b, i * 5 + 4, none⟩ = some (.int .i64 0) :=
  ⟨h _ _ (mk_get (c := 0) (u := .int .i64 (-7)) hi rfl), h _ _ (mk_get (c := 1) (u := .string ⟨(mtL p i).toArray⟩) hi rfl), h _ _ (mk_get (c := 2) (u := .int .i64 0) hi rfl), h _ _ (mk_get (c := 3) (u := .int .i64 0) hi rfl), h _ _ (mk_get (c := 4) (u := .int .i64 0) hi rfl)⟩
theorem own_cells {S : Nat → Prop} {W : World} {ao : Option Addr} {n vc p i : Nat} (hi : i < n) (h : ∀ (c : Nat) u, (Lk.mL mkT p n)[c]? = some u → ∃ g cap, Value.slice ao n vc = .slice (some ⟨g, 0, none⟩) n cap ∧ S g ∧ W.cell? ⟨g, c, none⟩ = some u) :
    ∃ g, ao = some ⟨g, 0, none⟩ ∧ ∀ (c : Nat) u, (Lk.mL mkT p n)[c]? = some u → W.cell? ⟨g, c, none⟩ = some u := by
  obtain ⟨g, cap, e, _, _⟩ := h _ _ (mk_get (c := 0) (u := .int .i64 (-7)) hi rfl)
  injection e with e2 _ _
  refine ⟨g, e2, fun c u hu => ?_⟩
  obtain ⟨g2, cap2, e5, _, hgc⟩ := h c u hu
  injection e5 with e6 _ _
  rw [e2] at e6
  injection e6 with e6
  injection e6 with e6
  subst e6
  exact hgc
/-- What the last loop's round has behind the mark that it made. -/
def LookT (W3 wr : World) (q p h0 h n : Nat) (ao : Option Addr) (vc ch i : Nat) (X : ByteArray) : Prop := ∀ w5, Below wr.heap.size wr w5 → ∃ W6 W7, w5.alloc (.cells (tkX 0 ⟨#[]⟩ 0 0 0) 39) = W6 ∧ (Instr.storeAt 39 (.pointer (some ⟨w5.heap.size, 0, none⟩)) (tkA (-7) X 0 0 0)).run Tryz.prog W6 = .ok () W7 ∧ W7.heap[w5.heap.size]? = some (.cells (tkX (-7) X 0 0 0) 39 (0, 0)) ∧ Below W3.heap.size W3 W7 ∧
  W7.cell? ⟨q, p, none⟩ = some (.slice ao n vc) ∧ W7.cell? ⟨h0, p, none⟩ = some (.slice (some ⟨h, 0, none⟩) (n + 64) ch) ∧
  (W7.cell? ⟨h, i * 5, none⟩ = some (.int .i64 (-7)) ∧ W7.cell? ⟨h, i * 5 + 1, none⟩ = some (.string X) ∧ W7.cell? ⟨h, i * 5 + 2, none⟩ = some (.int .i64 0) ∧ W7.cell? ⟨h, i * 5 + 3, none⟩ = some (.int .i64 0) ∧ W7.cell? ⟨h, i * 5 + 4, none⟩ = some (.int .i64 0)) ∧
  (i < n → ∃ g, ao = some ⟨g, 0, none⟩ ∧ W7.cell? ⟨g, i * 5, none⟩ = some (.int .i64 (-7)) ∧ W7.cell? ⟨g, i * 5 + 1, none⟩ = some (.string X) ∧ W7.cell? ⟨g, i * 5 + 2, none⟩ = some (.int .i64 0) ∧ W7.cell? ⟨g, i * 5 + 3, none⟩ = some (.int .i64 0) ∧ W7.cell? ⟨g, i * 5 + 4, none⟩ = some (.int .i64 0))
theorem lookT_of {S : Nat → Prop} {W3 wr : World} {q p h0 h n vc ch i : Nat} {ao : Option Addr} (hd : Below W3.heap.size W3 wr) (hq : W3.cell? ⟨q, p, none⟩ = some (.slice ao n vc)) (hl : W3.cell? ⟨h0, p, none⟩ = some (.slice (some ⟨h, 0, none⟩) (n + 64) ch)) (hil : i < n + 64)
    (hc : ∀ (c : Nat) u, (Lk.mL mkT p (n + 64))[c]? = some u → W3.cell? ⟨h, c, none⟩ = some u)
    (ho : ∀ (c : Nat) u, (Lk.mL mkT p n)[c]? = some u → ∃ g cap, Value.slice ao n vc = .slice (some ⟨g, 0, none⟩) n cap ∧ S g ∧ W3.cell? ⟨g, c, none⟩ = some u) : LookT W3 wr q p h0 h n ao vc ch i ⟨(mtL p i).toArray⟩ := by
  intro w5 h5
  have far : ∀ {a : Addr} {u : Value} {V : World}, Below W3.heap.size W3 V → W3.cell? a = some u → V.cell? a = some u := fun hV hu => (hV.cell (Kt.lt_of_cell hu)).trans hu
  obtain ⟨W6, hW6⟩ : ∃ W6, w5.alloc (.cells (tkX 0 ⟨#[]⟩ 0 0 0) 39) = W6 := ⟨_, rfl⟩
  have n6 : W6.heap[w5.heap.size]? = some (.cells (tkX 0 ⟨#[]⟩ 0 0 0) 39 (0, 0)) := by rw [← hW6]; exact World.alloc_heap_new w5 _
  have b6 : Below w5.heap.size w5 W6 := by rw [← hW6]; exact (Below.refl _ w5).alloc (Nat.le_refl _) _
  have b57 := b6.trans (set5_below (V := W6) (Nat.le_refl w5.heap.size) (-7) ⟨(mtL p i).toArray⟩ 0 0 0)
  have z3 := hd.size
  have z5 := h5.size
  have b7 : Below W3.heap.size W3 (set5 W6 w5.heap.size (-7) ⟨(mtL p i).toArray⟩ 0 0 0) := (hd.trans (h5.mono z3)).trans (b57.mono (Nat.le_trans z3 z5))
  have st := store_new W6 w5.heap.size _ _ _ _ _ (-7) ⟨(mtL p i).toArray⟩ 0 0 0 n6
  have n7 := set5_at (-7) ⟨(mtL p i).toArray⟩ 0 0 0 n6
  obtain ⟨W7, hW7⟩ : ∃ W7, set5 W6 w5.heap.size (-7) ⟨(mtL p i).toArray⟩ 0 0 0 = W7 := ⟨_, rfl⟩
  rw [hW7] at b7 st n7
  refine ⟨W6, W7, hW6, st, n7, b7, far b7 hq, far b7 hl, mk_cells hil (fun c u hu => far b7 (hc c u hu)), fun hin => ?_⟩
  obtain ⟨g, e, hg⟩ := own_cells hin ho
  exact ⟨g, e, mk_cells hin (fun c u hu => far b7 (hg c u hu))⟩

set_option maxRecDepth 100000 in
set_option maxHeartbeats 8000000 in
theorem apartTokens_any (q mcap : Nat) (vs : List Value) (ns : Nat → Nat) (w : World) (hH : HandT q vs ns w) :
    Calls Tryz.prog 16 #[.slice (some ⟨q, 0, none⟩) vs.length mcap] w fun e w' => e = .returned (.bool true) ∧ Keep (Lk.Xs vs) w w' := by
  have HH := Lib.hid hH
  have hm := hH.few
  obtain ⟨m, hml⟩ : ∃ m, vs.length = m := ⟨_, rfl⟩
  rw [hml] at hm ⊢
  have HM := Lib.hid hml
  clear hH hml
  go_enter Tryz.func16, Tryz.ntmps16
  go_wp2
  go_loopw [3] (fun kv wr => ∃ k : Nat, k ≤ m ∧ kv = .int .i64 k ∧ MkT q vs ns w k 0 wr) (fun kv _ => m - (RowKit.intOf kv).toNat)
  case atStart => exact ⟨0, by omega, rfl, HH.out.mk0⟩
  case round =>
    obtain ⟨k, hk, rfl, hmk⟩ := hrel
    by_cases hlt : k < m
    · obtain ⟨v, hv⟩ : ∃ v, vs[k]? = some v := ⟨vs[k]'(by rw [HM.out]; exact hlt), List.getElem?_eq_getElem _⟩
      obtain ⟨hn, xs0, ho0⟩ := HH.out.own k v hv
      have HV := Lib.hid hv
      obtain ⟨n, hnn⟩ : ∃ n, ns k = n := ⟨_, rfl⟩
      have hsh : ∃ ao cap, v = .slice ao n cap := by
        rcases ho0.shape with ⟨h, h0⟩ | ⟨g, cap, h, _⟩
        · exact ⟨none, 0, by rw [h, ← hnn, h0]⟩
        · exact ⟨_, cap, by rw [h, hnn]⟩
      obtain ⟨ao, vc, rfl⟩ := hsh
      rw [hnn] at hn
      have HN := Lib.hid hnn
      have HK := Lib.hid hmk
      clear hv hnn ho0 hmk
      go_wp2
      go_loopw [4] (fun iv wr => ∃ i : Nat, i ≤ n ∧ iv = .int .i64 i ∧ MkT q vs ns w k i wr) (fun iv _ => n - (RowKit.intOf iv).toNat)
      case atStart => exact ⟨0, by omega, rfl, HK.out⟩
      case round =>
        clear HK
        obtain ⟨i, hi, rfl, hmk⟩ := hrel
        have hqc : wr.cell? ⟨q, k, none⟩ = some (.slice ao n vc) := by
          rw [Lib.cell_of_heap hmk.1]
          simpa using HV.out
        by_cases hil : i < n
        · obtain ⟨xs, ho, _⟩ := hmk.2.2 k _ HV.out
          rw [HN.out] at ho
          obtain ⟨g, rfl⟩ : ∃ g, ao = some ⟨g, 0, none⟩ := by
            rcases ho.shape with ⟨h, h0⟩ | ⟨g, cap, h, _⟩
            · omega
            · injection h with e1 _ _
              exact ⟨g, e1⟩
          have HS : Hid (∀ w5, Below (wr.drewN 1).heap.size (wr.drewN 1) w5 → w5.cell? ⟨q, k, none⟩ = some (.slice (some ⟨g, 0, none⟩) n vc) ∧ ∃ xs, OwnS (fun b => b ≠ q ∧ b < w.heap.size) 39 5 (.slice (some ⟨g, 0, none⟩) n vc) n xs w5 ∧ i * 5 + 4 < xs.length ∧ MkT q vs ns w k (i + 1) (Lk.setB w5 g (i * 5) (mkT k i))) := Lib.hid fun w5 h5 => by
            have hm5 := (hmk.call (below_drewN (Below.refl _ wr) 1)).call h5
            obtain ⟨xs5, ho5, _⟩ := hm5.2.2 k _ HV.out
            rw [HN.out] at ho5
            refine ⟨?_, xs5, ho5, ?_, hm5.store akT HH.out.apart (by rw [HN.out]; exact HV.out) (by rw [HN.out]; exact hil)⟩
            · rw [Lib.cell_of_heap hm5.1]
              simpa using HV.out
            · have := ho5.1.1
              omega
          have CM := Lib.hid (fun W => markTokens_any k i W (by omega) (by omega))
          have b0 : (0 : Int) ≤ (i : Int) := by omega
          have b1 : (i : Int) < (n : Int) := by omega
          generalize hX : mtL k i = X at *
          have HXX := Lib.hid hX
          clear hmk ho hX
          go_wp2
          go_region_with (first | (go_at_call 31; refine (CM.out _).mono ?_; rintro e w5 ⟨rfl, h5⟩; obtain ⟨hq5, xs5, ho5, hl5, hm5⟩ := HS.out w5 h5; obtain ⟨⟨u0, q0⟩, ⟨u1, q1⟩, ⟨u2, q2⟩, ⟨u3, q3⟩, ⟨u4, q4⟩, f0, f1, f2, f3, f4⟩ := five ho5 hl5 (.int .i64 (-7)) (.string ⟨X.toArray⟩) (.int .i64 0) (.int .i64 0) (.int .i64 0); have HE := Lib.hid hm5; clear hm5 ho5 hl5))
          all_goals
            have hE := HE.out
            have hse : Lk.setB w5 g (i * 5) (mkT k i) = ((((w5.setCell ⟨g, i * 5, none⟩ (.int .i64 (-7))).setCell ⟨g, i * 5 + 1, none⟩ (.string ⟨X.toArray⟩)).setCell ⟨g, i * 5 + 2, none⟩ (.int .i64 0)).setCell ⟨g, i * 5 + 3, none⟩ (.int .i64 0)).setCell ⟨g, i * 5 + 4, none⟩ (.int .i64 0) := by
              unfold mkT
              rw [HXX.out]
              rfl
            rw [hse] at hE
            have HE2 := Lib.hid hE
            clear hE hse q0 q1 q2 q3 q4 f0 f1 f2 f3 f4
            go_wp2
            go_roundw
            case rel => exact ⟨i + 1, by omega, by go_num, HE2.out⟩
            case measure => simp [RowKit.intOf]; omega
        · obtain rfl : i = n := by omega
          have HS := Lib.hid (hmk.start HN.out.symm)
          clear hmk
          go_wp2
          go_roundw
          case rel => exact ⟨k + 1, by omega, by go_num, HS.out⟩
          case measure => simp [RowKit.intOf]; omega
    · obtain rfl : k = m := by omega
      rw [← HM.out] at hmk
      have HG := Lib.hid hmk.gs0
      clear hmk
      go_wp2
      go_loopw [5, 6] (fun gv kv wr => ∃ (k' : Nat) (ao : Option Addr) (cp : Nat), k' ≤ k ∧ kv = .int .i64 k' ∧ gv = .slice ao k' cp ∧ GsT q vs ns w k' (.slice ao k' cp) wr) (fun _ kv _ => k - (RowKit.intOf kv).toNat)
      case atStart => exact ⟨0, none, 0, by omega, rfl, rfl, HG.out⟩
      case round =>
        clear HG
        obtain ⟨j, ag, cg, hj, rfl, rfl, hgs⟩ := hrel
        by_cases hjl : j < k
        · obtain ⟨v, hv⟩ : ∃ v, vs[j]? = some v := ⟨vs[j]'(by rw [HM.out]; exact hjl), List.getElem?_eq_getElem _⟩
          obtain ⟨hn, xs0, ho0⟩ := HH.out.own j v hv
          have HV := Lib.hid hv
          obtain ⟨n, hnn⟩ : ∃ n, ns j = n := ⟨_, rfl⟩
          obtain ⟨ao, vc, rfl⟩ : ∃ ao cap, v = .slice ao n cap := by
            rcases ho0.shape with ⟨h, h0⟩ | ⟨g, cap, h, _⟩
            · exact ⟨none, 0, by rw [h, ← hnn, h0]⟩
            · exact ⟨_, cap, by rw [h, hnn]⟩
          rw [hnn] at hn
          have HN := Lib.hid hnn
          have HI := Lib.hid (hgs.enter HH.out.apart hv)
          have hqc : wr.cell? ⟨q, j, none⟩ = some (.slice ao n vc) := by
            obtain ⟨S, gl, hb, _⟩ := hgs
            rw [Lib.cell_of_heap hb.row]
            simpa using HV.out
          clear hv hnn ho0 hgs
          go_wp2
          clear hqc
          go_loopw [7, 8] (fun g' iv wr => ∃ (i r : Nat) (a2 : Option Addr) (c2 : Nat), i ≤ 64 ∧ iv = .int .i64 i ∧ r = n + i ∧ g' = .slice a2 r c2 ∧ InT q vs ns w j i (.slice ag j cg) (.slice a2 r c2) wr) (fun _ iv _ => 64 - (RowKit.intOf iv).toNat)
          case atStart => exact ⟨0, n, ao, vc, by omega, rfl, rfl, rfl, HI.out⟩
          case round =>
            clear HI
            obtain ⟨i, r, a2, c2, hi, rfl, hr, rfl, hin⟩ := hrel
            by_cases hil : i < 64
            · have hqc : wr.cell? ⟨q, j, none⟩ = some (.slice ao n vc) := by
                obtain ⟨S, gl, hb, _⟩ := hin
                rw [Lib.cell_of_heap hb.row]
                simpa using HV.out
              have CM : Hid (∀ W, Calls Tryz.prog 31 #[.int .i64 (j : Nat), .int .i64 ((n : Int) + (i : Nat))] W fun e w' => e = .returned (tkA (-7) ⟨(mtL j (n + i)).toArray⟩ 0 0 0) ∧ Below W.heap.size W w') := Lib.hid (fun W => by
                have := markTokens_any j (n + i) W (by omega) (by omega)
                rw [Int.natCast_add] at this
                exact this)
              have HSt : Hid (∀ w5, Below wr.heap.size wr w5 → ∃ g cap w2, (∀ ty, (Builtin.append_ #[24, 24] ty #[.slice a2 r c2, .slice (some ⟨w5.heap.size, 0, none⟩) 1 1]).run Tryz.prog (w5.alloc (.cells (tkX (-7) ⟨(mtL j (n + i)).toArray⟩ 0 0 0) 39)) = .ok (.slice (some ⟨g, 0, none⟩) (n + (i + 1)) cap) w2) ∧ InT q vs ns w j (i + 1) (.slice ag j cg) (.slice (some ⟨g, 0, none⟩) (n + (i + 1)) cap) w2) := Lib.hid fun w5 h5 => by
                have := (hin.call h5).step akT (by rw [HN.out]; exact hn) hi
                rw [HN.out] at this
                exact this
              have HR := Lib.hid hr
              generalize mtL j (n + i) = X at *
              clear hin hr
              go_wp2_with (first | (go_at_call 31; refine (CM.out _).mono ?_; clear CM; rintro e w5 ⟨rfl, h5⟩; obtain ⟨g, cap, w2, hrun, hin2⟩ := HSt.out w5 h5; have HRun := Lib.hid hrun; have HI2 := Lib.hid hin2; clear hrun hin2 HSt) | (at_builtin; refine wpList_append_eq rfl rfl rfl rfl HRun.out ?_; clear HRun))
              go_roundw
              case rel => exact ⟨i + 1, n + (i + 1), _, cap, by omega, by go_num, rfl, rfl, HI2.out⟩
              case measure => simp [RowKit.intOf]; omega
            · obtain rfl : i = 64 := by omega
              obtain ⟨g, cap, w2, hrun, hgs2⟩ := hin.leave akT HH.out.apart (by omega)
              rw [HN.out, ← hr] at *
              have HRun := Lib.hid hrun
              have HG2 := Lib.hid hgs2
              clear hrun hgs2 hin hr
              go_wp2_with (at_builtin; refine wpList_append_eq rfl rfl rfl rfl HRun.out ?_)
              go_roundw
              case rel => exact ⟨j + 1, _, cap, by omega, by go_num, rfl, HG2.out⟩
              case measure => simp [RowKit.intOf]; omega
        · obtain rfl : j = k := by omega
          obtain ⟨S, gl, hb, _⟩ := hgs
          have HB := Lib.hid hb
          clear hb
          obtain ⟨W3, rfl⟩ : ∃ W3 : World, W3 = wr := ⟨_, rfl⟩
          go_wp2
          go_loopw [9] (fun kv wi => ∃ k' : Nat, k' ≤ j ∧ kv = .int .i64 k' ∧ Below W3.heap.size W3 wi) (fun kv _ => j - (RowKit.intOf kv).toNat)
          case atStart => exact ⟨0, by omega, rfl, Below.refl _ _⟩
          case round =>
            obtain ⟨p, hp, rfl, hd⟩ := hrel
            by_cases hpl : p < j
            · obtain ⟨⟨h, ch, hgl, hS, hcs⟩, hown⟩ := HB.out.done p hpl
              obtain ⟨v, hv⟩ : ∃ v, vs[p]? = some v := ⟨vs[p]'(by rw [HM.out]; exact hpl), List.getElem?_eq_getElem _⟩
              obtain ⟨hn, xs0, ho0⟩ := HH.out.own p v hv
              have hqc0 : W3.cell? ⟨q, p, none⟩ = some v := by
                rw [Lib.cell_of_heap HB.out.row]
                simpa using hv
              have HO := Lib.hid (hown v hv)
              clear hv hown
              obtain ⟨n, hnn⟩ : ∃ n, ns p = n := ⟨_, rfl⟩
              obtain ⟨ao, vc, rfl⟩ : ∃ ao cap, v = .slice ao n cap := by
                rcases ho0.shape with ⟨h, h0⟩ | ⟨g, cap, h, _⟩
                · exact ⟨none, 0, by rw [h, ← hnn, h0]⟩
                · exact ⟨_, cap, by rw [h, hnn]⟩
              rw [hnn] at hn hgl hcs HO
              obtain ⟨h0, rfl⟩ : ∃ h0, ag = some ⟨h0, 0, none⟩ := by
                rcases HB.out.list.shape with ⟨_, e⟩ | ⟨g, cap, e, _⟩
                · omega
                · injection e with e1 _ _
                  exact ⟨g, e1⟩
              have hlc0 : W3.cell? ⟨h0, p, none⟩ = some (.slice (some ⟨h, 0, none⟩) (n + 64) ch) := Lk.at_row HB.out.list hgl
              have HC := Lib.hid hcs
              have HF := Lib.hid (And.intro hqc0 hlc0)
              have HN := Lib.hid hnn
              have HD := Lib.hid hd
              clear hnn ho0 hgl hcs hlc0 hqc0 hS hd
              go_wp2
              go_loopw [10] (fun iv wj => ∃ i : Nat, i ≤ n + 64 ∧ iv = .int .i64 i ∧ Below W3.heap.size W3 wj) (fun iv _ => n + 64 - (RowKit.intOf iv).toNat)
              case atStart => exact ⟨0, by omega, rfl, HD.out⟩
              case round =>
                clear HD
                obtain ⟨i, hi, rfl, hd⟩ := hrel
                have far : ∀ {a : Addr} {u : Value} {V : World}, Below W3.heap.size W3 V → W3.cell? a = some u → V.cell? a = some u := fun hV hu => (hV.cell (Kt.lt_of_cell hu)).trans hu
                have hlc := far hd HF.out.2
                by_cases hil : i < n + 64
                · have CM := Lib.hid (fun W => markTokens_any p i W (by omega) (by omega))
                  have HST := Lib.hid (lookT_of hd HF.out.1 HF.out.2 hil HC.out HO.out)
                  have b0 : (0 : Int) ≤ (i : Int) := by omega
                  have b1 : (i : Int) < ((n + 64 : Nat) : Int) := by omega
                  have c0 : (0 : Int) ≤ (p : Int) := by omega
                  have c1 : (p : Int) < (j : Int) := by omega
                  generalize mtL p i = X at *
                  clear hd far
                  by_cases hin : i < n
                  · have hd1 : decide ((i : Int) < (n : Int)) = true := by simpa using hin
                    have b2 : (i : Int) < (n : Int) := by omega
                    go_wp2_with (first | (go_at_call 31; refine (CM.out _).mono ?_; clear CM; rintro e w5 ⟨rfl, h5⟩; obtain ⟨W6, W7, hW6, st, n7, b7, k1, k2, ⟨l0, l1, l2, l3, l4⟩, k3⟩ := HST.out w5 h5; obtain ⟨g, rfl, g0, g1, g2, g3, g4⟩ := k3 hin; obtain ⟨n5, hn5⟩ : ∃ n5, w5.heap.size = n5 := ⟨_, rfl⟩; rw [hn5] at st n7; obtain ⟨t0, t1, t2, t3, t4⟩ := cells5 n7; have ST := Lib.hid st; have HE := Lib.hid b7; clear st n7 b7 k3 h5 HST) | (refine wpList_store_eq rfl rfl rfl rfl rfl ST.out ?_; clear ST))
                    go_quiet (fail)
                    go_wp2
                    go_roundw
                    case rel => exact ⟨i + 1, by omega, by go_num, HE.out.trans (below_drewN (Below.refl _ _) _)⟩
                    case measure => simp [RowKit.intOf]; omega
                  · have hd1 : decide ((i : Int) < (n : Int)) = false := by simpa using hin
                    go_wp2_with (first | (go_at_call 31; refine (CM.out _).mono ?_; clear CM; rintro e w5 ⟨rfl, h5⟩; obtain ⟨W6, W7, hW6, st, n7, b7, k1, k2, ⟨l0, l1, l2, l3, l4⟩, k3⟩ := HST.out w5 h5; obtain ⟨n5, hn5⟩ : ∃ n5, w5.heap.size = n5 := ⟨_, rfl⟩; rw [hn5] at st n7; obtain ⟨t0, t1, t2, t3, t4⟩ := cells5 n7; have ST := Lib.hid st; have HE := Lib.hid b7; clear st n7 b7 k3 h5 HST) | (refine wpList_store_eq rfl rfl rfl rfl rfl ST.out ?_; clear ST))
                    go_quiet (fail)
                    go_wp2
                    go_roundw
                    case rel => exact ⟨i + 1, by omega, by go_num, HE.out.trans (below_drewN (Below.refl _ _) _)⟩
                    case measure => simp [RowKit.intOf]; omega
                · have HD := Lib.hid hd
                  clear hd far
                  go_wp2
                  go_roundw
                  case rel => exact ⟨p + 1, by omega, by go_num, HD.out⟩
                  case measure => simp [RowKit.intOf]; omega
            · go_wp2
              go_ret
              exact ⟨rfl, HB.out.keep.plus (Keep.of_all (X := fun _ => False) hd) (fun _ _ h => h.elim)⟩
end Go.Proofs.YtlfdpdlhppgakaaGreatDoor
/- The kit's look at lists of numbers that were handed out: have they memory of their own? What its loops keep. -/
namespace Go.Proofs.YtlfdpdlhppgakaaGreatDoor
open Go Go.RowKit Go.Kt Go.Shelf

def mk (k i : Nat) : Int := -1000 * ((k : Int) + 1) - i
/-- The marks of list k. -/
def mkL (k n : Nat) : List Int := (List.range n).map fun i : Nat => mk k i
theorem mkL_succ (k n : Nat) : mkL k (n + 1) = mkL k n ++ [mk k n] := by simp [mkL, List.range_succ]
theorem mkL_len (k n : Nat) : (mkL k n).length = n := by simp [mkL]
theorem mkL_get (k n i : Nat) (h : i < n) : (i32s (mkL k n))[i]? = some (.int .i32 (mk k i)) := by simp [mkL, h]

variable (q : Nat) (vs : List Value) (ns : Nat → Nat)

/-- The lists' own blocks. -/
def Xs (b : Nat) : Prop := ∃ v ∈ vs, v.ownBlock = some b

/-- No two lists lie in one block, none where the list of lists lies. -/
structure Apart : Prop where
  two : ∀ (i j : Nat) (u v : Value) (b : Nat), i ≠ j → vs[i]? = some u → vs[j]? = some v → u.ownBlock = some b → v.ownBlock ≠ some b

/-- While the marks are written: k lists are done, of list k the first i. -/
def Mk (w : World) (k i : Nat) (W : World) : Prop :=
  W.heap[q]? = some (.cells vs.toArray 71 (0, 0)) ∧ Keep (Xs vs) w W ∧ W.heap.size = w.heap.size ∧
  ∀ j v, vs[j]? = some v → ∃ xs, OwnS (fun b => b ≠ q) 21 1 v (ns j) xs W ∧ (j < k → xs = i32s (mkL j (ns j))) ∧ (j = k → xs.take i = i32s (mkL k i))

variable {q vs ns}
theorem Mk.start {w W : World} {k i : Nat} (h : Mk q vs ns w k i W) (hi : i = ns k) : Mk q vs ns w (k + 1) 0 W := by
  obtain ⟨h1, h2, h2', h3⟩ := h
  refine ⟨h1, h2, h2', fun j v hv => ?_⟩
  obtain ⟨xs, ho, ha, hb⟩ := h3 j v hv
  refine ⟨xs, ho, fun hj => ?_, fun _ => by simp [mkL]⟩
  rcases Nat.lt_or_ge j k with h | h
  · exact ha h
  · obtain rfl : j = k := by omega
    have := hb rfl
    rw [hi, List.take_of_length_le (by have := ho.1.1; omega)] at this
    exact this
theorem Mk.store {w W : World} {k i g cap : Nat} (h : Mk q vs ns w k i W) (ha : Apart vs) (hv : vs[k]? = some (.slice (some ⟨g, 0, none⟩) (ns k) cap)) (hi : i < ns k) :
    Mk q vs ns w k (i + 1) (W.drew.setCell ⟨g, i, none⟩ (.int .i32 (mk k i))) := by
  obtain ⟨h1, h2, h2', h3⟩ := h
  obtain ⟨xs, ho, ha1, hb1⟩ := h3 k _ hv
  have hgq : g ≠ q := ho.2 g rfl
  have hk : Keep (fun b => b = g) W (W.drew.setCell ⟨g, i, none⟩ (.int .i32 (mk k i))) := ((Keep.refl (fun b => b = g) W).drew).setCell (p := ⟨g, i, none⟩) rfl _
  refine ⟨hk.heap h1 (fun e => hgq e.symm), h2.trans (hk.weaken fun b _ e => ⟨_, List.mem_of_getElem? hv, by subst e; rfl⟩), by simpa using h2', fun j v hj => ?_⟩
  by_cases hjk : j = k
  · subst hjk
    rw [hv] at hj
    have hj := Option.some.inj hj
    subst hj
    have hd : OwnS (fun b => b ≠ q) 21 1 (.slice (some ⟨g, 0, none⟩) (ns j) cap) (ns j) xs W.drew := ho.keep (X := fun _ => False) ((Keep.refl _ _).drew) (fun _ h => h.elim)
    have hs := (hd.1.stored i (.int .i32 (mk j i))).1
    refine ⟨xs.set i (.int .i32 (mk j i)), ⟨hs, hd.2⟩, fun h => by omega, fun _ => ?_⟩
    have hl : i < xs.length := by have := ho.1.1; omega
    rw [List.take_add_one, List.getElem?_set_self hl, List.take_set_of_le (by omega), hb1 rfl, mkL_succ]
    simp [i32s]
  · obtain ⟨ys, hoj, haj, hbj⟩ := h3 j v hj
    have hs : OwnS (fun b => v.ownBlock = some b) 21 1 v (ns j) ys W := ⟨hoj.1, fun g hg => hg⟩
    have hs2 := hs.keep hk (fun b hb hy => ha.two k j _ _ g (fun e => hjk e.symm) hv hj rfl (by rw [hy, hb]))
    exact ⟨ys, ⟨hs2.1, hoj.2⟩, haj, fun e => absurd e hjk⟩
end Go.Proofs.YtlfdpdlhppgakaaGreatDoor
/- The kit's look at lists that were handed out: what its two later loops keep. -/
namespace Go.Proofs.YtlfdpdlhppgakaaGreatDoor
open Go Go.RowKit Go.Kt Go.Shelf

theorem tinfoSl : (Tryz.prog.info? 71).map (fun i => (i.zero, i.size, i.bytes)) = some (some (.slice none 0 0), 1, 24) := by kernel_rfl

section
variable (S : Nat → Prop) (q : Nat) (vs : List Value) (ns : Nat → Nat)

/-- List j is done: the longer one and itself bear its marks, in blocks of S. -/
structure Done (gl : List Value) (j : Nat) (W : World) : Prop where
  long : ∃ h cap, gl[j]? = some (.slice (some ⟨h, 0, none⟩) (ns j + 64) cap) ∧ S h ∧ ∀ i, i < ns j + 64 → W.cell? ⟨h, i, none⟩ = some (.int .i32 (mk j i))
  own : ∀ v, vs[j]? = some v → ∀ i, i < ns j → ∃ g cap, v = .slice (some ⟨g, 0, none⟩) (ns j) cap ∧ S g ∧ W.cell? ⟨g, i, none⟩ = some (.int .i32 (mk j i))

/-- What every state of loops three and four has. -/
structure Base (w : World) (k : Nat) (gv : Value) (gl : List Value) (W : World) : Prop where
  len : gl.length = k
  row : W.heap[q]? = some (.cells vs.toArray 71 (0, 0))
  keep : Keep (Xs vs) w W
  bd : ∀ b, S b → b ≠ q ∧ b < W.heap.size
  list : OwnS (fun b => ¬ S b ∧ b ≠ q ∧ w.heap.size ≤ b) 71 1 gv k gl W
  done : ∀ j, j < k → Done S vs ns gl j W
  rest : ∀ j v, k < j → vs[j]? = some v → OwnS (fun b => ¬ S b ∧ b ≠ q ∧ b < w.heap.size) 21 1 v (ns j) (i32s (mkL j (ns j))) W
end

variable {S : Nat → Prop} {q : Nat} {vs : List Value} {ns : Nat → Nat}
theorem Done.keep {gl : List Value} {j : Nat} {A B : World} {X : Nat → Prop} (h : Done S vs ns gl j A) (hk : Keep X A B) (hX : ∀ b, X b → ¬ S b) : Done S vs ns gl j B := by
  obtain ⟨⟨h1, cap, e, hS, hc⟩, ho⟩ := h
  refine ⟨⟨h1, cap, e, hS, fun i hi => hk.cell (hc i hi) (fun hx => hX _ hx hS)⟩, fun v hv i hi => ?_⟩
  obtain ⟨g, cap, e, hg, hc⟩ := ho v hv i hi
  exact ⟨g, cap, e, hg, hk.cell hc (fun hx => hX _ hx hg)⟩
theorem Done.more {T : Nat → Prop} {gl gl' : List Value} {j : Nat} {W : World} (h : Done S vs ns gl j W) (hS : ∀ b, S b → T b) (hg : gl'[j]? = gl[j]?) : Done T vs ns gl' j W := by
  obtain ⟨⟨h1, cap, e, h2, hc⟩, ho⟩ := h
  refine ⟨⟨h1, cap, hg.trans e, hS _ h2, hc⟩, fun v hv i hi => ?_⟩
  obtain ⟨g, cap, e, hg, hc⟩ := ho v hv i hi
  exact ⟨g, cap, e, hS _ hg, hc⟩
/-- A step that writes the blocks X alone keeps the base. -/
theorem Base.step {w : World} {k : Nat} {gv : Value} {gl : List Value} {A B : World} {X : Nat → Prop} (h : Base S q vs ns w k gv gl A) (hk : Keep X A B) (hS : ∀ b, X b → ¬ S b) (hq : ¬ X q) (hX : ∀ b, b < w.heap.size → X b → Xs vs b)
    (hl : ∀ b, X b → gv.ownBlock ≠ some b) (hr : ∀ j v, k < j → vs[j]? = some v → ∀ b, X b → v.ownBlock ≠ some b) : Base S q vs ns w k gv gl B :=
  ⟨h.len, hk.heap h.row hq, h.keep.plus hk hX, fun b hb => ⟨(h.bd b hb).1, Nat.lt_of_lt_of_le (h.bd b hb).2 hk.size⟩, h.list.keepX hk hl, fun j hj => (h.done j hj).keep hk hS, fun j v hj hv => (h.rest j v hj hv).keepX hk (hr j v hj hv)⟩

/-- Loop three: k lists are done. -/
def Gs (q : Nat) (vs : List Value) (ns : Nat → Nat) (w : World) (k : Nat) (gv : Value) (W : World) : Prop :=
  ∃ S gl, Base S q vs ns w k gv gl W ∧ ∀ v, vs[k]? = some v → OwnS (fun b => ¬ S b ∧ b ≠ q ∧ b < w.heap.size) 21 1 v (ns k) (i32s (mkL k (ns k))) W
/-- Loop four: list k is i longer. -/
def In (q : Nat) (vs : List Value) (ns : Nat → Nat) (w : World) (k i : Nat) (gv g' : Value) (W : World) : Prop :=
  ∃ S gl, Base S q vs ns w k gv gl W ∧ OwnS (fun b => ¬ S b ∧ b ≠ q ∧ (b < w.heap.size → Xs vs b) ∧ gv.ownBlock ≠ some b ∧ ∀ j v, k < j → vs[j]? = some v → v.ownBlock ≠ some b) 21 1 g' (ns k + i) (i32s (mkL k (ns k + i))) W ∧
    ∀ v, vs[k]? = some v → ∀ j, j < ns k → ∃ g cap, v = .slice (some ⟨g, 0, none⟩) (ns k) cap ∧ g ≠ q ∧ g < w.heap.size ∧ W.cell? ⟨g, j, none⟩ = some (.int .i32 (mk k j))

theorem Gs.enter {w : World} {k : Nat} {gv v : Value} {W : World} (h : Gs q vs ns w k gv W) (ha : Apart vs) (hv : vs[k]? = some v) : In q vs ns w k 0 gv v W := by
  obtain ⟨S, gl, hb, ho⟩ := h
  have ho := ho v hv
  refine ⟨S, gl, hb, ⟨by simpa using ho.1, fun b hb2 => ?_⟩, fun u hu j hj => ?_⟩
  · obtain ⟨h1, h2, h3⟩ := ho.2 b hb2
    refine ⟨h1, h2, fun _ => ⟨v, List.mem_of_getElem? hv, hb2⟩, fun e => ?_, fun j u hj hu => ha.two k j v u b (by omega) hv hu hb2⟩
    have := (hb.list.2 b e).2.2
    omega
  · rw [hv] at hu
    have hu := Option.some.inj hu
    subst hu
    rcases ho.shape with ⟨_, h0⟩ | ⟨g, cap, rfl, hy, hlt⟩
    · omega
    · exact ⟨g, cap, rfl, hy.2.1, hy.2.2, ho.at0 (mkL_get k (ns k) j hj)⟩

theorem In.step {w : World} {k i : Nat} {gv g' : Value} {W : World} (h : In q vs ns w k i gv g' W) (hn : ns k ≤ 1048576) (hi : i ≤ 64) :
    ∃ g cap w2, (∀ ty, (Builtin.append_ #[71, 71] ty #[g', .slice (some ⟨W.heap.size, 0, none⟩) 1 1]).run Tryz.prog (W.alloc (.cells #[.int .i32 (mk k (ns k + i))] 21)) = .ok (.slice (some ⟨g, 0, none⟩) (ns k + (i + 1)) cap) w2) ∧
      In q vs ns w k (i + 1) gv (.slice (some ⟨g, 0, none⟩) (ns k + (i + 1)) cap) w2 := by
  obtain ⟨S, gl, hb, ho, hor⟩ := h
  have hzw := hb.keep.size
  obtain ⟨g, cap, w2, hrun, hown2, hk2, hg2, hz2⟩ := append_x (P := Tryz.prog) W 71 21 Tryz.underlying71 tinfo21 rfl (by omega) ho [.int .i32 (mk k (ns k + i))] rfl
    (by intro u hu; simp at hu; subst hu; rfl) (by unfold maxLen; omega) (by omega)
  refine ⟨g, cap, w2, hrun, S, gl, hb.step hk2 (fun b e => (ho.2 b e).1) (fun e => (ho.2 q e).2.1 rfl) (fun b hb2 e => (ho.2 b e).2.2.1 hb2) (fun b e => (ho.2 b e).2.2.2.1) (fun j v hj hv b e => (ho.2 b e).2.2.2.2 j v hj hv), ⟨?_, ?_⟩, ?_⟩
  · have e1 : i32s (mkL k (ns k + (i + 1))) = i32s (mkL k (ns k + i)) ++ [.int .i32 (mk k (ns k + i))] := by rw [← Nat.add_assoc, mkL_succ]; simp [i32s]
    rw [e1]
    exact hown2.1
  · intro b hb2
    have e : g = b := by simpa [Value.ownBlock] using hb2
    subst e
    rcases hg2 with h | h
    · exact ho.2 g h
    · refine ⟨fun e => by have := (hb.bd g e).2; omega, fun e => ?_, fun e => by omega, fun e => ?_, fun j v hj hv e => ?_⟩
      · subst e
        have := (Array.getElem?_eq_some_iff.1 hb.row).1
        omega
      · have := (hb.list.1.lt g e).2; omega
      · have := ((hb.rest j v hj hv).1.lt g e).2; omega
  · intro v hv j hj
    obtain ⟨g0, c0, e, h1, h2, hc⟩ := hor v hv j hj
    refine ⟨g0, c0, e, h1, h2, ?_⟩
    by_cases hg : g'.ownBlock = some g0
    · rcases ho.shape with ⟨_, h0⟩ | ⟨g1, cap1, rfl, _, _⟩
      · omega
      · have e : g1 = g0 := by simpa [Value.ownBlock] using hg
        subst e
        rw [append_keep (P := Tryz.prog) W 71 21 Tryz.underlying71 tinfo21 rfl (by omega) ho [.int .i32 (mk k (ns k + i))] rfl
          (by intro u hu; simp at hu; subst hu; rfl) (by unfold maxLen; omega) (by omega) (hrun 0) j (by omega)]
        exact hc
    · exact hk2.cell hc hg

end Go.Proofs.YtlfdpdlhppgakaaGreatDoor
/- The kit's look at lists that were handed out: the walk. -/
namespace Go.Proofs.YtlfdpdlhppgakaaGreatDoor
open Go Go.RowKit Go.Kt Go.Shelf

theorem cell_far {W : World} {b o : Nat} {p : Addr} {u v : Value} (h : W.cell? p = some v) (hp : p.block ≠ b) : (W.setCell ⟨b, o, none⟩ u).cell? p = some v :=
  ((Keep.refl (fun c => c = b) W).setCell (p := ⟨b, o, none⟩) rfl u).cell h hp

/-- What the look is handed. -/
structure Handed (q : Nat) (vs : List Value) (ns : Nat → Nat) (w : World) : Prop where
  row : w.heap[q]? = some (.cells vs.toArray 71 (0, 0))
  few : vs.length ≤ 1000
  own : ∀ k v, vs[k]? = some v → ns k ≤ 1048576 ∧ ∃ xs, OwnS (fun b => b ≠ q) 21 1 v (ns k) xs w
  apart : Apart vs
theorem Handed.mk0 {q : Nat} {vs : List Value} {ns : Nat → Nat} {w : World} (h : Handed q vs ns w) : Mk q vs ns w 0 0 w :=
  ⟨h.row, Keep.refl _ _, rfl, fun j v hv => by
    obtain ⟨_, xs, ho⟩ := h.own j v hv
    exact ⟨xs, ho, fun h => by omega, fun _ => by simp [mkL]⟩⟩
theorem Mk.gs0 {q : Nat} {vs : List Value} {ns : Nat → Nat} {w W : World} (h : Mk q vs ns w vs.length 0 W) : Gs q vs ns w 0 (.slice none 0 0) W := by
  obtain ⟨h1, h2, h3, h4⟩ := h
  have all : ∀ j v, vs[j]? = some v → OwnS (fun b => ¬ False ∧ b ≠ q ∧ b < w.heap.size) 21 1 v (ns j) (i32s (mkL j (ns j))) W := fun j v hv => by
    obtain ⟨xs, ho, ha, _⟩ := h4 j v hv
    rw [ha (List.getElem?_eq_some_iff.1 hv).1] at ho
    exact ⟨ho.1, fun b hb => ⟨fun h => h, ho.2 b hb, by have := (ho.1.lt b hb).2; omega⟩⟩
  exact ⟨fun _ => False, [], ⟨rfl, h1, h2, fun _ h => h.elim, own_nil _ _ _ _, fun j hj => by omega, fun j v _ hv => all j v hv⟩, fun v hv => all 0 v hv⟩

theorem own_bd {Y : Nat → Prop} {e : TypeId} {size n : Nat} {v : Value} {xs : List Value} {A : World} (h : OwnS Y e size v n xs A) : OwnS (fun b => Y b ∧ b < A.heap.size) e size v n xs A := ⟨h.1, fun b hb => ⟨h.2 b hb, (h.1.lt b hb).2⟩⟩
theorem own_later {Y : Nat → Prop} {e : TypeId} {size n : Nat} {v : Value} {xs : List Value} {A B : World} (h : OwnS Y e size v n xs A) (hb : Below A.heap.size A B) : OwnS Y e size v n xs B := h.keep (X := fun _ => False) (.of_all hb) (fun _ h => h.elim)

end Go.Proofs.YtlfdpdlhppgakaaGreatDoor
/- ScanScan: two lists of tokens that are the same; an error's look; the law's own: small. -/
namespace Go.Proofs.YtlfdpdlhppgakaaGreatDoor
open Go Go.RowKit Go.Kt Go.Shelf Go.Lib
attribute [local go_sem] Oper.semAt_some

/-- A slice of tokens that can be read. -/
def TkG (W : World) (v : Value) (L : List Tk) : Prop :=
  ∃ ao cap, v = .slice ao L.length cap ∧ (L = [] ∨ ∃ g, ao = some ⟨g, 0, none⟩ ∧ ∀ (i : Nat) (t : Tk), L[i]? = some t → W.cell? ⟨g, i * 5, none⟩ = some (.int .i64 (t.kind : Nat)) ∧ W.cell? ⟨g, i * 5 + 1, none⟩ = some (.string ⟨t.text.toArray⟩) ∧ W.cell? ⟨g, i * 5 + 2, none⟩ = some (.int .i64 (t.pl.1 : Nat)) ∧ W.cell? ⟨g, i * 5 + 3, none⟩ = some (.int .i64 (t.pl.2.1 : Nat)) ∧ W.cell? ⟨g, i * 5 + 4, none⟩ = some (.int .i64 (t.pl.2.2 : Nat)))
theorem tkG_of {Y : Nat → Prop} {v : Value} {L : List Tk} {W : World} (h : OwnS Y 39 5 v L.length (tksC L) W) : TkG W v L := by
  rcases h.shape with ⟨rfl, h0⟩ | ⟨g, cap, rfl, _, _⟩
  · exact ⟨none, 0, by rw [h0], .inl (List.eq_nil_of_length_eq_zero h0)⟩
  · exact ⟨_, cap, rfl, .inr ⟨g, rfl, fun i t ht => toks_cells h (Below.refl _ _) ht⟩⟩
theorem TkG.below {A B : World} {v : Value} {L : List Tk} (h : TkG A v L) (hb : Below A.heap.size A B) : TkG B v L := by
  obtain ⟨ao, cap, rfl, h⟩ := h
  refine ⟨ao, cap, rfl, ?_⟩
  have far : ∀ {a : Addr} {u : Value}, A.cell? a = some u → B.cell? a = some u := fun hu => (hb.cell (Kt.lt_of_cell hu)).trans hu
  rcases h with h | ⟨g, rfl, h⟩
  · exact .inl h
  · exact .inr ⟨g, rfl, fun i x hx => by
      obtain ⟨c0, c1, c2, c3, c4⟩ := h i x hx
      exact ⟨far c0, far c1, far c2, far c3, far c4⟩⟩
set_option maxRecDepth 100000 in
set_option maxHeartbeats 2000000 in
theorem sameTokens_yes (v1 v2 : Value) (L : List Tk) (w : World) (h1 : TkG w v1 L) (h2 : TkG w v2 L) (m1 : L.length ≤ 4611686018427387904) :
    Calls Tryz.prog 15 #[v1, v2] w fun e w' => e = .returned (.bool true) ∧ Drawn w w' := by
  obtain ⟨a1, c1, rfl, h1⟩ := h1
  obtain ⟨a2, c2, rfl, h2⟩ := h2
  obtain ⟨n, hn⟩ : ∃ n, L.length = n := ⟨_, rfl⟩
  rw [hn] at m1
  have HN := Lib.hid hn
  have H1 := Lib.hid h1
  have H2 := Lib.hid h2
  have hne : ((n : Int) != n) = false := by simp
  rw [hn]
  clear h1 h2 hn
  go_enter Tryz.func15, Tryz.ntmps15
  go_wp2
  go_loopw [5] (fun v wr => ∃ k : Nat, k ≤ n ∧ v = .int .i64 k ∧ Drawn w wr) (fun v _ => n - (RowKit.intOf v).toNat)
  case atStart => exact ⟨0, by omega, rfl, Drawn.refl _⟩
  case round =>
    obtain ⟨k, hk, rfl, hb⟩ := hrel
    by_cases hlt : k < n
    · obtain ⟨x, e1⟩ : ∃ x, L[k]? = some x := ⟨_, List.getElem?_eq_getElem (by rw [HN.out]; exact hlt)⟩
      obtain ⟨g1, rfl, p0, p1, p2, p3, p4⟩ : ∃ g, a1 = some ⟨g, 0, none⟩ ∧ w.cell? ⟨g, k * 5, none⟩ = some (.int .i64 (x.kind : Nat)) ∧ w.cell? ⟨g, k * 5 + 1, none⟩ = some (.string ⟨x.text.toArray⟩) ∧ w.cell? ⟨g, k * 5 + 2, none⟩ = some (.int .i64 (x.pl.1 : Nat)) ∧ w.cell? ⟨g, k * 5 + 3, none⟩ = some (.int .i64 (x.pl.2.1 : Nat)) ∧ w.cell? ⟨g, k * 5 + 4, none⟩ = some (.int .i64 (x.pl.2.2 : Nat)) := by
        rcases H1.out with h | ⟨g, h, hc⟩
        · subst h; simp at e1
        · exact ⟨g, h, hc k x e1⟩
      obtain ⟨g2, rfl, r0, r1, r2, r3, r4⟩ : ∃ g, a2 = some ⟨g, 0, none⟩ ∧ w.cell? ⟨g, k * 5, none⟩ = some (.int .i64 (x.kind : Nat)) ∧ w.cell? ⟨g, k * 5 + 1, none⟩ = some (.string ⟨x.text.toArray⟩) ∧ w.cell? ⟨g, k * 5 + 2, none⟩ = some (.int .i64 (x.pl.1 : Nat)) ∧ w.cell? ⟨g, k * 5 + 3, none⟩ = some (.int .i64 (x.pl.2.1 : Nat)) ∧ w.cell? ⟨g, k * 5 + 4, none⟩ = some (.int .i64 (x.pl.2.2 : Nat)) := by
        rcases H2.out with h | ⟨g, h, hc⟩
        · subst h; simp at e1
        · exact ⟨g, h, hc k x e1⟩
      have hlt' : (k : Int) < n := by omega
      replace p0 := (hb.cell _).trans p0
      replace p1 := (hb.cell _).trans p1
      replace p2 := (hb.cell _).trans p2
      replace p3 := (hb.cell _).trans p3
      replace p4 := (hb.cell _).trans p4
      replace r0 := (hb.cell _).trans r0
      replace r1 := (hb.cell _).trans r1
      replace r2 := (hb.cell _).trans r2
      replace r3 := (hb.cell _).trans r3
      replace r4 := (hb.cell _).trans r4
      obtain ⟨kd, tx, ln, cl, at_⟩ := x
      simp only at p0 p1 p2 p3 p4 r0 r1 r2 r3 r4
      have HB := Lib.hid hb
      clear e1 hb
      go_wp2
      go_quiet (fail)
      go_wp2
      go_roundw
      case rel => exact ⟨k + 1, by omega, by go_num, HB.out.more _⟩
      case measure => simp [RowKit.intOf]; omega
    · have hge : ¬ (k : Int) < n := by omega
      go_wp2
      go_ret
      exact ⟨rfl, hb⟩

/-- What a scan tells, taken apart. -/
def tokR : SR → List Tk
  | .ok L => L
  | .bad _ _ _ => []
def errV : SR → Value
  | .ok _ => .nilIface
  | .bad no l c => fltV no (l : Nat) (c : Nat)
def noR : SR → Nat
  | .ok _ => 0
  | .bad no _ _ => no
def liR : SR → Nat
  | .ok _ => 0
  | .bad _ l _ => l
def coR : SR → Nat
  | .ok _ => 0
  | .bad _ _ c => c
theorem scan_out {D : Nat} {R : SR} {e : Ending} {w' : World} (h : ScanOut D R e w') : ∃ ao cap, e = .returned (.tuple #[.slice ao (tokR R).length cap, errV R]) ∧ OwnS (fun b => D ≤ b) 39 5 (.slice ao (tokR R).length cap) (tokR R).length (tksC (tokR R)) w' := by
  cases R with
  | bad no l c => exact ⟨none, 0, h, own_nil _ _ _ _⟩
  | ok L => obtain ⟨g, cap, e1, ho⟩ := h; exact ⟨_, cap, e1, ho⟩
theorem xscan_out {D : Nat} {R : SR} {e : Ending} {w' : World} (h : xscanO D R e w') : ∃ ao cap, e = .returned (.tuple #[.slice ao (tokR R).length cap, .int .i64 (noR R : Nat), .int .i64 (liR R : Nat), .int .i64 (coR R : Nat)]) ∧ OwnS (fun b => D ≤ b) 39 5 (.slice ao (tokR R).length cap) (tokR R).length (tksC (tokR R)) w' := by
  cases R with
  | bad no l c => exact ⟨none, 0, h, own_nil _ _ _ _⟩
  | ok L => obtain ⟨g, cap, e1, ho⟩ := h; exact ⟨_, cap, e1, ho⟩
theorem at_nil (w : World) : Calls Tryz.prog 13 #[.nilIface, .int .i64 0, .int .i64 0, .int .i64 0] w fun e w' => e = .returned (.bool true) ∧ Below w.heap.size w w' := by
  go_enter Tryz.func13, Tryz.ntmps13
  go_wp2
  go_ret
  exact ⟨rfl, Below.refl _ _⟩
theorem num_nil (w : World) : Calls Tryz.prog 14 #[.nilIface] w fun e w' => e = .returned (.int .i64 0) ∧ Below w.heap.size w w' := by
  go_enter Tryz.func14, Tryz.ntmps14
  go_wp2
  go_ret
  exact ⟨rfl, Below.refl _ _⟩
/-- The numbers of the faults. -/
theorem plain_no {s : ByteArray} {c : Sc} {r : Int} {no : Nat} {p : Pl} (h : plainS s c r = .bad no p) : no = 9 := by
  unfold plainS at h
  split at h
  · cases h
  · split at h
    · split at h
      · cases h; rfl
      · cases h
    · split at h
      · cases h
      · split at h <;> cases h
theorem between_no {s : ByteArray} {c : Sc} {r : Int} {no : Nat} {p : Pl} (h : betweenS s c r = .bad no p) : no = 9 ∨ no = 25 ∨ no = 4 := by
  unfold betweenS at h
  repeat' split at h
  all_goals first | (cases h; done) | (cases h; exact .inr (.inl rfl)) | (cases h; exact .inr (.inr rfl)) | skip
  cases hpl : plainS s { c with st := 4, «from» := c.here, text := [] } r with
  | took d => rw [hpl] at h; cases h
  | left d => rw [hpl] at h; cases h
  | bad n2 z => rw [hpl] at h; cases h; exact .inl (plain_no hpl)
theorem token_no2 {s : ByteArray} {c : Sc} {r : Int} {no : Nat} {p : Pl} (h : tokenS s c r = .bad no p) : no = 9 ∨ no = 25 ∨ no = 4 := by
  unfold tokenS at h
  split at h
  · exact between_no h
  split at h
  · unfold remarkS at h
    split at h
    · exact between_no h
    · cases h
  split at h
  · unfold signS at h
    split at h
    · cases h
    · exact between_no h
  split at h
  · unfold optionS at h
    split at h <;> cases h
  · unfold textS at h
    cases hp : pieceS s c r with
    | took d => rw [hp] at h; cases h
    | left d => rw [hp] at h; exact between_no h
    | bad n2 z =>
      rw [hp] at h
      cases h
      unfold pieceS at hp
      split at hp
      · unfold quotedS at hp
        split at hp <;> cases hp
      split at hp
      · unfold closingS at hp
        split at hp
        · cases hp
        · exact .inl (plain_no hp)
      split at hp
      · unfold escapeS at hp
        split at hp
        · exact .inl (plain_no hp)
        · cases hp
      · exact .inl (plain_no hp)
theorem run_no2 {s : ByteArray} : ∀ (f i : Nat) (c : Sc) (no : Nat) (p : Pl), runS s f i c = .bad no p → no = 9 ∨ no = 25 ∨ no = 4
  | 0, i, c, no, p, h => by cases h
  | f + 1, i, c, no, p, h => by
    rw [runS] at h
    split at h
    · split at h
      · exact run_no2 f _ _ no p h
      · rename_i hh
        cases h
        exact token_no2 hh
    · cases h
theorem scan_no {s : ByteArray} {no l c : Nat} (h : scanS s = .bad no l c) : 1 ≤ no ∧ no ≤ 25 := by
  unfold scanS at h
  split at h
  · cases h; decide
  split at h
  · cases h; decide
  cases hr : runS s (s.size + 1) 0 c0S with
  | bad n2 p =>
    rw [hr] at h
    cases h
    rcases run_no2 _ _ _ _ _ hr with h | h | h <;> omega
  | ok c2 =>
    rw [hr] at h
    simp only at h
    unfold endS at h
    split at h
    · cases h; decide
    · split at h
      · cases h; decide
      · cases h
theorem at_scan {s : ByteArray} (w : World) (hE : ErrT w) : Calls Tryz.prog 13 #[errV (scanS s), .int .i64 (noR (scanS s) : Nat), .int .i64 (liR (scanS s) : Nat), .int .i64 (coR (scanS s) : Nat)] w fun e w' => e = .returned (.bool true) ∧ Below w.heap.size w w' := by
  cases h : scanS s with
  | ok L => exact at_nil w
  | bad no l c =>
    obtain ⟨h1, h2⟩ := scan_no h
    exact at_fault (no : Nat) (l : Nat) (c : Nat) w (by omega) (by omega) hE
theorem num_scan {s : ByteArray} (w : World) : Calls Tryz.prog 14 #[errV (scanS s)] w fun e w' => e = .returned (.int .i64 (noR (scanS s) : Nat)) ∧ Below w.heap.size w w' := by
  cases h : scanS s with
  | ok L => exact num_nil w
  | bad no l c =>
    obtain ⟨h1, h2⟩ := scan_no h
    exact num_fault (no : Nat) (l : Nat) (c : Nat) w (by omega) (by omega)
def smallB (s : ByteArray) : Bool := decide (s.size ≤ 20000 ∨ 1048576 < s.size)
theorem small_any (s : ByteArray) (w : World) (hs : s.size ≤ 140737488351232) : Calls Tryz.prog 9 #[.string s] w fun e w' => e = .returned (.bool (smallB s)) ∧ w = w' := by
  by_cases h1 : s.size ≤ 20000
  · have hR : smallB s = true := by unfold smallB; exact decide_eq_true (.inl h1)
    have h1' : (s.size : Int) ≤ 20000 := by omega
    rw [hR]
    clear hR h1
    go_enter Tryz.func9, Tryz.ntmps9
    go_wp2
    go_ret
    exact ⟨rfl, rfl⟩
  · have h1' : ¬ (s.size : Int) ≤ 20000 := by omega
    by_cases h2 : 1048576 < s.size
    · have hR : smallB s = true := by unfold smallB; exact decide_eq_true (.inr h2)
      have h2' : decide ((1048576 : Int) < (s.size : Int)) = true := by simp; omega
      rw [hR]
      clear hR h1 h2
      go_enter Tryz.func9, Tryz.ntmps9
      go_wp2
      go_ret
      exact ⟨rfl, rfl⟩
    · have hR : smallB s = false := by unfold smallB; exact decide_eq_false (fun h => by omega)
      have h2' : decide ((1048576 : Int) < (s.size : Int)) = false := by simp; omega
      rw [hR]
      clear hR h1 h2
      go_enter Tryz.func9, Tryz.ntmps9
      go_wp2
      go_ret
      exact ⟨rfl, rfl⟩
theorem tok_few {s : ByteArray} (h : smallB s = true) : (tokR (scanS s)).length ≤ 20001 := by
  cases hr : scanS s with
  | bad no l c => exact Nat.zero_le _
  | ok L =>
    have h1 := toks_few (scan_places s hr).1
    have h2 : s.size ≤ 1048576 := by
      unfold scanS at hr
      split at hr
      · cases hr
      · omega
    unfold smallB at h
    have := of_decide_eq_true h
    show L.length ≤ 20001
    omega
/-- Four lists, each made behind the one ahead. -/
theorem handedT4 {W : World} {a b c d : Value} {na nb nc nd : Nat} {xa xb xc xd : List Value} {l0 l1 l2 l3 l4 : Nat} (h4 : l4 ≤ W.heap.size) (h12 : l1 ≤ l2) (h23 : l2 ≤ l3) (h34 : l3 ≤ l4)
    (ha : OwnS (fun x => l0 ≤ x ∧ x < l1) 39 5 a na xa W) (hb : OwnS (fun x => l1 ≤ x ∧ x < l2) 39 5 b nb xb W) (hc : OwnS (fun x => l2 ≤ x ∧ x < l3) 39 5 c nc xc W) (hd : OwnS (fun x => l3 ≤ x ∧ x < l4) 39 5 d nd xd W)
    (ma : na ≤ 2097152) (mb : nb ≤ 2097152) (mc : nc ≤ 2097152) (md : nd ≤ 2097152) :
    HandT W.heap.size [a, b, c, d] (fun k => if k = 0 then na else if k = 1 then nb else if k = 2 then nc else nd) (W.alloc (.cells #[a, b, c, d] 24 (0, 0))) := by
  have lat : ∀ {v : Value} {n : Nat} {xs : List Value} {lo hi : Nat}, hi ≤ l4 → OwnS (fun x => lo ≤ x ∧ x < hi) 39 5 v n xs W → OwnS (fun x => x ≠ W.heap.size) 39 5 v n xs (W.alloc (.cells #[a, b, c, d] 24 (0, 0))) := fun hh h =>
    (own_later h ((Below.refl _ W).alloc (Nat.le_refl _) _)).weaken (fun x hx => by have := hx.2; omega)
  refine ⟨World.alloc_heap_new W _, by simp, ?_, ?_⟩
  · intro k v hv
    rcases (by have := (List.getElem?_eq_some_iff.1 hv).1; simp at this; omega : k = 0 ∨ k = 1 ∨ k = 2 ∨ k = 3) with rfl | rfl | rfl | rfl
    · simp at hv; subst hv; exact ⟨by simpa using ma, _, lat (by omega) ha⟩
    · simp at hv; subst hv; exact ⟨by simpa using mb, _, lat (by omega) hb⟩
    · simp at hv; subst hv; exact ⟨by simpa using mc, _, lat (by omega) hc⟩
    · simp at hv; subst hv; exact ⟨by simpa using md, _, lat (by omega) hd⟩
  · intro i j u v x hij hu hv hx hy
    have key : ∀ k v, [a, b, c, d][k]? = some v → v.ownBlock = some x → (k = 0 ∧ l0 ≤ x ∧ x < l1) ∨ (k = 1 ∧ l1 ≤ x ∧ x < l2) ∨ (k = 2 ∧ l2 ≤ x ∧ x < l3) ∨ (k = 3 ∧ l3 ≤ x ∧ x < l4) := fun k v hv hx => by
      rcases (by have := (List.getElem?_eq_some_iff.1 hv).1; simp at this; omega : k = 0 ∨ k = 1 ∨ k = 2 ∨ k = 3) with rfl | rfl | rfl | rfl
      · simp at hv; subst hv; have := ha.2 x hx; omega
      · simp at hv; subst hv; have := hb.2 x hx; omega
      · simp at hv; subst hv; have := hc.2 x hx; omega
      · simp at hv; subst hv; have := hd.2 x hx; omega
    have := key i u hu hx
    have := key j v hv hy
    omega
end Go.Proofs.YtlfdpdlhppgakaaGreatDoor
/- ScanScan: its walk. -/
namespace Go.Proofs.YtlfdpdlhppgakaaGreatDoor
open Go Go.RowKit Go.Kt Go.Shelf Go.Lib
attribute [local go_sem] Oper.semAt_some

set_option maxRecDepth 100000 in
set_option maxHeartbeats 4000000 in
theorem scanScan_c (s t : ByteArray) (w : World) (hE : SEnv w) (_hB : BTab w) (_hl : 6 < w.heap.size) (hs : s.size ≤ 140737488351232) (ht : t.size ≤ 140737488351232) :
    Calls Tryz.prog 3 #[.string s, .string t] w fun e w' => e = .returned (.bool true) ∧ Below w.heap.size w w' := by
  have CW := Lib.hid (fun V => works_any5 V)
  have CSs := Lib.hid (fun V => small_any s V hs)
  have CSt := Lib.hid (fun V => small_any t V ht)
  have HE := Lib.hid hE
  by_cases hsm : smallB s = false ∨ smallB t = false
  · cases h1 : smallB s with
    | false =>
      rw [h1] at CSs
      clear h1 hsm
      go_enter Tryz.func3, Tryz.ntmps3
      go_wp2_with (first | (go_at_call 9; refine (CSs.out _).mono ?_; clear CSs; rintro e w1 ⟨rfl, rfl⟩) | (go_at_call 10; refine (CW.out _ HE.out).mono ?_; rintro e w4 ⟨rfl, hb4⟩))
      go_ret
      exact ⟨rfl, hb4⟩
    | true =>
      have h2 : smallB t = false := by
        rcases hsm with h | h
        · rw [h1] at h; cases h
        · exact h
      rw [h1] at CSs
      rw [h2] at CSt
      clear h1 h2 hsm
      go_enter Tryz.func3, Tryz.ntmps3
      go_wp2_with (first | (go_at_call 9; refine (CSs.out _).mono ?_; clear CSs; rintro e w1 ⟨rfl, rfl⟩) | (go_at_call 9; refine (CSt.out _).mono ?_; clear CSt; rintro e w1 ⟨rfl, rfl⟩) | (go_at_call 10; refine (CW.out _ HE.out).mono ?_; rintro e w4 ⟨rfl, hb4⟩))
      go_ret
      exact ⟨rfl, hb4⟩
  have h1 : smallB s = true := by cases h : smallB s with | true => rfl | false => exact absurd (.inl h) hsm
  have h2 : smallB t = true := by cases h : smallB t with | true => rfl | false => exact absurd (.inr h) hsm
  have ls := tok_few h1
  have lt := tok_few h2
  rw [h1] at CSs
  rw [h2] at CSt
  have X1 := Lib.hid (xscan_any s w hs)
  have X2 := Lib.hid (fun V => xscan_any t V ht)
  have S1 := Lib.hid (fun V (h : SEnv V) => scan_any s V h hs)
  have S2 := Lib.hid (fun V (h : SEnv V) => scan_any t V h ht)
  have AT := Lib.hid (fun V (h : SEnv V) => at_scan (s := s) V h.err)
  have NU := Lib.hid (fun V => num_scan (s := t) V)
  generalize scanS s = R at *
  generalize scanS t = Q at *
  obtain ⟨A, hA⟩ : ∃ A, tokR R = A := ⟨_, rfl⟩
  obtain ⟨B, hB⟩ : ∃ B, tokR Q = B := ⟨_, rfl⟩
  rw [hA] at ls
  rw [hB] at lt
  have X1' : Hid (Calls Tryz.prog 11 #[.string s] w fun e w' => (∃ ao cap, e = .returned (.tuple #[.slice ao A.length cap, .int .i64 (noR R : Nat), .int .i64 (liR R : Nat), .int .i64 (coR R : Nat)]) ∧ OwnS (fun b => w.heap.size ≤ b) 39 5 (.slice ao A.length cap) A.length (tksC A) w') ∧ Below w.heap.size w w') := Lib.hid (X1.out.mono fun e w' h => ⟨by have := xscan_out h.1; rw [hA] at this; exact this, h.2⟩)
  have X2' : Hid (∀ V, Calls Tryz.prog 11 #[.string t] V fun e w' => (∃ ao cap, e = .returned (.tuple #[.slice ao B.length cap, .int .i64 (noR Q : Nat), .int .i64 (liR Q : Nat), .int .i64 (coR Q : Nat)]) ∧ OwnS (fun b => V.heap.size ≤ b) 39 5 (.slice ao B.length cap) B.length (tksC B) w') ∧ Below V.heap.size V w') := Lib.hid (fun V => (X2.out V).mono fun e w' h => ⟨by have := xscan_out h.1; rw [hB] at this; exact this, h.2⟩)
  have S1' : Hid (∀ V, SEnv V → Calls Tryz.prog 12 #[.string s] V fun e w' => (∃ ao cap, e = .returned (.tuple #[.slice ao A.length cap, errV R]) ∧ OwnS (fun b => V.heap.size ≤ b) 39 5 (.slice ao A.length cap) A.length (tksC A) w') ∧ Below V.heap.size V w') := Lib.hid (fun V hV => (S1.out V hV).mono fun e w' h => ⟨by have := scan_out h.1; rw [hA] at this; exact this, h.2⟩)
  have S2' : Hid (∀ V, SEnv V → Calls Tryz.prog 12 #[.string t] V fun e w' => (∃ ao cap, e = .returned (.tuple #[.slice ao B.length cap, errV Q]) ∧ OwnS (fun b => V.heap.size ≤ b) 39 5 (.slice ao B.length cap) B.length (tksC B) w') ∧ Below V.heap.size V w') := Lib.hid (fun V hV => (S2.out V hV).mono fun e w' h => ⟨by have := scan_out h.1; rw [hB] at this; exact this, h.2⟩)
  clear X1 X2 S1 S2 hA hB hsm h1 h2 hE _hB _hl hs ht
  have nn : (((noR Q : Nat) : Int) != ((noR Q : Nat) : Int)) = false := by simp
  generalize errV R = eR at *
  generalize errV Q = eQ at *
  generalize noR R = nR at *
  generalize noR Q = nQ at *
  generalize liR R = lR at *
  generalize liR Q = lQ at *
  generalize coR R = cR at *
  generalize coR Q = cQ at *
  go_enter Tryz.func3, Tryz.ntmps3
  go_wp2_with (first | (go_at_call 9; refine (CSs.out _).mono ?_; clear CSs; rintro e w1 ⟨rfl, rfl⟩) | (go_at_call 9; refine (CSt.out _).mono ?_; clear CSt; rintro e w1 ⟨rfl, rfl⟩) | fail)
  refine X1'.out.mono ?_
  rintro e w1 ⟨⟨a0, c0, rfl, o0⟩, b1⟩
  have z1 := b1.size
  have O0 := Lib.hid o0
  have B1 := Lib.hid b1
  clear o0 b1
  go_wp2_with fail
  refine (X2'.out _).mono ?_
  rintro e w2 ⟨⟨a5, c5, rfl, o5⟩, b2⟩
  have z2 := b2.size
  have O5 := Lib.hid o5
  have B2 := Lib.hid (B1.out.trans (b2.mono z1))
  have D2 := Lib.hid b2
  have HE2 := Lib.hid (HE.out.below B2.out)
  clear o5 b2
  go_wp2_with fail
  refine (S1'.out _ HE2.out).mono ?_
  rintro e w3 ⟨⟨a1, c1, rfl, o1⟩, b3⟩
  have z3 := b3.size
  have O1 := Lib.hid (own_bd o1)
  have HE3 := Lib.hid (HE2.out.below b3)
  have B3 := Lib.hid b3
  clear o1 b3
  go_wp2_with fail
  refine (S1'.out _ HE3.out).mono ?_
  rintro e w4 ⟨⟨a2, c2, rfl, o2⟩, b4⟩
  have z4 := b4.size
  have O2 := Lib.hid (own_bd o2)
  have HE4 := Lib.hid (HE3.out.below b4)
  have B4 := Lib.hid b4
  clear o2 b4
  go_wp2_with fail
  refine (S2'.out _ HE4.out).mono ?_
  rintro e w5 ⟨⟨a3, c3, rfl, o3⟩, b5⟩
  have z5 := b5.size
  have O3 := Lib.hid (own_bd o3)
  have HE5 := Lib.hid (HE4.out.below b5)
  have B5 := Lib.hid b5
  clear o3 b5
  go_wp2_with fail
  refine (S1'.out _ HE5.out).mono ?_
  rintro e w6 ⟨⟨a4, c4, rfl, o4⟩, b6⟩
  have z6 := b6.size
  have O4 := Lib.hid (own_bd o4)
  have HE6 := Lib.hid (HE5.out.below b6)
  have q5 : Below w5.heap.size w5 w6 := b6
  have q4 : Below w4.heap.size w4 w6 := B5.out.trans (b6.mono z5)
  have q3 : Below w3.heap.size w3 w6 := B4.out.trans (q4.mono z4)
  have q2 : Below w2.heap.size w2 w6 := B3.out.trans (q3.mono z3)
  have q1 : Below w1.heap.size w1 w6 := D2.out.trans (q2.mono z2)
  have q0 : Below w.heap.size w w6 := B2.out.trans (q2.mono (Nat.le_trans z1 z2))
  have T0 := Lib.hid (tkG_of (own_later O0.out q1))
  have T5 := Lib.hid (tkG_of (own_later O5.out q2))
  have T1 := Lib.hid (tkG_of (own_later O1.out q3))
  have T2 := Lib.hid (tkG_of (own_later O2.out q4))
  have T3 := Lib.hid (tkG_of (own_later O3.out q5))
  have T4 := Lib.hid (tkG_of O4.out)
  have QQ := Lib.hid (And.intro q0 (And.intro q3 (And.intro q4 q5)))
  clear q0 q1 q2 q3 q4 q5 b6
  -- the errors
  have A6 := Lib.hid (AT.out w6 HE6.out)
  go_wp2_with fail
  refine A6.out.mono ?_
  rintro e w7 ⟨rfl, d7⟩
  have D7 := Lib.hid d7
  have A7 := Lib.hid (AT.out w7 (HE6.out.below d7))
  clear d7
  go_wp2_with fail
  refine A7.out.mono ?_
  rintro e w8 ⟨rfl, d8⟩
  have D8 := Lib.hid (D7.out.trans (d8.mono D7.out.size))
  clear d8
  go_wp2_with fail
  refine (NU.out w8).mono ?_
  rintro e w9 ⟨rfl, d9⟩
  have D9 := Lib.hid (D8.out.trans (d9.mono D8.out.size))
  have A9 := Lib.hid (AT.out w9 (HE6.out.below D9.out))
  clear d9
  go_wp2_with fail
  refine A9.out.mono ?_
  rintro e w10 ⟨rfl, d10⟩
  have D10 := Lib.hid (D9.out.trans (d10.mono D9.out.size))
  clear d10
  -- the lists
  have C1 := Lib.hid (sameTokens_yes _ _ A w10 (T1.out.below D10.out) (T0.out.below D10.out) (by omega))
  go_wp2_with fail
  refine C1.out.mono ?_
  rintro e w11 ⟨rfl, d11⟩
  have D11 := Lib.hid (D10.out.trans (d11.below.mono D10.out.size))
  clear d11
  have C2 := Lib.hid (sameTokens_yes _ _ A w11 (T2.out.below D11.out) (T0.out.below D11.out) (by omega))
  go_wp2_with fail
  refine C2.out.mono ?_
  rintro e w12 ⟨rfl, d12⟩
  have D12 := Lib.hid (D11.out.trans (d12.below.mono D11.out.size))
  clear d12
  have C3 := Lib.hid (sameTokens_yes _ _ B w12 (T3.out.below D12.out) (T5.out.below D12.out) (by omega))
  go_wp2_with fail
  refine C3.out.mono ?_
  rintro e w13 ⟨rfl, d13⟩
  have D13 := Lib.hid (D12.out.trans (d13.below.mono D12.out.size))
  clear d13
  have C4 := Lib.hid (sameTokens_yes _ _ A w13 (T4.out.below D13.out) (T0.out.below D13.out) (by omega))
  go_wp2_with fail
  refine C4.out.mono ?_
  rintro e w14 ⟨rfl, d14⟩
  have D14 := Lib.hid (D13.out.trans (d14.below.mono D13.out.size))
  clear d14
  have fin : ∀ (W : World), Below w6.heap.size w6 W → HandT W.heap.size [.slice a1 A.length c1, .slice a2 A.length c2, .slice a3 B.length c3, .slice a4 A.length c4] (fun k => if k = 0 then A.length else if k = 1 then A.length else if k = 2 then B.length else A.length)
      (W.alloc (.cells #[.slice a1 A.length c1, .slice a2 A.length c2, .slice a3 B.length c3, .slice a4 A.length c4] 24 (0, 0))) := fun W h =>
    handedT4 (l0 := w2.heap.size) (l1 := w3.heap.size) (l2 := w4.heap.size) (l3 := w5.heap.size) (l4 := w6.heap.size) h.size z4 z5 z6
      (own_later (own_later O1.out QQ.out.2.1) h) (own_later (own_later O2.out QQ.out.2.2.1) h) (own_later (own_later O3.out QQ.out.2.2.2) h) (own_later O4.out h) (by omega) (by omega) (by omega) (by omega)
  obtain ⟨W, hW⟩ : ∃ W, w14.alloc (.cells #[.slice a1 A.length c1, .slice a2 A.length c2, .slice a3 B.length c3, .slice a4 A.length c4] 24 (0, 0)) = W := ⟨_, rfl⟩
  have hH := fin w14 D14.out
  rw [hW] at hH
  have hbW : Below w14.heap.size w14 W := by rw [← hW]; exact (Below.refl _ w14).alloc (Nat.le_refl _) _
  have C5 := Lib.hid (apartTokens_any w14.heap.size 4 _ _ W hH)
  have hX : ∀ b, Lk.Xs [.slice a1 A.length c1, .slice a2 A.length c2, .slice a3 B.length c3, .slice a4 A.length c4] b → w2.heap.size ≤ b := by
    rintro b ⟨v, hv, hb⟩
    simp only [List.mem_cons, List.not_mem_nil, or_false] at hv
    rcases hv with rfl | rfl | rfl | rfl
    · exact (O1.out.2 b hb).1
    · have := (O2.out.2 b hb).1; omega
    · have := (O3.out.2 b hb).1; omega
    · have := (O4.out.2 b hb).1; omega
  have HX := Lib.hid hX
  have hz0 := QQ.out.1.size
  have hb0W : Below w.heap.size w W := (QQ.out.1.trans (D14.out.mono hz0)).trans (hbW.mono (by have := D14.out.size; omega))
  have HB0W := Lib.hid hb0W
  have HW := Lib.hid hW
  clear fin hH hbW hX hb0W hW hz0
  go_wp2_with fail
  rw [HW.out]
  refine C5.out.mono ?_
  rintro e w15 ⟨rfl, hk15⟩
  have hb15 : Below w.heap.size w w15 := HB0W.out.trans (hk15.below HB0W.out.size (fun b hb => by have := HX.out b hb; omega))
  have C6 := Lib.hid (CW.out w15 (HE.out.below hb15))
  have HB15 := Lib.hid hb15
  clear hb15 hk15
  go_wp2_with fail
  refine C6.out.mono ?_
  rintro e w16 ⟨rfl, hb16⟩
  go_wp2
  go_ret
  exact ⟨rfl, HB15.out.trans (hb16.mono HB15.out.size)⟩
end Go.Proofs.YtlfdpdlhppgakaaGreatDoor
/- Of any two texts, ScanScan answers true (the program's Scan tells the tokens, or the error and its place, that the document's answer tells, asked three times, of another between; what was handed out has memory of its own), in any world in which the package's variables are laid: the row and the card. -/
namespace Go.Proofs.YtlfdpdlhppgakaaGreatDoor
open Go.ChangeShapes Go.WideShapes Go.ChangeAt Go.RowKit Go.Kt
set_option maxRecDepth 100000

theorem scanScan_lifted (os : Os) (started : os.Started) (H : Type) (enc : TypeId × Value → H) (F : Stop.Interp) :
    ReturnsInHanded {} Tryz.checked os 3 .any ((OpenSpec.ofChange Rows.scanScanSpec).preRow enc Tryz.prog Tryz.f3 Rows.scanScanRow.domain false Rows.scanScanRow.laid) (((OpenSpec.ofChange Rows.scanScanSpec).at F).post enc Tryz.prog Tryz.f3 false true false false) := by
  refine returnsInHanded_of_row (C := Tryz.checked) (s := OpenSpec.ofChange Rows.scanScanSpec) own started (by kernel_rfl) Tryz.func3
    (witness_row_at (enc := enc) (C := Tryz.checked) false (world8 os) #[.string ⟨#[]⟩, .string ⟨#[]⟩] (world8_os _) (by kernel_rfl) (by kernel_rfl) (by kernel_rfl)
      (OpenSpec.preRow_of_cond (x := ([.lit (.string []), .lit (.string [])], [], [])) 8 (by kernel_rfl) (by kernel_rfl) (fun k hk => by cases hk) (by kernel_rfl) (laid_met8 os _))) ?_
  intro W base args ds gs before hval0 hW _ _ hz hL _ _
  have hval : ∀ (j : Nat) t v, Tryz.f3.params[j]? = some t → args[j]? = some v → Value.okWide Tryz.prog W .any base t v := hval0
  have hW' := hW
  obtain ⟨p, q, hA0, hV, rfl, _, _⟩ := hW
  have hA : DataW.TrodAll enc Tryz.prog W 0 (fun _ => true) true Tryz.f3.params.toList args.toList ds p := hA0
  rw [Tryz.params3] at hA hval
  obtain ⟨v0, v1, d0, d1, p0, p1, rfl, rfl, rfl, h0, h1⟩ := trodAll_two hA
  obtain ⟨rfl, rfl⟩ := trodVars_none hV
  obtain ⟨a0, rfl, rfl, rfl, w0⟩ := ChangeMaps.open_string Tryz.underlying9 (hval 0 9 v0 rfl rfl) h0
  have z0 : a0.size ≤ 140737488351232 := by simpa [reachBytes] using sized_string hz (j := 0) rfl rfl
  obtain ⟨a1, rfl, rfl, rfl, w1⟩ := ChangeMaps.open_string Tryz.underlying9 (hval 1 9 v1 rfl rfl) h1
  have z1 : a1.size ≤ 140737488351232 := by simpa [reachBytes] using sized_string hz (j := 1) rfl rfl
  obtain ⟨hE, hT, hTl⟩ := of_laid8 hL
  clear hA0 hval0
  simp only [List.append_nil] at hW'
  refine (scanScan_c a0 a1 W hE hT hTl z0 z1).mono fun e W' ⟨he, hb⟩ => ?_
  subst he
  exact ⟨_, rfl, _, _, _, [], [], [], hW', trodAll_mk1 (shut_bool Tryz.underlying4 _), (trodAll_mk2 (ChangeMaps.shut_string Tryz.underlying9 w0) (ChangeMaps.shut_string Tryz.underlying9 w1)), rfl, hb.frame _, fun h => by cases h⟩

theorem scanScan_said : Rows.ScanScanSaid :=
  OpenClaim.holds_of_cond 3 Tryz.f3 rfl rfl rfl rfl rfl rfl rfl ⟨rfl, rfl, rfl, rfl, rfl⟩ rfl rfl rfl rfl rfl (by kernel_rfl) Tryz.func3 (by kernel_rfl)
    (of_decide_eq_true (by kernel_rfl)) (by unfold Func.isWrapper; first | (rw [if_pos (by decide +kernel)]; kernel_rfl) | (rw [if_neg (by decide +kernel)]; exact ⟨rfl, rfl⟩))
    (fun os started H enc _ F => by rw [OpenClaim.pre_eq_preRow]; exact scanScan_lifted os started H enc F)

theorem scanScan_plain (f : FuncId) (fn : Func) (hf : Tryz.pinned.checked.prog.funcNamed "glossary/glossarylaw05.ScanScan" = some f) (hfn : Tryz.pinned.checked.prog.funcs[f]? = some fn) :
    true = Tryz.pinned.checked.prog.looks [] ∧ ∀ (j : Nat) t, fn.params[j]? = some t → Tryz.pinned.checked.prog.wantsStandIn t = false := by
  obtain rfl : f = 3 := Option.some.inj ((show Tryz.prog.funcNamed "glossary/glossarylaw05.ScanScan" = some 3 by kernel_rfl).symm.trans hf) |>.symm
  obtain rfl : fn = Tryz.f3 := (Option.some.inj (Tryz.func3.symm.trans hfn)).symm
  refine ⟨by kernel_rfl, fun j t ht => ?_⟩
  rw [Tryz.params3] at ht
  have hm : t ∈ [9, 9] := by simpa using Array.mem_of_getElem? ht
  have hall : ([9, 9].all fun u => !Tryz.prog.wantsStandIn u) = true := by kernel_rfl
  exact (show Tryz.prog.wantsStandIn t = false by simpa using List.all_eq_true.1 hall t hm)

theorem scanScan_card : Rows.ScanScanCardSaid :=
  Claim7.holds_tied_plain_at .later [] _ _ _ _ scanScan_said (fun _ h => by cases h) (by kernel_rfl) (fun _ h => by cases h) scanScan_row_tie rfl ⟨rfl, rfl⟩ (by kernel_rfl) rfl scanScan_plain (by kernel_rfl)

end Go.Proofs.YtlfdpdlhppgakaaGreatDoor
