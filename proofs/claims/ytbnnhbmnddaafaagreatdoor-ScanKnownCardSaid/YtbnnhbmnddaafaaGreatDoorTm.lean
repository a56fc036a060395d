/- The document's answer for scan: One: the walk. -/
import Derived.Test.YtbnnhbmnddaafaaGreatDoorTl
import Derived.Test.YtbnnhbmnddaafaaGreatDoorSu
namespace Go.Proofs.YtbnnhbmnddaafaaGreatDoor
open Go Go.RowKit Go.Kt Go.Kt.Rg Go.Shelf Go.Lib
attribute [local go_sem] Oper.semAt_some

theorem results_cell4 {P : Program} {fn : Func} {p a b c : Tmp} {ty : TypeId} (h : fn.results = #[.cell p ty, .tmp a, .tmp b, .tmp c]) (tmps : Array Value) (w : World) (g : Nat) (t : TypeId) (cs : Array Value) (fr : Nat × Nat) (d : TypeDesc)
    (hp : tmps.getD p undef = .pointer (some ⟨g, 0, none⟩)) (hg : w.heap[g]? = some (.cells cs t fr))
    (hu : P.underlying ty = some d) (hd : (match d with | .struct _ | .array _ _ => true | _ => false) = true) (hi : (P.info? ty).map (·.size) = some cs.size) :
    (results fn tmps).run P w = .ok (.tuple #[.agg cs, tmps.getD a undef, tmps.getD b undef, tmps.getD c undef]) w := by
  have hp' : tmps[p]?.getD undef = .pointer (some ⟨g, 0, none⟩) := by simpa using hp
  simp [results, h, hp', asAddr, run_loadVar_row w g t ty cs fr d hg hu hd hi]

def oneO (o : X1) (l c p : Nat) (e : Ending) : Prop := match o with
  | .fin => e = .returned (.tuple #[tkA 0 ⟨#[]⟩ (l : Nat) (c : Nat) (p : Nat), .int .i64 (p : Nat), .int .i64 0, .int .i64 0])
  | .tok k x next => ∃ a : Int, e = .returned (.tuple #[tkA (k : Nat) ⟨x.toArray⟩ (l : Nat) (c : Nat) (p : Nat), .int .i64 (next : Nat), .int .i64 0, .int .i64 a])
  | .bad no j => ∃ k a : Int, e = .returned (.tuple #[tkA k ⟨#[]⟩ (l : Nat) (c : Nat) (p : Nat), .int .i64 a, .int .i64 (no : Nat), .int .i64 (j : Nat)])
def Two (w V : World) (n : Nat) (k : Int) (t : ByteArray) (l c p : Int) : Prop :=
  V.heap[n]? = some (.cells (tkX 0 ⟨#[]⟩ 0 0 0) 30 (0, 0)) ∧ V.heap[n + 1]? = some (.cells (tkX k t l c p) 30 (0, 0)) ∧ Below n w V
theorem Two.below {w V V' : World} {n : Nat} {k : Int} {t : ByteArray} {l c p : Int} (h : Two w V n k t l c p) (hb : Below V.heap.size V V') : Two w V' n k t l c p := by
  obtain ⟨h1, h2, h3⟩ := h
  have l1 := (Array.getElem?_eq_some_iff.1 h1).1
  have l2 := (Array.getElem?_eq_some_iff.1 h2).1
  exact ⟨(hb.block n l1).trans h1, (hb.block (n + 1) l2).trans h2, h3.trans (hb.mono (by omega))⟩
theorem Two.kind {w V : World} {n : Nat} {k : Int} {t : ByteArray} {l c p : Int} (h : Two w V n k t l c p) (k2 : Int) : Two w (V.setCell ⟨n + 1, 0, none⟩ (.int .i64 k2)) n k2 t l c p :=
  ⟨(setc_other (by omega)).trans h.1, set_0 k2 h.2.1, h.2.2.trans ((Below.refl n V).setCell (p := ⟨n + 1, 0, none⟩) (by simp only; omega) _)⟩
theorem Two.text {w V : World} {n : Nat} {k : Int} {t : ByteArray} {l c p : Int} (h : Two w V n k t l c p) (t2 : ByteArray) : Two w (V.setCell ⟨n + 1, 1, none⟩ (.string t2)) n k t2 l c p :=
  ⟨(setc_other (by omega)).trans h.1, set_t t2 h.2.1, h.2.2.trans ((Below.refl n V).setCell (p := ⟨n + 1, 1, none⟩) (by simp only; omega) _)⟩
theorem Two.fr0 {w V : World} {n : Nat} {k : Int} {t : ByteArray} {l c p : Int} (h : Two w V n k t l c p) : V.frozen? ⟨n + 1, 0, none⟩ = false ∧ V.frozen? ⟨n + 1, 1, none⟩ = false := ⟨frozen_at5 h.2.1, frozen_at5 h.2.1⟩
theorem Two.out {w V : World} {n : Nat} {k : Int} {t : ByteArray} {l c p : Int} (h : Two w V n k t l c p) :
    ∃ V', (Instr.storeAt 30 (.pointer (some ⟨n, 0, none⟩)) (tkA k t l c p)).run Tryz.prog V = .ok () V' ∧ V'.heap[n]? = some (.cells (tkX k t l c p) 30 (0, 0)) ∧ Below n w V' :=
  ⟨_, store_new V n _ _ _ _ _ k t l c p h.1, set5_at k t l c p h.1, h.2.2.trans (set5_below (Nat.le_refl _) k t l c p)⟩

set_option maxRecDepth 100000 in
set_option maxHeartbeats 4000000 in
theorem xone_any (s : ByteArray) (n0 l c p : Nat) (w : World) (hs : s.size ≤ 1048576) (hp : plN s n0 = (l, c, p)) (hpz : p ≤ s.size) :
    Calls Tryz.prog 52 #[.string s, .int .i64 (p : Nat)] w fun e w' => oneO (xoneV s p) l c p e ∧ Below w.heap.size w w' := by
  have CP := Lib.hid (fun V => xplace_any s n0 l c p V (by omega) hp)
  clear hp
  obtain ⟨n, hn⟩ : ∃ n, w.heap.size = n := ⟨_, rfl⟩
  obtain ⟨W0, hW0⟩ : ∃ W0, w.alloc (.cells (tkX 0 ⟨#[]⟩ 0 0 0) 30) = W0 := ⟨_, rfl⟩
  obtain ⟨W1, hW1⟩ : ∃ W1, W0.alloc (.cells (tkX 0 ⟨#[]⟩ 0 0 0) 30) = W1 := ⟨_, rfl⟩
  have z0 : W0.heap.size = n + 1 := by rw [← hW0, asz, hn]
  have a0 : W0.heap[n]? = some (.cells (tkX 0 ⟨#[]⟩ 0 0 0) 30 (0, 0)) := by rw [← hW0, ← hn]; exact World.alloc_heap_new w _
  have b1 : W1.heap[n + 1]? = some (.cells (tkX 0 ⟨#[]⟩ 0 0 0) 30 (0, 0)) := by rw [← hW1, ← z0]; exact World.alloc_heap_new W0 _
  have hb0 : Below n w W0 := by rw [← hW0]; exact (Below.refl n w).alloc (by omega) _
  have hb1 : Below (n + 1) W0 W1 := by rw [← hW1]; exact (Below.refl (n + 1) W0).alloc (by omega) _
  have b0 : W1.heap[n]? = some (.cells (tkX 0 ⟨#[]⟩ 0 0 0) 30 (0, 0)) := (hb1.block n (by omega)).trans a0
  have st0 := store_new W1 (n + 1) _ _ _ _ _ 0 ⟨#[]⟩ (l : Nat) (c : Nat) (p : Nat) b1
  have T2 : Two w (set5 W1 (n + 1) 0 ⟨#[]⟩ (l : Nat) (c : Nat) (p : Nat)) n 0 ⟨#[]⟩ (l : Nat) (c : Nat) (p : Nat) := ⟨(set5_block (Nat.lt_succ_self n) (by have := (Array.getElem?_eq_some_iff.1 b0).1; exact this) 0 ⟨#[]⟩ (l : Nat) (c : Nat) (p : Nat)).trans b0, set5_at 0 ⟨#[]⟩ (l : Nat) (c : Nat) (p : Nat) b1, (hb0.trans (hb1.mono (Nat.le_succ n))).trans (set5_below (Nat.le_succ n) 0 ⟨#[]⟩ (l : Nat) (c : Nat) (p : Nat))⟩
  obtain ⟨W2, hW2⟩ : ∃ W2, set5 W1 (n + 1) 0 ⟨#[]⟩ (l : Nat) (c : Nat) (p : Nat) = W2 := ⟨_, rfl⟩
  rw [hW2] at st0 T2
  have ST0 := Lib.hid st0
  clear hW2 st0 b1 b0 hb0 hb1 a0
  rw [hn]
  by_cases hps : p < s.size
  · have hlt : ((p : Int) == (s.size : Int)) = false := by simp; omega
    have HI : ∀ w, (Instr.index 9 (.string s) (.int .i64 (p : Nat))).run Tryz.prog w = .ok (.int .u8 (bAt s p)) w := fun w => run_bAt s p hps w
    by_cases h93 : B s p = 93
    · have hx : xoneV s p = .bad 25 p := by unfold xoneV; rw [if_pos hps, if_pos h93]
      have hb : bAt s p = 93 := by rw [bAt_B, h93]; rfl
      rw [hx]
      rw [hb] at HI
      clear hx hb h93
      obtain ⟨V', hst, hv, hbv⟩ := T2.out
      obtain ⟨q0, q1, q2, q3, q4⟩ := cells5 T2.2.1
      have ST4 := Lib.hid hst
      have HV := Lib.hid (And.intro hv hbv)
      clear hst hv hbv T2
      go_enter Tryz.func52, Tryz.ntmps52
      go_wp2_with (first | (go_at_call 54; refine (CP.out _).mono ?_; clear CP; rintro e w1 ⟨rfl, rfl⟩) | (refine wpList_store_eq rfl rfl rfl rfl rfl ST0.out ?_; clear ST0) | (refine wpList_store_eq rfl rfl rfl rfl rfl ST4.out ?_; clear ST4))
      (try simp only [Exit.inBlock, Exit.then])
      refine bodyPost_ret (results_cell4 rfl _ _ n 30 (tkX 0 ⟨#[]⟩ (l : Nat) (c : Nat) (p : Nat)) (0, 0) _ rfl HV.out.1 Tryz.underlying30 rfl (by kernel_rfl)) rfl ?_
      exact ⟨⟨_, _, rfl⟩, HV.out.2⟩
    have n93 : (bAt s p == 93) = false := by rw [bAt_B]; simp; omega
    by_cases h42 : B s p = 42
    · have hx : xoneV s p = .bad 4 p := by unfold xoneV; rw [if_pos hps, if_neg h93, if_pos h42]
      have hb : bAt s p = 42 := by rw [bAt_B, h42]; rfl
      rw [hx]
      rw [hb] at HI
      clear hx hb h93 h42 n93
      obtain ⟨V', hst, hv, hbv⟩ := T2.out
      obtain ⟨q0, q1, q2, q3, q4⟩ := cells5 T2.2.1
      have ST4 := Lib.hid hst
      have HV := Lib.hid (And.intro hv hbv)
      clear hst hv hbv T2
      go_enter Tryz.func52, Tryz.ntmps52
      go_wp2_with (first | (go_at_call 54; refine (CP.out _).mono ?_; clear CP; rintro e w1 ⟨rfl, rfl⟩) | (refine wpList_store_eq rfl rfl rfl rfl rfl ST0.out ?_; clear ST0) | (refine wpList_store_eq rfl rfl rfl rfl rfl ST4.out ?_; clear ST4))
      (try simp only [Exit.inBlock, Exit.then])
      refine bodyPost_ret (results_cell4 rfl _ _ n 30 (tkX 0 ⟨#[]⟩ (l : Nat) (c : Nat) (p : Nat)) (0, 0) _ rfl HV.out.1 Tryz.underlying30 rfl (by kernel_rfl)) rfl ?_
      exact ⟨⟨_, _, rfl⟩, HV.out.2⟩
    have n42 : (bAt s p == 42) = false := by rw [bAt_B]; simp; omega
    by_cases h91 : B s p = 91
    · have hb : bAt s p = 91 := by rw [bAt_B, h91]; rfl
      rw [hb] at HI
      clear n93 n42
      have CF : Hid (∀ V, Calls Tryz.prog 78 #[.string s, .int .i64 (p : Nat), .int .u8 93] V fun e w' => e = .returned (.int .i64 (xfindI s (93 : Nat) p)) ∧ V = w') := Lib.hid fun V => xfind_any s p 93 V (by omega) hpz
      rcases xfindI_spec s 93 p hpz with ⟨e1, h1⟩ | ⟨j, e1, h1, h2, h3, h4⟩
      · have hx : xoneV s p = .bad 25 p := by unfold xoneV; rw [if_pos hps, if_neg h93, if_neg h42, if_pos h91, if_pos (by rw [e1]; decide)]
        rw [hx]
        rw [e1] at CF
        clear hx e1 h1 h93 h42 h91 hb
        obtain ⟨V', hst, hv, hbv⟩ := T2.out
        obtain ⟨q0, q1, q2, q3, q4⟩ := cells5 T2.2.1
        have ST4 := Lib.hid hst
        have HV := Lib.hid (And.intro hv hbv)
        clear hst hv hbv T2
        go_enter Tryz.func52, Tryz.ntmps52
        go_wp2_with (first | (go_at_call 54; refine (CP.out _).mono ?_; clear CP; rintro e w1 ⟨rfl, rfl⟩) | (refine wpList_store_eq rfl rfl rfl rfl rfl ST0.out ?_; clear ST0) | (go_at_call 78; refine (CF.out _).mono ?_; clear CF; rintro e w1 ⟨rfl, rfl⟩) | (refine wpList_store_eq rfl rfl rfl rfl rfl ST4.out ?_; clear ST4))
        (try simp only [Exit.inBlock, Exit.then])
        refine bodyPost_ret (results_cell4 rfl _ _ n 30 (tkX 0 ⟨#[]⟩ (l : Nat) (c : Nat) (p : Nat)) (0, 0) _ rfl HV.out.1 Tryz.underlying30 rfl (by kernel_rfl)) rfl ?_
        exact ⟨⟨_, _, rfl⟩, HV.out.2⟩
      · have hx : xoneV s p = .tok 3 (evnV (s.extract (p + 1) j)) (j + 1) := by unfold xoneV; rw [if_pos hps, if_neg h93, if_neg h42, if_pos h91, if_neg (by rw [e1]; omega), e1, Int.toNat_natCast]
        rw [hx]
        rw [e1] at CF
        have hpj : p + 1 ≤ j := by
          rcases Nat.lt_or_ge p j with h | h
          · exact h
          · obtain rfl : j = p := by omega
            omega
        have hj0 : ¬ (j : Int) < 0 := by omega
        have hj1 : (p : Int) + 1 ≤ (j : Nat) := by omega
        have hj2 : (j : Int) ≤ (s.size : Nat) := by omega
        have hp1 : ((p : Int) + 1).toNat = p + 1 := by omega
        have CS : Hid (∀ V, Calls Tryz.prog 79 #[.string (s.extract (p + 1) j)] V fun e w' => e = .returned (.string ⟨(evnV (s.extract (p + 1) j)).toArray⟩) ∧ Below V.heap.size V w') := Lib.hid fun V => xspaced_any (s.extract (p + 1) j) V (by rw [ByteArray.size_extract]; omega)
        generalize evnV (s.extract (p + 1) j) = X at *
        have T3 := T2.kind 3
        obtain ⟨f0, -⟩ := T2.fr0
        obtain ⟨q0, -, -, -, -⟩ := cells5 T2.2.1
        obtain ⟨W3, hW3⟩ : ∃ W3, W2.setCell ⟨n + 1, 0, none⟩ (.int .i64 3) = W3 := ⟨_, rfl⟩
        rw [hW3] at T3
        have OPT : ∀ w4, Below W3.heap.size W3 w4 → w4.frozen? ⟨n + 1, 1, none⟩ = false ∧ w4.cell? ⟨n + 1, 1, none⟩ = some (.string ⟨#[]⟩) ∧ ∃ W5, w4.setCell ⟨n + 1, 1, none⟩ (.string ⟨X.toArray⟩) = W5 ∧ Two w W5 n 3 ⟨X.toArray⟩ (l : Nat) (c : Nat) (p : Nat) := fun w4 h => by
          have T4 := T3.below h
          exact ⟨T4.fr0.2, (cells5 T4.2.1).2.1, _, rfl, T4.text _⟩
        have HOP := Lib.hid OPT
        clear OPT T2 T3 hx e1 h1 h2 h3 h4 h93 h42 h91 hb hpj
        go_enter Tryz.func52, Tryz.ntmps52
        go_wp2_with (first | (go_at_call 54; refine (CP.out _).mono ?_; clear CP; rintro e w1 ⟨rfl, rfl⟩) | (refine wpList_store_eq rfl rfl rfl rfl rfl ST0.out ?_; clear ST0) | (go_at_call 78; refine (CF.out _).mono ?_; clear CF; rintro e w1 ⟨rfl, rfl⟩) | (go_at_call 79; refine (CS.out _).mono ?_; clear CS; rintro e w4 ⟨rfl, hb4⟩; obtain ⟨f1, q1, W5, hW5, T5⟩ := HOP.out w4 hb4; obtain ⟨V', hst, hv, hbv⟩ := T5.out; obtain ⟨p0, p1, p2, p3, p4⟩ := cells5 T5.2.1; have ST4 := Lib.hid hst; have HV := Lib.hid (And.intro hv hbv); clear hst hv hbv T5 hb4 HOP) | (refine wpList_store_eq rfl rfl rfl rfl rfl ST4.out ?_; clear ST4))
        (try simp only [Exit.inBlock, Exit.then])
        refine bodyPost_ret (results_cell4 rfl _ _ n 30 (tkX 3 ⟨X.toArray⟩ (l : Nat) (c : Nat) (p : Nat)) (0, 0) _ rfl HV.out.1 Tryz.underlying30 rfl (by kernel_rfl)) rfl ?_
        exact ⟨⟨_, rfl⟩, HV.out.2⟩
    have n91 : (bAt s p == 91) = false := by rw [bAt_B]; simp; omega
    generalize hbb : bAt s p = b at *
    clear hbb
    have CG := Lib.hid (fun V => xsign_any s p V (by omega) hpz)
    by_cases hsg : sgnN s p ≠ 0
    · have hx : xoneV s p = .tok 2 (seg s p (p + sgnN s p)) (p + sgnN s p) := by unfold xoneV; rw [if_pos hps, if_neg h93, if_neg h42, if_neg h91, if_pos hsg]
      rw [hx]
      have hsz := (sgn_stop s p hsg).1
      have hln : (seg s p (p + sgnN s p)).length = sgnN s p := by rw [seg_len s _ _ (by omega) hsz]; omega
      obtain ⟨nx, hnx⟩ : ∃ nx, p + sgnN s p = nx := ⟨_, rfl⟩
      rw [hnx] at hln hsz CG ⊢
      generalize seg s p nx = X at *
      have hX : X ≠ [] := fun h => by rw [h] at hln; exact hsg hln.symm
      have hXs : (⟨X.toArray⟩ : ByteArray).size = X.length := by rw [Lib.size_eq]
      have hXe : X.isEmpty = false := by cases X with | nil => exact absurd rfl hX | cons a t => rfl
      have OPT : ∀ w4, Below W2.heap.size W2 w4 → w4.frozen? ⟨n + 1, 1, none⟩ = false ∧ w4.cell? ⟨n + 1, 1, none⟩ = some (.string ⟨#[]⟩) ∧ ∃ W5, w4.setCell ⟨n + 1, 1, none⟩ (.string ⟨X.toArray⟩) = W5 ∧ W5.frozen? ⟨n + 1, 0, none⟩ = false ∧ W5.cell? ⟨n + 1, 0, none⟩ = some (.int .i64 0) ∧ W5.cell? ⟨n + 1, 1, none⟩ = some (.string ⟨X.toArray⟩) ∧ ∃ W6, W5.setCell ⟨n + 1, 0, none⟩ (.int .i64 2) = W6 ∧ Two w W6 n 2 ⟨X.toArray⟩ (l : Nat) (c : Nat) (p : Nat) := fun w4 h => by
        have T4 := T2.below h
        have T5 := T4.text ⟨X.toArray⟩
        exact ⟨T4.fr0.2, (cells5 T4.2.1).2.1, _, rfl, T5.fr0.1, (cells5 T5.2.1).1, (cells5 T5.2.1).2.1, _, rfl, T5.kind 2⟩
      have HOP := Lib.hid OPT
      have HLN : Hid (p + X.length = nx ∧ nx ≤ s.size) := Lib.hid ⟨by rw [hln]; exact hnx, hsz⟩
      clear OPT T2 hx h93 h42 h91 hsg hln hnx hsz
      go_enter Tryz.func52, Tryz.ntmps52
      go_wp2_with (first | (go_at_call 54; refine (CP.out _).mono ?_; clear CP; rintro e w1 ⟨rfl, rfl⟩) | (refine wpList_store_eq rfl rfl rfl rfl rfl ST0.out ?_; clear ST0) | (go_at_call 80; refine (CG.out _).mono ?_; clear CG; rintro e w4 ⟨rfl, hb4⟩; obtain ⟨f1, q1, W5, hW5, f2, q2, q3, W6, hW6, T6⟩ := HOP.out w4 hb4; have HT6 := Lib.hid T6; clear T6 hb4 HOP))
      obtain ⟨h0, p0, hb6⟩ := HT6.out
      obtain ⟨p0, p1, p2, p3, p4⟩ := cells5 p0
      have h1 := setc_at (i := 0) (u := .int .i64 2) h0
      have h2 := setc_at (i := 1) (u := .string ⟨X.toArray⟩) h1
      have h3 := setc_at (i := 2) (u := .int .i64 (l : Nat)) h2
      have h4 := setc_at (i := 3) (u := .int .i64 (c : Nat)) h3
      have r0 := cell_at5 h0 (i := 0) rfl
      have r1 := cell_at5 h1 (i := 1) rfl
      have r2 := cell_at5 h2 (i := 2) rfl
      have r3 := cell_at5 h3 (i := 3) rfl
      have r4 := cell_at5 h4 (i := 4) rfl
      have g0 := frozen_at5 h0 (i := 0)
      have g1 := frozen_at5 h1 (i := 1)
      have g2 := frozen_at5 h2 (i := 2)
      have g3 := frozen_at5 h3 (i := 3)
      have g4 := frozen_at5 h4 (i := 4)
      have hv := set5_at 2 ⟨X.toArray⟩ (l : Nat) (c : Nat) (p : Nat) h0
      have hbv := hb6.trans (set5_below (V := W6) (Nat.le_refl n) 2 ⟨X.toArray⟩ (l : Nat) (c : Nat) (p : Nat))
      unfold set5 at hv hbv
      have hv1 : (((((W6.setCell ⟨n, 0, none⟩ (.int .i64 2)).setCell ⟨n, 1, none⟩ (.string ⟨X.toArray⟩)).setCell ⟨n, 2, none⟩ (.int .i64 (l : Nat))).setCell ⟨n, 3, none⟩ (.int .i64 (c : Nat))).setCell ⟨n, 4, none⟩ (.int .i64 (p : Nat))).cell? ⟨n + 1, 1, none⟩ = some (.string ⟨X.toArray⟩) := by
        have hq : (((((W6.setCell ⟨n, 0, none⟩ (.int .i64 2)).setCell ⟨n, 1, none⟩ (.string ⟨X.toArray⟩)).setCell ⟨n, 2, none⟩ (.int .i64 (l : Nat))).setCell ⟨n, 3, none⟩ (.int .i64 (c : Nat))).setCell ⟨n, 4, none⟩ (.int .i64 (p : Nat))).heap[n + 1]? = W6.heap[n + 1]? := by
          rw [setc_other (by omega), setc_other (by omega), setc_other (by omega), setc_other (by omega), setc_other (by omega)]
        exact (cells5 (hq.trans HT6.out.2.1)).2.1
      have HV := Lib.hid (And.intro hv hbv)
      clear hv hbv h0 h1 h2 h3 h4 hb6
      go_region
      all_goals
        rw [show wrap64 ((p : Int) + (X.length : Nat)) = ((nx : Nat) : Int) by unfold wrap64; have := HLN.out; omega]
        go_wp2
        (try simp only [Exit.inBlock, Exit.then])
        refine bodyPost_ret (results_cell4 rfl _ _ n 30 (tkX 2 ⟨X.toArray⟩ (l : Nat) (c : Nat) (p : Nat)) (0, 0) _ rfl HV.out.1 Tryz.underlying30 rfl (by kernel_rfl)) rfl ?_
        exact ⟨⟨_, rfl⟩, HV.out.2.trans (below_drewN (Below.refl _ _) 1)⟩
    · have h0 : sgnN s p = 0 := by omega
      rw [h0, Nat.add_zero, seg_none] at CG
      have CT := Lib.hid (fun V => xtext_any s p V hs hpz)
      have hx : xoneV s p = (match xtextV s p with | .ok x next => X1.tok 1 x next | .bad no i => X1.bad no i) := by unfold xoneV; rw [if_pos hps, if_neg h93, if_neg h42, if_neg h91, if_neg hsg]; cases xtextV s p <;> rfl
      rw [hx]
      have OPT : ∀ w4, Below W2.heap.size W2 w4 → w4.frozen? ⟨n + 1, 1, none⟩ = false ∧ w4.cell? ⟨n + 1, 1, none⟩ = some (.string ⟨#[]⟩) ∧ ∃ W5, w4.setCell ⟨n + 1, 1, none⟩ (.string ⟨#[]⟩) = W5 ∧ W5.frozen? ⟨n + 1, 0, none⟩ = false ∧ W5.cell? ⟨n + 1, 0, none⟩ = some (.int .i64 0) ∧ W5.cell? ⟨n + 1, 1, none⟩ = some (.string ⟨#[]⟩) ∧ 
          ∀ Y w7, Below (W5.setCell ⟨n + 1, 0, none⟩ (.int .i64 1)).heap.size (W5.setCell ⟨n + 1, 0, none⟩ (.int .i64 1)) w7 → w7.frozen? ⟨n + 1, 1, none⟩ = false ∧ w7.cell? ⟨n + 1, 1, none⟩ = some (.string ⟨#[]⟩) ∧ ∃ W8, w7.setCell ⟨n + 1, 1, none⟩ (.string Y) = W8 ∧ Two w W8 n 1 Y (l : Nat) (c : Nat) (p : Nat) := fun w4 h => by
        have T4 := T2.below h
        have T5 := T4.text ⟨#[]⟩
        have T6 := T5.kind 1
        refine ⟨T4.fr0.2, (cells5 T4.2.1).2.1, _, rfl, T5.fr0.1, (cells5 T5.2.1).1, (cells5 T5.2.1).2.1, fun Y w7 h7 => ?_⟩
        have T7 := T6.below h7
        exact ⟨T7.fr0.2, (cells5 T7.2.1).2.1, _, rfl, T7.text Y⟩
      have HOP := Lib.hid OPT
      cases hxt : xtextV s p with
      | ok x next =>
        rw [hxt] at CT
        clear OPT T2 hx h93 h42 h91 hsg h0 hxt
        go_enter Tryz.func52, Tryz.ntmps52
        go_wp2_with (first | (go_at_call 54; refine (CP.out _).mono ?_; clear CP; rintro e w1 ⟨rfl, rfl⟩) | (refine wpList_store_eq rfl rfl rfl rfl rfl ST0.out ?_; clear ST0) | (go_at_call 80; refine (CG.out _).mono ?_; clear CG; rintro e w4 ⟨rfl, hb4⟩; obtain ⟨f1, q1, W5, hW5, f2, q2, q3, hT⟩ := HOP.out w4 hb4; have HT := Lib.hid hT; clear hT hb4 HOP) | fail)
        refine (CT.out _).mono ?_
        clear CT
        rintro e w7 ⟨he, hb7⟩
        have he2 : e = _ := he
        subst he2
        obtain ⟨f7, q7, W8, hW8, T8⟩ := HT.out ⟨x.toArray⟩ w7 hb7
        obtain ⟨V', hst, hv, hbv⟩ := T8.out
        obtain ⟨p0, p1, p2, p3, p4⟩ := cells5 T8.2.1
        have ST4 := Lib.hid hst
        have HV := Lib.hid (And.intro hv hbv)
        clear hst hv hbv T8 HT
        go_wp2_with (refine wpList_store_eq rfl rfl rfl rfl rfl ST4.out ?_; clear ST4)
        (try simp only [Exit.inBlock, Exit.then])
        refine bodyPost_ret (results_cell4 rfl _ _ n 30 (tkX 1 ⟨x.toArray⟩ (l : Nat) (c : Nat) (p : Nat)) (0, 0) _ rfl HV.out.1 Tryz.underlying30 rfl (by kernel_rfl)) rfl ?_
        exact ⟨⟨_, rfl⟩, HV.out.2⟩
      | bad no j =>
        rw [hxt] at CT
        clear OPT T2 hx h93 h42 h91 hsg h0 hxt
        go_enter Tryz.func52, Tryz.ntmps52
        go_wp2_with (first | (go_at_call 54; refine (CP.out _).mono ?_; clear CP; rintro e w1 ⟨rfl, rfl⟩) | (refine wpList_store_eq rfl rfl rfl rfl rfl ST0.out ?_; clear ST0) | (go_at_call 80; refine (CG.out _).mono ?_; clear CG; rintro e w4 ⟨rfl, hb4⟩; obtain ⟨f1, q1, W5, hW5, f2, q2, q3, hT⟩ := HOP.out w4 hb4; have HT := Lib.hid hT; clear hT hb4 HOP) | fail)
        refine (CT.out _).mono ?_
        clear CT
        rintro e w7 ⟨he, hb7⟩
        have he2 : e = _ := he
        subst he2
        obtain ⟨f7, q7, W8, hW8, T8⟩ := HT.out ⟨#[]⟩ w7 hb7
        obtain ⟨V', hst, hv, hbv⟩ := T8.out
        obtain ⟨p0, p1, p2, p3, p4⟩ := cells5 T8.2.1
        have ST4 := Lib.hid hst
        have HV := Lib.hid (And.intro hv hbv)
        clear hst hv hbv T8 HT
        go_wp2_with (refine wpList_store_eq rfl rfl rfl rfl rfl ST4.out ?_; clear ST4)
        (try simp only [Exit.inBlock, Exit.then])
        refine bodyPost_ret (results_cell4 rfl _ _ n 30 (tkX 1 ⟨#[]⟩ (l : Nat) (c : Nat) (p : Nat)) (0, 0) _ rfl HV.out.1 Tryz.underlying30 rfl (by kernel_rfl)) rfl ?_
        exact ⟨⟨_, _, rfl⟩, HV.out.2⟩
  · have hx : xoneV s p = .fin := by unfold xoneV; rw [if_neg hps]
    have hlt : ((p : Int) == (s.size : Int)) = true := by simp; omega
    rw [hx]
    clear hx hps
    obtain ⟨V', hst, hv, hbv⟩ := T2.out
    obtain ⟨q0, q1, q2, q3, q4⟩ := cells5 T2.2.1
    have ST4 := Lib.hid hst
    have HV := Lib.hid (And.intro hv hbv)
    clear hst hv hbv T2
    go_enter Tryz.func52, Tryz.ntmps52
    go_wp2_with (first | (go_at_call 54; refine (CP.out _).mono ?_; clear CP; rintro e w1 ⟨rfl, rfl⟩) | (refine wpList_store_eq rfl rfl rfl rfl rfl ST0.out ?_; clear ST0) | (refine wpList_store_eq rfl rfl rfl rfl rfl ST4.out ?_; clear ST4))
    (try simp only [Exit.inBlock, Exit.then])
    refine bodyPost_ret (results_cell4 rfl _ _ n 30 (tkX 0 ⟨#[]⟩ (l : Nat) (c : Nat) (p : Nat)) (0, 0) _ rfl HV.out.1 Tryz.underlying30 rfl (by kernel_rfl)) rfl ?_
    exact ⟨rfl, HV.out.2⟩
end Go.Proofs.YtbnnhbmnddaafaaGreatDoor
