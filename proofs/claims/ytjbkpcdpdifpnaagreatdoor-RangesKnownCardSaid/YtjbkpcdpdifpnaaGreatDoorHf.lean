/- Parse. -/
import Derived.Test.YtjbkpcdpdifpnaaGreatDoorCk10
import Derived.Test.YtjbkpcdpdifpnaaGreatDoorCk5
import Derived.Deep.QuietTactic
import Derived.BigQuiet
import Derived.IntWalk
namespace Go.Proofs.YtjbkpcdpdifpnaaGreatDoor
open Go Go.RowKit Go.Kt Go.Kt.Rg

def PrOut (l : List UInt8) (e : Ending) (w' : World) : Prop :=
  match prL l with
  | .ok R => ∃ b, e = .returned (.tuple #[ptrV b, .nilIface]) ∧ SetAt R b w'
  | .error (no, q) => e = .returned (.tuple #[.pointer none, faultV no (q : Nat)])
theorem prF_step (f : Nat) (s : List UInt8) (p : Nat) (l : List Run) : prF (f + 1) s p l =
    if s.length ≤ p then .error (25, p)
    else if s[p]? = some 93 then (if p + 1 < s.length then .error (3, p + 1) else .ok l)
    else match spAt s p with
      | .error e => .error e
      | .ok (x, q) => if aboveB l x then prF f s q (l ++ [x]) else .error (4, p) := rfl
theorem above_last {l : List Run} {y : Run} (h : l[l.length - 1]? = some y) (x : Run) : aboveB l x = decide (y.2 < x.1) := by
  unfold aboveB
  rw [List.getLast?_eq_getElem?, h]

theorem spAt_bd {l : List UInt8} {p q : Nat} {x : Run} (h : spAt l p = .ok (x, q)) : 0 ≤ x.1 ∧ x.1 < x.2 ∧ x.2 ≤ 1112192 ∧ p < q ∧ q ≤ l.length := by
  have := spAt_sound h
  unfold allN at this
  exact ⟨this.1, this.2.1, this.2.2.1, this.2.2.2.1, this.2.2.2.2.1⟩

set_option maxRecDepth 100000 in
set_option maxHeartbeats 8000000 in
theorem rparse_any (s : ByteArray) (w : World) (hs : s.size ≤ 2199023255552) (hE : PEnv w) :
    Calls Tryz.prog 24 #[.string s] w fun e w' => PrOut s.data.toList e w' ∧ Below w.heap.size w w' := by
  have CS := Lib.hid (fun (p : Nat) V (hp : p ≤ s.size) (hb : Below w.heap.size w V) => rps_any s p V hp (by omega) (hE.below hb))
  have CH := Lib.hid (fun V => Tryz.strings_HasPrefix s ⟨#[91]⟩ V)
  obtain ⟨l, hl⟩ : ∃ l, s.data.toList = l := ⟨_, rfl⟩
  have hln : l.length = s.size := by rw [← hl]; exact (Lib.size_eq s).symm
  rw [hl] at CS CH ⊢
  have HIX : Hid (∀ (k : Nat) (c : UInt8), l[k]? = some c → ∀ W : World, (Instr.index 9 (.string s) (.int .i64 (k : Nat))).run Tryz.prog W = .ok (.int .u8 (c.toNat : Nat)) W) := Lib.hid fun k c h W => by
    have hk : k < s.size := by rw [← hln]; exact (List.getElem?_eq_some_iff.1 h).1
    have e : bAt s k = (c.toNat : Nat) := by unfold bAt; rw [hl, List.getD_eq_getElem?_getD, h]; rfl
    rw [run_bAt s k hk W, e]
  have OUT : ∀ (x : Except (Int × Nat) (List Run)), prL l = x → Hid (∀ e w', (match x with
      | .ok R => ∃ b, e = .returned (.tuple #[ptrV b, .nilIface]) ∧ SetAt R b w'
      | .error (no, q) => e = .returned (.tuple #[.pointer none, faultV no (q : Nat)])) → Below w.heap.size w w' → PrOut l e w' ∧ Below w.heap.size w w') := fun x hx => Lib.hid fun e w' h hb => ⟨by unfold PrOut; rw [hx]; exact h, hb⟩
  have HO := Lib.hid OUT
  have HLN := Lib.hid hln
  by_cases h0 : [91].isPrefixOf l = true
  · have D0 : Hid (∀ V, Calls Tryz.prog 80 #[.string s, .string ⟨#[91]⟩] V fun e w' => e = .returned (.bool true) ∧ V = w') := Lib.hid fun V => by
      refine (CH.out V).mono ?_
      rintro e w' ⟨rfl, rfl⟩
      exact ⟨by show Ending.returned (.bool ([91].isPrefixOf l)) = _; rw [h0], rfl⟩
    have HP : Hid (prL l = prF l.length l 1 []) := Lib.hid (by unfold prL; rw [if_pos h0])
    have h1 : 1 ≤ s.size := by
      rw [← hln]
      cases l with
      | nil => simp [List.isPrefixOf] at h0
      | cons => simp
    clear CH OUT hl hE hln h0
    go_enter Tryz.func24, Tryz.ntmps24
    go_wp2_with fail
    refine (D0.out _).mono ?_
    rintro e w1 ⟨rfl, rfl⟩
    go_wp2_with fail
    go_loopw [4, 5] (fun o x wr => ∃ (f k m cp : Nat) (ap : Option Addr) (done : List Run), o = .slice ap m cp ∧ x = .int .i64 k ∧ 1 ≤ k ∧ k ≤ s.size ∧ m = done.length ∧ m < k ∧ s.size < k + f + 1 ∧ prL l = prF f l k done ∧ OwnS (fun y => w.heap.size ≤ y) 98 2 (.slice ap m cp) m (encR done) wr ∧ Below w.heap.size w wr) (fun _ x _ => s.size - (RowKit.intOf x).toNat)
    case atStart =>
      refine ⟨l.length, 1, 0, 0, none, [], rfl, rfl, by omega, h1, rfl, by omega, ?_, HP.out, own_nil _ _ _ _, Below.refl _ _⟩
      have := HLN.out
      omega
    case round =>
      obtain ⟨f, k, m, cp, ap, done, rfl, rfl, hk1, hk, hm, hmk, hf, hpr, hown, hb⟩ := hrel
      have HI := Lib.hid (And.intro hpr (And.intro hown hb))
      have HM := Lib.hid hm
      have hz := hb.size
      clear hpr hown hm hb
      by_cases hlt : k < s.size
      · obtain ⟨g, rfl⟩ : ∃ g, f = g + 1 := ⟨f - 1, by omega⟩
        have hlt' : (k : Int) < s.size := by omega
        obtain ⟨c, hc⟩ : ∃ c, l[k]? = some c := ⟨_, List.getElem?_eq_getElem (by rw [HLN.out]; exact hlt)⟩
        have cI := HIX.out k c hc
        have hst := HI.out.1
        rw [prF_step, if_neg (by rw [HLN.out]; omega), hc] at hst
        by_cases h93 : c = 93
        · subst h93
          rw [if_pos rfl] at hst
          have hkl : ((k : Int) == s.size) = false := by rw [beq_eq_false_iff_ne]; omega
          by_cases hmore : k + 1 < s.size
          · rw [if_pos (by rw [HLN.out]; exact hmore)] at hst
            have HF := HO.out _ hst
            have hmore' : (k : Int) + 1 < s.size := by omega
            clear hst hc
            go_wp2_with fail
            go_ret2
            exact HF.out _ _ (by simp) HI.out.2.2
          · rw [if_neg (by rw [HLN.out]; exact hmore)] at hst
            have HF := HO.out _ hst
            have hmore' : ¬ (k : Int) + 1 < s.size := by omega
            have HS := Lib.hid (slr_of_own HI.out.2.1 HM.out)
            clear hst hc
            go_wp2_with fail
            go_ret2
            exact HF.out _ _ ⟨wr.heap.size, rfl, set_box HS.out⟩ (HI.out.2.2.alloc hz _)
        · have h93' : ((c.toNat : Nat) : Int) ≠ 93 := fun e => h93 (UInt8.toNat_inj.1 (show c.toNat = 93 by omega))
          have h93b : (((c.toNat : Nat) : Int) == 93) = false := by rw [beq_eq_false_iff_ne]; exact h93'
          rw [if_neg (by simpa using h93)] at hst
          have CX := Lib.hid (CS.out k wr hk HI.out.2.2)
          clear hc h93
          cases hsp : spAt l k with
          | error er =>
            obtain ⟨no, q⟩ := er
            rw [hsp] at hst
            have HF := HO.out _ hst
            have CY : Hid (Calls Tryz.prog 81 #[.string s, .int .i64 k] wr fun e w' => e = .returned (.tuple #[.agg #[.int .i64 0, .int .i64 0], .int .i64 0, faultV no (q : Nat)]) ∧ Below wr.heap.size wr w') := Lib.hid (by
              refine CX.out.mono ?_
              rintro e w' ⟨h, hb⟩
              unfold SpOut at h; rw [hsp] at h
              exact ⟨h, hb⟩)
            clear hst hsp CX
            go_wp2_with fail
            refine CY.out.mono ?_
            rintro e V ⟨rfl, hb1⟩
            have HB := Lib.hid (HI.out.2.2.trans (hb1.mono hz))
            have hzV : w.heap.size ≤ V.heap.size := Nat.le_trans hz hb1.size
            clear hb1
            go_wp2_with fail
            go_ret2
            exact HF.out _ _ rfl (HB.out.alloc hzV _)
          | ok a =>
            obtain ⟨x, q⟩ := a
            have hbd := spAt_bd hsp
            rw [hsp] at hst
            simp only at hst
            have CY : Hid (Calls Tryz.prog 81 #[.string s, .int .i64 k] wr fun e w' => e = .returned (.tuple #[.agg #[.int .i64 x.1, .int .i64 x.2], .int .i64 (q : Nat), .nilIface]) ∧ Below wr.heap.size wr w') := Lib.hid (by
              refine CX.out.mono ?_
              rintro e w' ⟨h, hb⟩
              unfold SpOut at h; rw [hsp] at h
              exact ⟨h, hb⟩)
            rw [HLN.out] at hbd
            have hq1 : k < q := hbd.2.2.2.1
            have hq2 : q ≤ s.size := hbd.2.2.2.2
            have x0 : 0 ≤ x.1 := hbd.1
            have x1 : x.1 ≤ 1112192 := by omega
            obtain ⟨xa, xb⟩ := x
            simp only at x0 x1
            have HBD := Lib.hid hbd
            clear hsp CX hbd
            rcases Nat.eq_zero_or_pos m with hm0 | hmp
            · subst hm0
              have hd : done = [] := List.eq_nil_of_length_eq_zero HM.out.symm
              have hab : aboveB done (xa, xb) = true := by rw [hd]; rfl
              rw [if_pos hab] at hst
              have HST := Lib.hid hst
              clear hst hd hab
              go_wp2_with fail
              refine CY.out.mono ?_
              rintro e V ⟨rfl, hb1⟩
              have hzV : w.heap.size ≤ V.heap.size := Nat.le_trans hz hb1.size
              have HN := Lib.hid hb1
              have hbV := HI.out.2.2.trans (hb1.mono hz)
              clear hb1
              obtain ⟨W, hW⟩ : ∃ W, V.alloc (.cells #[.int .i64 xa, .int .i64 xb] 98) = W := ⟨_, rfl⟩
              have hoW : OwnS (fun y => w.heap.size ≤ y) 98 2 (.slice ap 0 cp) 0 (encR done) W := by
                rw [← hW]
                exact ⟨(HI.out.2.1.keep (X := fun _ => False) (.of_all HN.out) (fun _ h => h.elim)).1.alloc _, HI.out.2.1.2⟩
              have hbW : Below w.heap.size w W := by rw [← hW]; exact hbV.alloc hzV _
              have hzW : W.heap.size = V.heap.size + 1 := by rw [← hW]; simp
              have d0 : W.cell? ⟨V.heap.size, 0, none⟩ = some (.int .i64 xa) := by rw [← hW, Lib.cell_of_heap (World.alloc_heap_new V _)]; rfl
              have d1 : W.cell? ⟨V.heap.size, 1, none⟩ = some (.int .i64 xb) := by rw [← hW, Lib.cell_of_heap (World.alloc_heap_new V _)]; rfl
              have HW := Lib.hid (And.intro hW hzW)
              have HV := Lib.hid (And.intro hoW hbW)
              clear hW hzW hoW hbW hbV
              go_wp2_with fail
              rw [HW.out.1]
              go_quiet (fail)
              have hbQ : Below w.heap.size w (W.drewN nq) := below_drewN HV.out.2 nq
              have hoQ : OwnS (fun y => w.heap.size ≤ y) 98 2 (.slice ap 0 cp) 0 (encR done) (W.drewN nq) := HV.out.1.keep (X := fun _ => False) (.of_all (below_drewN (Below.refl _ _) nq)) (fun _ h => h.elim)
              obtain ⟨g2, cap2, w2, hrun2, hown2, hb2, hz2, hk2⟩ := append_run hoQ hbQ hbQ.size (xa, xb) (by omega)
              have HRun2 := Lib.hid hrun2
              have HG := Lib.hid (And.intro hown2 hb2)
              clear hrun2 hown2 hb2 hz2 hk2 hoQ hbQ
              go_wp2_with (at_builtin; refine wpList_append_eq rfl rfl rfl rfl HRun2.out ?_)
              go_roundw
              case rel => exact ⟨g, q, 0 + 1, cap2, some ⟨g2, 0, none⟩, done ++ [(xa, xb)], rfl, rfl, by omega, hq2, by rw [List.length_append, ← HM.out]; rfl, by omega, by omega, HST.out, HG.out.1, HG.out.2⟩
              case measure => simp [RowKit.intOf]; omega
            · obtain ⟨j, rfl⟩ : ∃ j, m = j + 1 := ⟨m - 1, by omega⟩
              obtain ⟨y, hy⟩ : ∃ y, done[j]? = some y := ⟨_, List.getElem?_eq_getElem (by rw [← HM.out]; omega)⟩
              have hab : aboveB done (xa, xb) = decide (y.2 < xa) := above_last (by rw [← HM.out, Nat.add_sub_cancel]; exact hy) _
              obtain ⟨ga, rfl⟩ : ∃ ga, ap = some ⟨ga, 0, none⟩ := by
                rcases HI.out.2.1.1.2 with ⟨_, h⟩ | ⟨g, cap, cur, hv, _⟩
                · omega
                · injection hv with h1 _ _; exact ⟨g, h1⟩
              have YC : Hid (∀ (W : World), OwnS (fun b => w.heap.size ≤ b) 98 2 (.slice (some ⟨ga, 0, none⟩) (j + 1) cp) (j + 1) (encR done) W → W.cell? ⟨ga, j * 2 + 1, none⟩ = some (.int .i64 y.2)) := Lib.hid fun W ho => by
                have hS := slr_of_own ho HM.out
                obtain ⟨ao', cap', e, h⟩ := hS
                rcases h with h | ⟨g', e2, h⟩
                · rw [h] at hy; simp at hy
                · have h3 := (h j y hy).2
                  injection e with e3 _ _
                  rw [e2] at e3
                  injection e3 with e3
                  injection e3 with e3
                  rw [e3]; exact h3
              obtain ⟨ya, yb⟩ := y
              simp only at hab YC
              have hjs : (j : Int) ≤ 2199023255552 := by omega
              have jw : IntKind.i64.wrap ((j : Int) + 1 - 1) = (j : Int) := by rw [show (j : Int) + 1 - 1 = j by omega]; exact IntWalk.i64_in _ (by omega)
              have j0 : (0 : Int) ≤ (j : Int) := by omega
              by_cases hle : yb < xa
              · have hle' : ¬ xa ≤ yb := by omega
                rw [if_pos (by rw [hab]; exact decide_eq_true hle)] at hst
                have HST := Lib.hid hst
                clear hst hab hy
                go_wp2_with fail
                refine CY.out.mono ?_
                rintro e V ⟨rfl, hb1⟩
                have hzV : w.heap.size ≤ V.heap.size := Nat.le_trans hz hb1.size
                have HN := Lib.hid hb1
                have hbV := HI.out.2.2.trans (hb1.mono hz)
                clear hb1
                obtain ⟨W, hW⟩ : ∃ W, V.alloc (.cells #[.int .i64 xa, .int .i64 xb] 98) = W := ⟨_, rfl⟩
                have hoW : OwnS (fun y => w.heap.size ≤ y) 98 2 (.slice (some ⟨ga, 0, none⟩) (j + 1) cp) (j + 1) (encR done) W := by
                  rw [← hW]
                  exact ⟨(HI.out.2.1.keep (X := fun _ => False) (.of_all HN.out) (fun _ h => h.elim)).1.alloc _, HI.out.2.1.2⟩
                have hbW : Below w.heap.size w W := by rw [← hW]; exact hbV.alloc hzV _
                have hzW : W.heap.size = V.heap.size + 1 := by rw [← hW]; simp
                have d0 : W.cell? ⟨V.heap.size, 0, none⟩ = some (.int .i64 xa) := by rw [← hW, Lib.cell_of_heap (World.alloc_heap_new V _)]; rfl
                have d1 : W.cell? ⟨V.heap.size, 1, none⟩ = some (.int .i64 xb) := by rw [← hW, Lib.cell_of_heap (World.alloc_heap_new V _)]; rfl
                have d2 := YC.out W hoW
                have HW := Lib.hid (And.intro hW hzW)
                have HV := Lib.hid (And.intro hoW hbW)
                clear hW hzW hoW hbW hbV
                go_wp2_with fail
                rw [HW.out.1]
                go_quiet (fail)
                have hbQ : Below w.heap.size w (W.drewN nq) := below_drewN HV.out.2 nq
                have hoQ : OwnS (fun y => w.heap.size ≤ y) 98 2 (.slice (some ⟨ga, 0, none⟩) (j + 1) cp) (j + 1) (encR done) (W.drewN nq) := HV.out.1.keep (X := fun _ => False) (.of_all (below_drewN (Below.refl _ _) nq)) (fun _ h => h.elim)
                obtain ⟨g2, cap2, w2, hrun2, hown2, hb2, hz2, hk2⟩ := append_run hoQ hbQ hbQ.size (xa, xb) (by omega)
                have HRun2 := Lib.hid hrun2
                have HG := Lib.hid (And.intro hown2 hb2)
                clear hrun2 hown2 hb2 hz2 hk2 hoQ hbQ
                go_wp2_with (at_builtin; refine wpList_append_eq rfl rfl rfl rfl HRun2.out ?_)
                go_roundw
                case rel => exact ⟨g, q, j + 1 + 1, cap2, some ⟨g2, 0, none⟩, done ++ [(xa, xb)], rfl, rfl, by omega, hq2, by rw [List.length_append, ← HM.out]; rfl, by omega, by omega, HST.out, HG.out.1, HG.out.2⟩
                case measure => simp [RowKit.intOf]; omega
              · have hle' : xa ≤ yb := by omega
                rw [if_neg (by rw [hab]; simpa using hle)] at hst
                have HF := HO.out _ hst
                clear hst hab hy
                go_wp2_with fail
                refine CY.out.mono ?_
                rintro e V ⟨rfl, hb1⟩
                have hzV : w.heap.size ≤ V.heap.size := Nat.le_trans hz hb1.size
                have HN := Lib.hid hb1
                have hbV := HI.out.2.2.trans (hb1.mono hz)
                clear hb1
                obtain ⟨W, hW⟩ : ∃ W, V.alloc (.cells #[.int .i64 xa, .int .i64 xb] 98) = W := ⟨_, rfl⟩
                have hoW : OwnS (fun y => w.heap.size ≤ y) 98 2 (.slice (some ⟨ga, 0, none⟩) (j + 1) cp) (j + 1) (encR done) W := by
                  rw [← hW]
                  exact ⟨(HI.out.2.1.keep (X := fun _ => False) (.of_all HN.out) (fun _ h => h.elim)).1.alloc _, HI.out.2.1.2⟩
                have hbW : Below w.heap.size w W := by rw [← hW]; exact hbV.alloc hzV _
                have hzW : W.heap.size = V.heap.size + 1 := by rw [← hW]; simp
                have d0 : W.cell? ⟨V.heap.size, 0, none⟩ = some (.int .i64 xa) := by rw [← hW, Lib.cell_of_heap (World.alloc_heap_new V _)]; rfl
                have d1 : W.cell? ⟨V.heap.size, 1, none⟩ = some (.int .i64 xb) := by rw [← hW, Lib.cell_of_heap (World.alloc_heap_new V _)]; rfl
                have d2 := YC.out W hoW
                have HW := Lib.hid (And.intro hW hzW)
                have HV := Lib.hid (And.intro hoW hbW)
                clear hW hzW hoW hbW hbV
                go_wp2_with fail
                rw [HW.out.1]
                go_quiet (fail)
                go_wp2_with fail
                go_ret2
                exact HF.out _ _ rfl (below_drewN HV.out.2 _)
      · have hlt' : ¬ (k : Int) < s.size := by omega
        obtain rfl : k = s.size := by omega
        have hst := HI.out.1
        have hst2 : prL l = .error (25, s.size) := by
          rw [hst]
          cases f with
          | zero => rfl
          | succ f => rw [prF_step, if_pos (by rw [HLN.out]; exact Nat.le_refl _)]
        have HF := HO.out _ hst2
        clear hst hst2
        go_wp2_with fail
        go_ret2
        exact HF.out _ _ rfl HI.out.2.2
  · have D0 : Hid (∀ V, Calls Tryz.prog 80 #[.string s, .string ⟨#[91]⟩] V fun e w' => e = .returned (.bool false) ∧ V = w') := Lib.hid fun V => by
      refine (CH.out V).mono ?_
      rintro e w' ⟨rfl, rfl⟩
      exact ⟨by show Ending.returned (.bool ([91].isPrefixOf l)) = _; rw [Bool.eq_false_iff.2 h0], rfl⟩
    have HF := OUT (.error (25, 0)) (by unfold prL; rw [if_neg h0])
    clear CH OUT hl hE hln h0
    go_enter Tryz.func24, Tryz.ntmps24
    go_wp2_with fail
    refine (D0.out _).mono ?_
    rintro e w1 ⟨rfl, rfl⟩
    go_wp2_with fail
    go_ret2
    exact HF.out _ _ rfl (Below.refl _ _)
end Go.Proofs.YtjbkpcdpdifpnaaGreatDoor
