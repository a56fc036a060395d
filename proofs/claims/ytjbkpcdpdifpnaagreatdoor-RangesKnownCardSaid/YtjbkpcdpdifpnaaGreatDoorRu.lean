/- The document's answer for ranges: Parse (written by gen_ru.py). -/
import Derived.Test.YtjbkpcdpdifpnaaGreatDoorCk10
import Derived.Test.YtjbkpcdpdifpnaaGreatDoorRt
import Derived.Test.YtjbkpcdpdifpnaaGreatDoorHf
namespace Go.Proofs.YtjbkpcdpdifpnaaGreatDoor
open Go Go.RowKit Go.Kt Go.Kt.Rg
attribute [local go_sem] Oper.semAt_some

def XpOut (l : List UInt8) (e : Ending) (w' : World) : Prop :=
  match prL l with
  | .ok R => ∃ v, e = .returned (.tuple #[.agg #[v], .int .i64 0, .int .i64 0]) ∧ SlR w' v (R.map dnR)
  | .error (no, q) => e = .returned (.tuple #[.agg #[.slice none 0 0], .int .i64 no, .int .i64 (q : Nat)])

set_option maxRecDepth 100000 in
set_option maxHeartbeats 8000000 in
theorem xparse_any (s : ByteArray) (w : World) (hs : s.size ≤ 2199023255552) :
    Calls Tryz.prog 39 #[.string s] w fun e w' => XpOut s.data.toList e w' ∧ Below w.heap.size w w' := by
  have CR := Lib.hid (fun (q : Nat) V (hq : q ≤ s.size) => xread_any s q V (by omega) hq)
  obtain ⟨l, hl⟩ : ∃ l, s.data.toList = l := ⟨_, rfl⟩
  have hln : l.length = s.size := by rw [← hl]; exact (Lib.size_eq s).symm
  have HIX : Hid (∀ (k : Nat) (c : UInt8), l[k]? = some c → ∀ W : World, (Instr.index 9 (.string s) (.int .i64 (k : Nat))).run Tryz.prog W = .ok (.int .u8 (c.toNat : Nat)) W) := Lib.hid fun k c h W => by
    have hk : k < s.size := by rw [← hln]; exact (List.getElem?_eq_some_iff.1 h).1
    have e : bAt s k = (c.toNat : Nat) := by unfold bAt; rw [hl, List.getD_eq_getElem?_getD, h]; rfl
    rw [run_bAt s k hk W, e]
  have RD0 : Hid (∀ (q : Nat) (n : Int) (k : Nat), rdV (l.drop q) = (n, k) → n < 0 → q ≤ s.size → ∀ V, Calls Tryz.prog 93 #[.string s, .int .i64 (q : Nat)] V fun e w' => e = .returned (.tuple #[.int .i64 (-1), .int .i64 0]) ∧ Below V.heap.size V w') := Lib.hid fun q n k h h0 hq V => by
    refine (CR.out q V hq).mono ?_
    rintro e w' ⟨he, hb⟩
    have : rdO s q = (-1, 0) := by unfold rdO; rw [hl, h]; simp only; rw [if_pos h0]
    rw [this] at he
    exact ⟨he, hb⟩
  have RD1 : Hid (∀ (q : Nat) (n : Int) (k : Nat), rdV (l.drop q) = (n, k) → 0 ≤ n → q ≤ s.size → ∀ V, Calls Tryz.prog 93 #[.string s, .int .i64 (q : Nat)] V fun e w' => e = .returned (.tuple #[.int .i64 n, .int .i64 ((q + k : Nat) : Int)]) ∧ Below V.heap.size V w') := Lib.hid fun q n k h h0 hq V => by
    refine (CR.out q V hq).mono ?_
    rintro e w' ⟨he, hb⟩
    have : rdO s q = (n, (q : Int) + k) := by unfold rdO; rw [hl, h]; simp only; rw [if_neg (by omega)]
    rw [this] at he
    exact ⟨by rw [he, Int.natCast_add], hb⟩
  have OUT : ∀ (x : Except (Int × Nat) (List Run)), prL l = x → Hid (∀ e w', (match x with
      | .ok R => ∃ v, e = .returned (.tuple #[.agg #[v], .int .i64 0, .int .i64 0]) ∧ SlR w' v (R.map dnR)
      | .error (no, q) => e = .returned (.tuple #[.agg #[.slice none 0 0], .int .i64 no, .int .i64 (q : Nat)])) → Below w.heap.size w w' → XpOut l e w' ∧ Below w.heap.size w w') := fun x hx => Lib.hid fun e w' h hb => ⟨by unfold XpOut; rw [hx]; exact h, hb⟩
  have HO := Lib.hid OUT
  have HLN := Lib.hid hln
  have hsl : s.toList = l := by rw [ByteArray.toList_eq, hl]
  rw [hl]
  clear CR OUT
  have HSL := Lib.hid hsl
  by_cases h0 : [91].isPrefixOf l = true
  · have HP : Hid (prL l = prF l.length l 1 []) := Lib.hid (by unfold prL; rw [if_pos h0])
    obtain ⟨t, ht⟩ : ∃ t, l = 91 :: t := by
      cases l with
      | nil => simp [List.isPrefixOf] at h0
      | cons c t => simp [List.isPrefixOf] at h0; exact ⟨t, by rw [← h0]⟩
    have h1 : 1 ≤ s.size := by rw [← hln, ht]; simp
    have hne : s.toList.isEmpty = false := by rw [hsl, ht]; rfl
    have hI0 : ∀ W : World, (Instr.index 9 (.string s) (.int .i64 0)).run Tryz.prog W = .ok (.int .u8 91) W := fun W => by
      have := HIX.out 0 91 (by rw [ht]; rfl) W
      simpa using this
    clear hl hln h0 ht hsl
    go_enter Tryz.func39, Tryz.ntmps39
    go_wp2_with fail
    show Code.wp _ _ _ _ _
    go_loopw [6] (fun x wr => ∃ (f k m cp : Nat) (ap : Option Addr) (done : List Run), x = .int .i64 k ∧ 1 ≤ k ∧ k ≤ s.size ∧ m = done.length ∧ m < k ∧ s.size < k + f + 1 ∧ (∀ x ∈ done, 0 ≤ x.2 ∧ x.2 ≤ 1112192) ∧ prL l = prF f l k done ∧ OwnS (fun y => w.heap.size + 2 ≤ y) 103 2 (.slice ap m cp) m (encR (done.map dnR)) wr ∧ PW w (.slice ap m cp) wr) (fun x _ => s.size - (RowKit.intOf x).toNat)
    case atStart =>
      refine ⟨l.length, 1, 0, 0, none, [], rfl, by omega, h1, rfl, by omega, ?_, (fun x hx => by cases hx), HP.out, own_nil _ _ _ _, PW.start w⟩
      have := HLN.out
      omega
    case round =>
      obtain ⟨f, k, m, cp, ap, done, rfl, hk1, hk, hm, hmk, hf, hbd, hpr, hown, hpw⟩ := hrel
      have HBD := Lib.hid hbd
      clear hbd
      have HI := Lib.hid (And.intro hpr (And.intro hown hpw))
      have HM := Lib.hid hm
      clear hpr hown hm hpw HP hne hI0
      by_cases hlt : k < s.size
      · obtain ⟨g, rfl⟩ : ∃ g, f = g + 1 := ⟨f - 1, by omega⟩
        have hne : ((k : Int) == s.size) = false := by rw [beq_eq_false_iff_ne]; omega
        obtain ⟨c, hc⟩ : ∃ c, l[k]? = some c := ⟨_, List.getElem?_eq_getElem (by rw [HLN.out]; exact hlt)⟩
        have cI := HIX.out k c hc
        have hst := HI.out.1
        have wk1 : IntKind.i64.wrap ((k : Int) + 1) = (k : Int) + 1 := IntWalk.i64_in _ (by omega)
        rw [prF_step, if_neg (by rw [HLN.out]; omega), hc] at hst
        by_cases h93 : c = 93
        · subst h93
          rw [if_pos rfl] at hst
          by_cases hmore : k + 1 < s.size
          · rw [if_pos (by rw [HLN.out]; exact hmore)] at hst
            have HF := HO.out _ hst
            have hmore' : (k : Int) + 1 < s.size := by omega
            have HH := HI.out.2.2
            have k0 : wr.cell? ⟨w.heap.size, 0, none⟩ = some (.slice none 0 0) := by rw [Lib.cell_of_heap HH.1]; rfl
            have f0 : wr.frozen? ⟨w.heap.size, 0, none⟩ = false := Lib.frozen_of_heap HH.1 _
            have k1 : wr.cell? ⟨w.heap.size + 1, 0, none⟩ = some (.slice ap m cp) := by rw [Lib.cell_of_heap HH.2.1]; rfl
            have f1 : wr.frozen? ⟨w.heap.size + 1, 0, none⟩ = false := Lib.frozen_of_heap HH.2.1 _
            have HB := Lib.hid HH
            clear hst hc hmore HH
            go_wp2_with fail
            (try simp only [Exit.inBlock, Exit.then])
            refine bodyPost_ret (results_cell3 rfl _ _ w.heap.size 44 #[.slice none 0 0] (0, 0) _ rfl (one_cell HB.out.1) Tryz.underlying44 rfl (by kernel_rfl)) rfl ?_
            exact HF.out _ _ rfl (HB.out.2.2.1.setCell (Nat.le_refl _) _)
          · rw [if_neg (by rw [HLN.out]; exact hmore)] at hst
            have HF := HO.out _ hst
            have hmore' : ¬ (k : Int) + 1 < s.size := by omega
            have HH := HI.out.2.2
            have k0 : wr.cell? ⟨w.heap.size, 0, none⟩ = some (.slice none 0 0) := by rw [Lib.cell_of_heap HH.1]; rfl
            have f0 : wr.frozen? ⟨w.heap.size, 0, none⟩ = false := Lib.frozen_of_heap HH.1 _
            have k1 : wr.cell? ⟨w.heap.size + 1, 0, none⟩ = some (.slice ap m cp) := by rw [Lib.cell_of_heap HH.2.1]; rfl
            have f1 : wr.frozen? ⟨w.heap.size + 1, 0, none⟩ = false := Lib.frozen_of_heap HH.2.1 _
            have HB := Lib.hid HH
            clear hst hc hmore HH
            go_wp2_with fail
            (try simp only [Exit.inBlock, Exit.then])
            refine bodyPost_ret (results_cell3 rfl _ _ w.heap.size 44 #[.slice ap m cp] (0, 0) _ rfl (one_cell HB.out.1) Tryz.underlying44 rfl (by kernel_rfl)) rfl ?_
            refine HF.out _ _ ⟨_, rfl, slr_own (own_set HI.out.2.1 (g := w.heap.size) (o := 0) (.slice ap m cp) (by omega)) (by rw [List.length_map]; exact HM.out)⟩ (HB.out.2.2.1.setCell (Nat.le_refl _) _)
        · have h93' : ((c.toNat : Nat) : Int) ≠ 93 := fun e => h93 (UInt8.toNat_inj.1 (show c.toNat = 93 by omega))
          have h93b : (((c.toNat : Nat) : Int) == 93) = false := by rw [beq_eq_false_iff_ne]; exact h93'
          rw [if_neg (by simpa using h93), spAt_rd] at hst
          obtain ⟨⟨a1, m1⟩, hr1⟩ : ∃ r, rdV (l.drop k) = r := ⟨_, rfl⟩
          rw [hr1] at hst
          simp only at hst
          clear hc h93
          by_cases ha : a1 < 0
          · rw [if_pos ha] at hst
            have HF := HO.out _ hst
            have CY := Lib.hid (RD0.out k a1 m1 hr1 ha hk)
            have HH := HI.out.2.2
            have HPW := Lib.hid HH
            clear hst hr1 HH
            go_wp2_with fail
            refine (CY.out _).mono ?_
            rintro e V ⟨rfl, hb1⟩
            have HH := HPW.out.next hb1
            have k0 : V.cell? ⟨w.heap.size, 0, none⟩ = some (.slice none 0 0) := by rw [Lib.cell_of_heap HH.1]; rfl
            have f0 : V.frozen? ⟨w.heap.size, 0, none⟩ = false := Lib.frozen_of_heap HH.1 _
            have k1 : V.cell? ⟨w.heap.size + 1, 0, none⟩ = some (.slice ap m cp) := by rw [Lib.cell_of_heap HH.2.1]; rfl
            have f1 : V.frozen? ⟨w.heap.size + 1, 0, none⟩ = false := Lib.frozen_of_heap HH.2.1 _
            have HB := Lib.hid HH
            clear hb1 HH
            go_wp2_with fail
            (try simp only [Exit.inBlock, Exit.then])
            refine bodyPost_ret (results_cell3 rfl _ _ w.heap.size 44 #[.slice none 0 0] (0, 0) _ rfl (one_cell HB.out.1) Tryz.underlying44 rfl (by kernel_rfl)) rfl ?_
            exact HF.out _ _ rfl (HB.out.2.2.1.setCell (Nat.le_refl _) _)
          · rw [if_neg ha] at hst
            have a0 : 0 ≤ a1 := by omega
            have hfit := rdV_fits hr1 a0
            rw [HLN.out] at hfit
            have CY := Lib.hid (RD1.out k a1 m1 hr1 a0 hk)
            obtain ⟨q, hq⟩ : ∃ q, k + m1 = q := ⟨_, rfl⟩
            rw [hq] at hst hfit CY
            have hkq : k < q := by omega
            have wq1 : IntKind.i64.wrap ((q : Int) + 1) = (q : Int) + 1 := IntWalk.i64_in _ (by omega)
            have HHp := HI.out.2.2
            have HPW := Lib.hid HHp
            have hz := HHp.2.2.2
            have HOW := Lib.hid HI.out.2.1
            have hna : ¬ a1 < 0 := ha
            clear hr1 HHp
            by_cases h45 : l[q]? = some 45
            · rw [if_pos h45] at hst
              have hqs : q < s.size := by rw [← HLN.out]; exact (List.getElem?_eq_some_iff.1 h45).1
              have hqs' : (q : Int) < s.size := by omega
              have cQ := HIX.out q 45 h45
              have cQ : ∀ W : World, (Instr.index 9 (.string s) (.int .i64 (q : Nat))).run Tryz.prog W = .ok (.int .u8 45) W := fun W => by simpa using cQ W
              obtain ⟨⟨a2, m2⟩, hr2⟩ : ∃ r, rdV (l.drop (q + 1)) = r := ⟨_, rfl⟩
              rw [hr2] at hst
              simp only at hst
              by_cases hb : a2 < 0
              · rw [if_pos hb] at hst
                have HF := HO.out _ hst
                have CZ := RD0.out (q + 1) a2 m2 hr2 hb (by omega)
                rw [Int.natCast_add, Int.natCast_one] at CZ
                have CZ := Lib.hid CZ
                clear hst hr2 h45
                go_wp2_with fail
                refine (CY.out _).mono ?_
                rintro e V ⟨rfl, hb1⟩
                have HB1 := Lib.hid (HPW.out.next hb1)
                clear hb1
                go_wp2_with fail
                refine (CZ.out _).mono ?_
                rintro e X ⟨rfl, hb2⟩
                have HH := HB1.out.next hb2
                have k0 : X.cell? ⟨w.heap.size, 0, none⟩ = some (.slice none 0 0) := by rw [Lib.cell_of_heap HH.1]; rfl
                have f0 : X.frozen? ⟨w.heap.size, 0, none⟩ = false := Lib.frozen_of_heap HH.1 _
                have k1 : X.cell? ⟨w.heap.size + 1, 0, none⟩ = some (.slice ap m cp) := by rw [Lib.cell_of_heap HH.2.1]; rfl
                have f1 : X.frozen? ⟨w.heap.size + 1, 0, none⟩ = false := Lib.frozen_of_heap HH.2.1 _
                have HB := Lib.hid HH
                clear hb2 HH
                go_wp2_with fail
                (try simp only [Exit.inBlock, Exit.then])
                refine bodyPost_ret (results_cell3 rfl _ _ w.heap.size 44 #[.slice none 0 0] (0, 0) _ rfl (one_cell HB.out.1) Tryz.underlying44 rfl (by kernel_rfl)) rfl ?_
                exact HF.out _ _ rfl (HB.out.2.2.1.setCell (Nat.le_refl _) _)
              · rw [if_neg hb] at hst
                have b0 : 0 ≤ a2 := by omega
                have hfit2 := rdV_fits hr2 b0
                rw [HLN.out] at hfit2
                have CZ := RD1.out (q + 1) a2 m2 hr2 b0 (by omega)
                obtain ⟨q2, hq2⟩ : ∃ q2, q + 1 + m2 = q2 := ⟨_, rfl⟩
                rw [hq2] at hst hfit2 CZ
                rw [Int.natCast_add, Int.natCast_one] at CZ
                have CZ := Lib.hid CZ
                have hnb : ¬ a2 < 0 := hb
                have hkq2 : k < q2 := by omega
                clear hr2 h45
                by_cases hle : a2 ≤ a1
                · rw [if_pos hle] at hst
                  have HF := HO.out _ hst
                  clear hst
                  go_wp2_with fail
                  refine (CY.out _).mono ?_
                  rintro e V ⟨rfl, hb1⟩
                  have HB1 := Lib.hid (And.intro (HPW.out.next hb1) (own_nx HOW.out hb1))
                  clear hb1
                  go_wp2_with fail
                  refine (CZ.out _).mono ?_
                  rintro e X ⟨rfl, hb2⟩
                  have HH := HB1.out.1.next hb2
                  have HOX := Lib.hid (own_nx HB1.out.2 hb2)
                  have k0 : X.cell? ⟨w.heap.size, 0, none⟩ = some (.slice none 0 0) := by rw [Lib.cell_of_heap HH.1]; rfl
                  have f0 : X.frozen? ⟨w.heap.size, 0, none⟩ = false := Lib.frozen_of_heap HH.1 _
                  have k1 : X.cell? ⟨w.heap.size + 1, 0, none⟩ = some (.slice ap m cp) := by rw [Lib.cell_of_heap HH.2.1]; rfl
                  have f1 : X.frozen? ⟨w.heap.size + 1, 0, none⟩ = false := Lib.frozen_of_heap HH.2.1 _
                  have HB := Lib.hid HH
                  clear hb2 HH
                  go_wp2_with fail
                  (try simp only [Exit.inBlock, Exit.then])
                  refine bodyPost_ret (results_cell3 rfl _ _ w.heap.size 44 #[.slice none 0 0] (0, 0) _ rfl (one_cell HB.out.1) Tryz.underlying44 rfl (by kernel_rfl)) rfl ?_
                  exact HF.out _ _ rfl (HB.out.2.2.1.setCell (Nat.le_refl _) _)
                · rw [if_neg hle] at hst
                  simp only at hst
                  rcases Nat.eq_zero_or_pos m with hm0 | hmp
                  · subst hm0
                    have hdn : done = [] := List.eq_nil_of_length_eq_zero HM.out.symm
                    have hab : aboveB done (a1, a2 + 1) = true := by rw [hdn]; rfl
                    rw [if_pos hab] at hst
                    have HST := Lib.hid hst
                    clear hst hdn hab
                    go_wp2_with fail
                    refine (CY.out _).mono ?_
                    rintro e V ⟨rfl, hb1⟩
                    have HB1 := Lib.hid (And.intro (HPW.out.next hb1) (own_nx HOW.out hb1))
                    clear hb1
                    go_wp2_with fail
                    refine (CZ.out _).mono ?_
                    rintro e X ⟨rfl, hb2⟩
                    have HH := HB1.out.1.next hb2
                    have HOX := Lib.hid (own_nx HB1.out.2 hb2)
                    have k0 : X.cell? ⟨w.heap.size, 0, none⟩ = some (.slice none 0 0) := by rw [Lib.cell_of_heap HH.1]; rfl
                    have f0 : X.frozen? ⟨w.heap.size, 0, none⟩ = false := Lib.frozen_of_heap HH.1 _
                    have k1 : X.cell? ⟨w.heap.size + 1, 0, none⟩ = some (.slice ap 0 cp) := by rw [Lib.cell_of_heap HH.2.1]; rfl
                    have f1 : X.frozen? ⟨w.heap.size + 1, 0, none⟩ = false := Lib.frozen_of_heap HH.2.1 _
                    have HB := Lib.hid HH
                    obtain ⟨g2, cap2, w2, hrun2, hown2, hz2, hk2⟩ := append_two HOX.out (fun y hy => Nat.le_trans HH.2.2.2 hy) (a1, a2) (by omega)
                    have HAP := HH.app (v' := .slice (some ⟨g2, 0, none⟩) (0 + 1) cap2) (fun b hb => HOX.out.2 b hb) hk2 hz2
                    have kk1 : w2.cell? ⟨w.heap.size + 1, 0, none⟩ = some (.slice ap 0 cp) := by rw [Lib.cell_of_heap HAP.1]; rfl
                    have ff1 : w2.frozen? ⟨w.heap.size + 1, 0, none⟩ = false := Lib.frozen_of_heap HAP.1 _
                    have HRun2 := Lib.hid hrun2
                    have HOW2 := Lib.hid (own_set hown2 (g := w.heap.size + 1) (o := 0) (.slice (some ⟨g2, 0, none⟩) (0 + 1) cap2) (by omega))
                    have HPW2 := Lib.hid HAP.2
                    clear hrun2 hown2 hz2 hk2 HAP
                    clear hb2 HH
                    go_wp2_with (at_builtin; refine wpList_append_eq rfl rfl rfl rfl HRun2.out ?_)
                    go_roundw
                    case rel =>
                      refine ⟨g, q2, 0 + 1, cap2, some ⟨g2, 0, none⟩, done ++ [(a1, a2 + 1)], rfl, by omega, by omega, by rw [List.length_append, ← HM.out]; rfl, by omega, by omega, ?_, HST.out, ?_, HPW2.out⟩
                      · intro x hx
                        rcases List.mem_append.1 hx with hx | hx
                        · exact HBD.out x hx
                        · rw [List.mem_singleton] at hx
                          subst hx
                          exact ⟨by show 0 ≤ a2 + 1; omega, by show a2 + 1 ≤ 1112192; omega⟩
                      have e : (done ++ [(a1, a2 + 1)]).map dnR = done.map dnR ++ [(a1, a2)] := by rw [List.map_append]; simp [dnR]
                      rw [e]
                      exact HOW2.out
                    case measure => simp [RowKit.intOf]; omega
                  · obtain ⟨y, hy⟩ : ∃ y, done[m - 1]? = some y := ⟨_, List.getElem?_eq_getElem (by rw [← HM.out]; omega)⟩
                    have hab : aboveB done (a1, a2 + 1) = decide (y.2 < a1) := above_last (by rw [← HM.out]; exact hy) _
                    obtain ⟨j, rfl⟩ : ∃ j, m = j + 1 := ⟨m - 1, by omega⟩
                    rw [Nat.add_sub_cancel] at hy
                    obtain ⟨ga, rfl⟩ : ∃ ga, ap = some ⟨ga, 0, none⟩ := by
                      rcases HOW.out.1.2 with ⟨_, h⟩ | ⟨g, cap, cur, hv, _⟩
                      · omega
                      · injection hv with h1 _ _; exact ⟨g, h1⟩
                    obtain ⟨ya, yb⟩ := y
                    simp only at hab
                    have YC : Hid (∀ (W : World), OwnS (fun b => w.heap.size + 2 ≤ b) 103 2 (.slice (some ⟨ga, 0, none⟩) (j + 1) cp) (j + 1) (encR (done.map dnR)) W → W.cell? ⟨ga, j * 2 + 1, none⟩ = some (.int .i64 (yb - 1))) := Lib.hid fun W ho => by
                      have hS := slr_own ho (by rw [List.length_map]; exact HM.out)
                      obtain ⟨ao', cap', e, h⟩ := hS
                      rcases h with h | ⟨g', e2, h⟩
                      · have := congrArg List.length h
                        rw [List.length_map, ← HM.out] at this
                        simp at this
                      · have h3 := (h j (dnR (ya, yb)) (by rw [List.getElem?_map, hy]; rfl)).2
                        injection e with e3 _ _
                        rw [e2] at e3
                        injection e3 with e3
                        injection e3 with e3
                        rw [e3]; exact h3
                    obtain ⟨yd, hyd⟩ : ∃ yd, yb - 1 = yd := ⟨_, rfl⟩
                    obtain rfl : yb = yd + 1 := by omega
                    rw [show yd + 1 - 1 = yd by omega] at YC
                    clear hyd
                    have jw : IntKind.i64.wrap ((j : Int) + 1 - 1) = (j : Int) := by rw [show (j : Int) + 1 - 1 = j by omega]; exact IntWalk.i64_in _ (by omega)
                    have jp : (0 : Int) < (j : Int) + 1 := by omega
                    have j0 : (0 : Int) ≤ (j : Int) := by omega
                    have hyb := HBD.out _ (List.mem_of_getElem? hy)
                    simp only at hyb
                    have yw : IntKind.i64.wrap (yd + 1) = yd + 1 := IntWalk.i64_in _ (by omega)
                    by_cases hfe : yd + 1 < a1
                    · have hle' : ¬ a1 ≤ yd + 1 := by omega
                      rw [if_pos (by rw [hab]; exact decide_eq_true hfe)] at hst
                      have HST := Lib.hid hst
                      clear hst hab hy hfe
                      go_wp2_with fail
                      refine (CY.out _).mono ?_
                      rintro e V ⟨rfl, hb1⟩
                      have HB1 := Lib.hid (And.intro (HPW.out.next hb1) (own_nx HOW.out hb1))
                      clear hb1
                      go_wp2_with fail
                      refine (CZ.out _).mono ?_
                      rintro e X ⟨rfl, hb2⟩
                      have HH := HB1.out.1.next hb2
                      have HOX := Lib.hid (own_nx HB1.out.2 hb2)
                      have k0 : X.cell? ⟨w.heap.size, 0, none⟩ = some (.slice none 0 0) := by rw [Lib.cell_of_heap HH.1]; rfl
                      have f0 : X.frozen? ⟨w.heap.size, 0, none⟩ = false := Lib.frozen_of_heap HH.1 _
                      have k1 : X.cell? ⟨w.heap.size + 1, 0, none⟩ = some (.slice (some ⟨ga, 0, none⟩) (j + 1) cp) := by rw [Lib.cell_of_heap HH.2.1]; rfl
                      have f1 : X.frozen? ⟨w.heap.size + 1, 0, none⟩ = false := Lib.frozen_of_heap HH.2.1 _
                      have HB := Lib.hid HH
                      have d2 := YC.out X HOX.out
                      obtain ⟨g2, cap2, w2, hrun2, hown2, hz2, hk2⟩ := append_two HOX.out (fun y hy => Nat.le_trans HH.2.2.2 hy) (a1, a2) (by omega)
                      have HAP := HH.app (v' := .slice (some ⟨g2, 0, none⟩) (j + 1 + 1) cap2) (fun b hb => HOX.out.2 b hb) hk2 hz2
                      have kk1 : w2.cell? ⟨w.heap.size + 1, 0, none⟩ = some (.slice (some ⟨ga, 0, none⟩) (j + 1) cp) := by rw [Lib.cell_of_heap HAP.1]; rfl
                      have ff1 : w2.frozen? ⟨w.heap.size + 1, 0, none⟩ = false := Lib.frozen_of_heap HAP.1 _
                      have HRun2 := Lib.hid hrun2
                      have HOW2 := Lib.hid (own_set hown2 (g := w.heap.size + 1) (o := 0) (.slice (some ⟨g2, 0, none⟩) (j + 1 + 1) cap2) (by omega))
                      have HPW2 := Lib.hid HAP.2
                      clear hrun2 hown2 hz2 hk2 HAP
                      clear hb2 HH
                      go_wp2_with (at_builtin; refine wpList_append_eq rfl rfl rfl rfl HRun2.out ?_)
                      go_roundw
                      case rel =>
                        refine ⟨g, q2, j + 1 + 1, cap2, some ⟨g2, 0, none⟩, done ++ [(a1, a2 + 1)], rfl, by omega, by omega, by rw [List.length_append, ← HM.out]; rfl, by omega, by omega, ?_, HST.out, ?_, HPW2.out⟩
                        · intro x hx
                          rcases List.mem_append.1 hx with hx | hx
                          · exact HBD.out x hx
                          · rw [List.mem_singleton] at hx
                            subst hx
                            exact ⟨by show 0 ≤ a2 + 1; omega, by show a2 + 1 ≤ 1112192; omega⟩
                        have e : (done ++ [(a1, a2 + 1)]).map dnR = done.map dnR ++ [(a1, a2)] := by rw [List.map_append]; simp [dnR]
                        rw [e]
                        exact HOW2.out
                      case measure => simp [RowKit.intOf]; omega
                    · have hle' : a1 ≤ yd + 1 := by omega
                      rw [if_neg (by rw [hab]; simpa using hfe)] at hst
                      have HF := HO.out _ hst
                      clear hst hab hy hfe
                      go_wp2_with fail
                      refine (CY.out _).mono ?_
                      rintro e V ⟨rfl, hb1⟩
                      have HB1 := Lib.hid (And.intro (HPW.out.next hb1) (own_nx HOW.out hb1))
                      clear hb1
                      go_wp2_with fail
                      refine (CZ.out _).mono ?_
                      rintro e X ⟨rfl, hb2⟩
                      have HH := HB1.out.1.next hb2
                      have HOX := Lib.hid (own_nx HB1.out.2 hb2)
                      have k0 : X.cell? ⟨w.heap.size, 0, none⟩ = some (.slice none 0 0) := by rw [Lib.cell_of_heap HH.1]; rfl
                      have f0 : X.frozen? ⟨w.heap.size, 0, none⟩ = false := Lib.frozen_of_heap HH.1 _
                      have k1 : X.cell? ⟨w.heap.size + 1, 0, none⟩ = some (.slice (some ⟨ga, 0, none⟩) (j + 1) cp) := by rw [Lib.cell_of_heap HH.2.1]; rfl
                      have f1 : X.frozen? ⟨w.heap.size + 1, 0, none⟩ = false := Lib.frozen_of_heap HH.2.1 _
                      have HB := Lib.hid HH
                      have d2 := YC.out X HOX.out
                      clear hb2 HH
                      go_wp2_with fail
                      (try simp only [Exit.inBlock, Exit.then])
                      refine bodyPost_ret (results_cell3 rfl _ _ w.heap.size 44 #[.slice none 0 0] (0, 0) _ rfl (one_cell HB.out.1) Tryz.underlying44 rfl (by kernel_rfl)) rfl ?_
                      exact HF.out _ _ rfl (HB.out.2.2.1.setCell (Nat.le_refl _) _)
            · rw [if_neg h45] at hst
              simp only at hst
              by_cases hqs : q < s.size
              · have hqs' : (q : Int) < s.size := by omega
                obtain ⟨d, hd⟩ : ∃ d, l[q]? = some d := ⟨_, List.getElem?_eq_getElem (by rw [HLN.out]; exact hqs)⟩
                have cQ := HIX.out q d hd
                have hd5 : (((d.toNat : Nat) : Int) == 45) = false := by
                  rw [beq_eq_false_iff_ne]
                  exact fun e => h45 (by rw [hd, UInt8.toNat_inj.1 (show d.toNat = (45 : UInt8).toNat by have : (45 : UInt8).toNat = 45 := rfl; omega)])
                clear h45 hd
                rcases Nat.eq_zero_or_pos m with hm0 | hmp
                · subst hm0
                  have hdn : done = [] := List.eq_nil_of_length_eq_zero HM.out.symm
                  have hab : aboveB done (a1, a1 + 1) = true := by rw [hdn]; rfl
                  rw [if_pos hab] at hst
                  have HST := Lib.hid hst
                  clear hst hdn hab
                  go_wp2_with fail
                  refine (CY.out _).mono ?_
                  rintro e X ⟨rfl, hb2⟩
                  have HH := HPW.out.next hb2
                  have HOX := Lib.hid (own_nx HOW.out hb2)
                  have k0 : X.cell? ⟨w.heap.size, 0, none⟩ = some (.slice none 0 0) := by rw [Lib.cell_of_heap HH.1]; rfl
                  have f0 : X.frozen? ⟨w.heap.size, 0, none⟩ = false := Lib.frozen_of_heap HH.1 _
                  have k1 : X.cell? ⟨w.heap.size + 1, 0, none⟩ = some (.slice ap 0 cp) := by rw [Lib.cell_of_heap HH.2.1]; rfl
                  have f1 : X.frozen? ⟨w.heap.size + 1, 0, none⟩ = false := Lib.frozen_of_heap HH.2.1 _
                  have HB := Lib.hid HH
                  obtain ⟨g2, cap2, w2, hrun2, hown2, hz2, hk2⟩ := append_two HOX.out (fun y hy => Nat.le_trans HH.2.2.2 hy) (a1, a1) (by omega)
                  have HAP := HH.app (v' := .slice (some ⟨g2, 0, none⟩) (0 + 1) cap2) (fun b hb => HOX.out.2 b hb) hk2 hz2
                  have kk1 : w2.cell? ⟨w.heap.size + 1, 0, none⟩ = some (.slice ap 0 cp) := by rw [Lib.cell_of_heap HAP.1]; rfl
                  have ff1 : w2.frozen? ⟨w.heap.size + 1, 0, none⟩ = false := Lib.frozen_of_heap HAP.1 _
                  have HRun2 := Lib.hid hrun2
                  have HOW2 := Lib.hid (own_set hown2 (g := w.heap.size + 1) (o := 0) (.slice (some ⟨g2, 0, none⟩) (0 + 1) cap2) (by omega))
                  have HPW2 := Lib.hid HAP.2
                  clear hrun2 hown2 hz2 hk2 HAP
                  clear hb2 HH
                  go_wp2_with (at_builtin; refine wpList_append_eq rfl rfl rfl rfl HRun2.out ?_)
                  go_roundw
                  case rel =>
                    refine ⟨g, q, 0 + 1, cap2, some ⟨g2, 0, none⟩, done ++ [(a1, a1 + 1)], rfl, by omega, by omega, by rw [List.length_append, ← HM.out]; rfl, by omega, by omega, ?_, HST.out, ?_, HPW2.out⟩
                    · intro x hx
                      rcases List.mem_append.1 hx with hx | hx
                      · exact HBD.out x hx
                      · rw [List.mem_singleton] at hx
                        subst hx
                        exact ⟨by show 0 ≤ a1 + 1; omega, by show a1 + 1 ≤ 1112192; omega⟩
                    have e : (done ++ [(a1, a1 + 1)]).map dnR = done.map dnR ++ [(a1, a1)] := by rw [List.map_append]; simp [dnR]
                    rw [e]
                    exact HOW2.out
                  case measure => simp [RowKit.intOf]; omega
                · obtain ⟨y, hy⟩ : ∃ y, done[m - 1]? = some y := ⟨_, List.getElem?_eq_getElem (by rw [← HM.out]; omega)⟩
                  have hab : aboveB done (a1, a1 + 1) = decide (y.2 < a1) := above_last (by rw [← HM.out]; exact hy) _
                  obtain ⟨j, rfl⟩ : ∃ j, m = j + 1 := ⟨m - 1, by omega⟩
                  rw [Nat.add_sub_cancel] at hy
                  obtain ⟨ga, rfl⟩ : ∃ ga, ap = some ⟨ga, 0, none⟩ := by
                    rcases HOW.out.1.2 with ⟨_, h⟩ | ⟨g, cap, cur, hv, _⟩
                    · omega
                    · injection hv with h1 _ _; exact ⟨g, h1⟩
                  obtain ⟨ya, yb⟩ := y
                  simp only at hab
                  have YC : Hid (∀ (W : World), OwnS (fun b => w.heap.size + 2 ≤ b) 103 2 (.slice (some ⟨ga, 0, none⟩) (j + 1) cp) (j + 1) (encR (done.map dnR)) W → W.cell? ⟨ga, j * 2 + 1, none⟩ = some (.int .i64 (yb - 1))) := Lib.hid fun W ho => by
                    have hS := slr_own ho (by rw [List.length_map]; exact HM.out)
                    obtain ⟨ao', cap', e, h⟩ := hS
                    rcases h with h | ⟨g', e2, h⟩
                    · have := congrArg List.length h
                      rw [List.length_map, ← HM.out] at this
                      simp at this
                    · have h3 := (h j (dnR (ya, yb)) (by rw [List.getElem?_map, hy]; rfl)).2
                      injection e with e3 _ _
                      rw [e2] at e3
                      injection e3 with e3
                      injection e3 with e3
                      rw [e3]; exact h3
                  obtain ⟨yd, hyd⟩ : ∃ yd, yb - 1 = yd := ⟨_, rfl⟩
                  obtain rfl : yb = yd + 1 := by omega
                  rw [show yd + 1 - 1 = yd by omega] at YC
                  clear hyd
                  have jw : IntKind.i64.wrap ((j : Int) + 1 - 1) = (j : Int) := by rw [show (j : Int) + 1 - 1 = j by omega]; exact IntWalk.i64_in _ (by omega)
                  have jp : (0 : Int) < (j : Int) + 1 := by omega
                  have j0 : (0 : Int) ≤ (j : Int) := by omega
                  have hyb := HBD.out _ (List.mem_of_getElem? hy)
                  simp only at hyb
                  have yw : IntKind.i64.wrap (yd + 1) = yd + 1 := IntWalk.i64_in _ (by omega)
                  by_cases hfe : yd + 1 < a1
                  · have hle' : ¬ a1 ≤ yd + 1 := by omega
                    rw [if_pos (by rw [hab]; exact decide_eq_true hfe)] at hst
                    have HST := Lib.hid hst
                    clear hst hab hy hfe
                    go_wp2_with fail
                    refine (CY.out _).mono ?_
                    rintro e X ⟨rfl, hb2⟩
                    have HH := HPW.out.next hb2
                    have HOX := Lib.hid (own_nx HOW.out hb2)
                    have k0 : X.cell? ⟨w.heap.size, 0, none⟩ = some (.slice none 0 0) := by rw [Lib.cell_of_heap HH.1]; rfl
                    have f0 : X.frozen? ⟨w.heap.size, 0, none⟩ = false := Lib.frozen_of_heap HH.1 _
                    have k1 : X.cell? ⟨w.heap.size + 1, 0, none⟩ = some (.slice (some ⟨ga, 0, none⟩) (j + 1) cp) := by rw [Lib.cell_of_heap HH.2.1]; rfl
                    have f1 : X.frozen? ⟨w.heap.size + 1, 0, none⟩ = false := Lib.frozen_of_heap HH.2.1 _
                    have HB := Lib.hid HH
                    have d2 := YC.out X HOX.out
                    obtain ⟨g2, cap2, w2, hrun2, hown2, hz2, hk2⟩ := append_two HOX.out (fun y hy => Nat.le_trans HH.2.2.2 hy) (a1, a1) (by omega)
                    have HAP := HH.app (v' := .slice (some ⟨g2, 0, none⟩) (j + 1 + 1) cap2) (fun b hb => HOX.out.2 b hb) hk2 hz2
                    have kk1 : w2.cell? ⟨w.heap.size + 1, 0, none⟩ = some (.slice (some ⟨ga, 0, none⟩) (j + 1) cp) := by rw [Lib.cell_of_heap HAP.1]; rfl
                    have ff1 : w2.frozen? ⟨w.heap.size + 1, 0, none⟩ = false := Lib.frozen_of_heap HAP.1 _
                    have HRun2 := Lib.hid hrun2
                    have HOW2 := Lib.hid (own_set hown2 (g := w.heap.size + 1) (o := 0) (.slice (some ⟨g2, 0, none⟩) (j + 1 + 1) cap2) (by omega))
                    have HPW2 := Lib.hid HAP.2
                    clear hrun2 hown2 hz2 hk2 HAP
                    clear hb2 HH
                    go_wp2_with (at_builtin; refine wpList_append_eq rfl rfl rfl rfl HRun2.out ?_)
                    go_roundw
                    case rel =>
                      refine ⟨g, q, j + 1 + 1, cap2, some ⟨g2, 0, none⟩, done ++ [(a1, a1 + 1)], rfl, by omega, by omega, by rw [List.length_append, ← HM.out]; rfl, by omega, by omega, ?_, HST.out, ?_, HPW2.out⟩
                      · intro x hx
                        rcases List.mem_append.1 hx with hx | hx
                        · exact HBD.out x hx
                        · rw [List.mem_singleton] at hx
                          subst hx
                          exact ⟨by show 0 ≤ a1 + 1; omega, by show a1 + 1 ≤ 1112192; omega⟩
                      have e : (done ++ [(a1, a1 + 1)]).map dnR = done.map dnR ++ [(a1, a1)] := by rw [List.map_append]; simp [dnR]
                      rw [e]
                      exact HOW2.out
                    case measure => simp [RowKit.intOf]; omega
                  · have hle' : a1 ≤ yd + 1 := by omega
                    rw [if_neg (by rw [hab]; simpa using hfe)] at hst
                    have HF := HO.out _ hst
                    clear hst hab hy hfe
                    go_wp2_with fail
                    refine (CY.out _).mono ?_
                    rintro e X ⟨rfl, hb2⟩
                    have HH := HPW.out.next hb2
                    have HOX := Lib.hid (own_nx HOW.out hb2)
                    have k0 : X.cell? ⟨w.heap.size, 0, none⟩ = some (.slice none 0 0) := by rw [Lib.cell_of_heap HH.1]; rfl
                    have f0 : X.frozen? ⟨w.heap.size, 0, none⟩ = false := Lib.frozen_of_heap HH.1 _
                    have k1 : X.cell? ⟨w.heap.size + 1, 0, none⟩ = some (.slice (some ⟨ga, 0, none⟩) (j + 1) cp) := by rw [Lib.cell_of_heap HH.2.1]; rfl
                    have f1 : X.frozen? ⟨w.heap.size + 1, 0, none⟩ = false := Lib.frozen_of_heap HH.2.1 _
                    have HB := Lib.hid HH
                    have d2 := YC.out X HOX.out
                    clear hb2 HH
                    go_wp2_with fail
                    (try simp only [Exit.inBlock, Exit.then])
                    refine bodyPost_ret (results_cell3 rfl _ _ w.heap.size 44 #[.slice none 0 0] (0, 0) _ rfl (one_cell HB.out.1) Tryz.underlying44 rfl (by kernel_rfl)) rfl ?_
                    exact HF.out _ _ rfl (HB.out.2.2.1.setCell (Nat.le_refl _) _)
              · have hqs' : ¬ (q : Int) < s.size := by omega
                clear h45
                rcases Nat.eq_zero_or_pos m with hm0 | hmp
                · subst hm0
                  have hdn : done = [] := List.eq_nil_of_length_eq_zero HM.out.symm
                  have hab : aboveB done (a1, a1 + 1) = true := by rw [hdn]; rfl
                  rw [if_pos hab] at hst
                  have HST := Lib.hid hst
                  clear hst hdn hab
                  go_wp2_with fail
                  refine (CY.out _).mono ?_
                  rintro e X ⟨rfl, hb2⟩
                  have HH := HPW.out.next hb2
                  have HOX := Lib.hid (own_nx HOW.out hb2)
                  have k0 : X.cell? ⟨w.heap.size, 0, none⟩ = some (.slice none 0 0) := by rw [Lib.cell_of_heap HH.1]; rfl
                  have f0 : X.frozen? ⟨w.heap.size, 0, none⟩ = false := Lib.frozen_of_heap HH.1 _
                  have k1 : X.cell? ⟨w.heap.size + 1, 0, none⟩ = some (.slice ap 0 cp) := by rw [Lib.cell_of_heap HH.2.1]; rfl
                  have f1 : X.frozen? ⟨w.heap.size + 1, 0, none⟩ = false := Lib.frozen_of_heap HH.2.1 _
                  have HB := Lib.hid HH
                  obtain ⟨g2, cap2, w2, hrun2, hown2, hz2, hk2⟩ := append_two HOX.out (fun y hy => Nat.le_trans HH.2.2.2 hy) (a1, a1) (by omega)
                  have HAP := HH.app (v' := .slice (some ⟨g2, 0, none⟩) (0 + 1) cap2) (fun b hb => HOX.out.2 b hb) hk2 hz2
                  have kk1 : w2.cell? ⟨w.heap.size + 1, 0, none⟩ = some (.slice ap 0 cp) := by rw [Lib.cell_of_heap HAP.1]; rfl
                  have ff1 : w2.frozen? ⟨w.heap.size + 1, 0, none⟩ = false := Lib.frozen_of_heap HAP.1 _
                  have HRun2 := Lib.hid hrun2
                  have HOW2 := Lib.hid (own_set hown2 (g := w.heap.size + 1) (o := 0) (.slice (some ⟨g2, 0, none⟩) (0 + 1) cap2) (by omega))
                  have HPW2 := Lib.hid HAP.2
                  clear hrun2 hown2 hz2 hk2 HAP
                  clear hb2 HH
                  go_wp2_with (at_builtin; refine wpList_append_eq rfl rfl rfl rfl HRun2.out ?_)
                  go_roundw
                  case rel =>
                    refine ⟨g, q, 0 + 1, cap2, some ⟨g2, 0, none⟩, done ++ [(a1, a1 + 1)], rfl, by omega, by omega, by rw [List.length_append, ← HM.out]; rfl, by omega, by omega, ?_, HST.out, ?_, HPW2.out⟩
                    · intro x hx
                      rcases List.mem_append.1 hx with hx | hx
                      · exact HBD.out x hx
                      · rw [List.mem_singleton] at hx
                        subst hx
                        exact ⟨by show 0 ≤ a1 + 1; omega, by show a1 + 1 ≤ 1112192; omega⟩
                    have e : (done ++ [(a1, a1 + 1)]).map dnR = done.map dnR ++ [(a1, a1)] := by rw [List.map_append]; simp [dnR]
                    rw [e]
                    exact HOW2.out
                  case measure => simp [RowKit.intOf]; omega
                · obtain ⟨y, hy⟩ : ∃ y, done[m - 1]? = some y := ⟨_, List.getElem?_eq_getElem (by rw [← HM.out]; omega)⟩
                  have hab : aboveB done (a1, a1 + 1) = decide (y.2 < a1) := above_last (by rw [← HM.out]; exact hy) _
                  obtain ⟨j, rfl⟩ : ∃ j, m = j + 1 := ⟨m - 1, by omega⟩
                  rw [Nat.add_sub_cancel] at hy
                  obtain ⟨ga, rfl⟩ : ∃ ga, ap = some ⟨ga, 0, none⟩ := by
                    rcases HOW.out.1.2 with ⟨_, h⟩ | ⟨g, cap, cur, hv, _⟩
                    · omega
                    · injection hv with h1 _ _; exact ⟨g, h1⟩
                  obtain ⟨ya, yb⟩ := y
                  simp only at hab
                  have YC : Hid (∀ (W : World), OwnS (fun b => w.heap.size + 2 ≤ b) 103 2 (.slice (some ⟨ga, 0, none⟩) (j + 1) cp) (j + 1) (encR (done.map dnR)) W → W.cell? ⟨ga, j * 2 + 1, none⟩ = some (.int .i64 (yb - 1))) := Lib.hid fun W ho => by
                    have hS := slr_own ho (by rw [List.length_map]; exact HM.out)
                    obtain ⟨ao', cap', e, h⟩ := hS
                    rcases h with h | ⟨g', e2, h⟩
                    · have := congrArg List.length h
                      rw [List.length_map, ← HM.out] at this
                      simp at this
                    · have h3 := (h j (dnR (ya, yb)) (by rw [List.getElem?_map, hy]; rfl)).2
                      injection e with e3 _ _
                      rw [e2] at e3
                      injection e3 with e3
                      injection e3 with e3
                      rw [e3]; exact h3
                  obtain ⟨yd, hyd⟩ : ∃ yd, yb - 1 = yd := ⟨_, rfl⟩
                  obtain rfl : yb = yd + 1 := by omega
                  rw [show yd + 1 - 1 = yd by omega] at YC
                  clear hyd
                  have jw : IntKind.i64.wrap ((j : Int) + 1 - 1) = (j : Int) := by rw [show (j : Int) + 1 - 1 = j by omega]; exact IntWalk.i64_in _ (by omega)
                  have jp : (0 : Int) < (j : Int) + 1 := by omega
                  have j0 : (0 : Int) ≤ (j : Int) := by omega
                  have hyb := HBD.out _ (List.mem_of_getElem? hy)
                  simp only at hyb
                  have yw : IntKind.i64.wrap (yd + 1) = yd + 1 := IntWalk.i64_in _ (by omega)
                  by_cases hfe : yd + 1 < a1
                  · have hle' : ¬ a1 ≤ yd + 1 := by omega
                    rw [if_pos (by rw [hab]; exact decide_eq_true hfe)] at hst
                    have HST := Lib.hid hst
                    clear hst hab hy hfe
                    go_wp2_with fail
                    refine (CY.out _).mono ?_
                    rintro e X ⟨rfl, hb2⟩
                    have HH := HPW.out.next hb2
                    have HOX := Lib.hid (own_nx HOW.out hb2)
                    have k0 : X.cell? ⟨w.heap.size, 0, none⟩ = some (.slice none 0 0) := by rw [Lib.cell_of_heap HH.1]; rfl
                    have f0 : X.frozen? ⟨w.heap.size, 0, none⟩ = false := Lib.frozen_of_heap HH.1 _
                    have k1 : X.cell? ⟨w.heap.size + 1, 0, none⟩ = some (.slice (some ⟨ga, 0, none⟩) (j + 1) cp) := by rw [Lib.cell_of_heap HH.2.1]; rfl
                    have f1 : X.frozen? ⟨w.heap.size + 1, 0, none⟩ = false := Lib.frozen_of_heap HH.2.1 _
                    have HB := Lib.hid HH
                    have d2 := YC.out X HOX.out
                    obtain ⟨g2, cap2, w2, hrun2, hown2, hz2, hk2⟩ := append_two HOX.out (fun y hy => Nat.le_trans HH.2.2.2 hy) (a1, a1) (by omega)
                    have HAP := HH.app (v' := .slice (some ⟨g2, 0, none⟩) (j + 1 + 1) cap2) (fun b hb => HOX.out.2 b hb) hk2 hz2
                    have kk1 : w2.cell? ⟨w.heap.size + 1, 0, none⟩ = some (.slice (some ⟨ga, 0, none⟩) (j + 1) cp) := by rw [Lib.cell_of_heap HAP.1]; rfl
                    have ff1 : w2.frozen? ⟨w.heap.size + 1, 0, none⟩ = false := Lib.frozen_of_heap HAP.1 _
                    have HRun2 := Lib.hid hrun2
                    have HOW2 := Lib.hid (own_set hown2 (g := w.heap.size + 1) (o := 0) (.slice (some ⟨g2, 0, none⟩) (j + 1 + 1) cap2) (by omega))
                    have HPW2 := Lib.hid HAP.2
                    clear hrun2 hown2 hz2 hk2 HAP
                    clear hb2 HH
                    go_wp2_with (at_builtin; refine wpList_append_eq rfl rfl rfl rfl HRun2.out ?_)
                    go_roundw
                    case rel =>
                      refine ⟨g, q, j + 1 + 1, cap2, some ⟨g2, 0, none⟩, done ++ [(a1, a1 + 1)], rfl, by omega, by omega, by rw [List.length_append, ← HM.out]; rfl, by omega, by omega, ?_, HST.out, ?_, HPW2.out⟩
                      · intro x hx
                        rcases List.mem_append.1 hx with hx | hx
                        · exact HBD.out x hx
                        · rw [List.mem_singleton] at hx
                          subst hx
                          exact ⟨by show 0 ≤ a1 + 1; omega, by show a1 + 1 ≤ 1112192; omega⟩
                      have e : (done ++ [(a1, a1 + 1)]).map dnR = done.map dnR ++ [(a1, a1)] := by rw [List.map_append]; simp [dnR]
                      rw [e]
                      exact HOW2.out
                    case measure => simp [RowKit.intOf]; omega
                  · have hle' : a1 ≤ yd + 1 := by omega
                    rw [if_neg (by rw [hab]; simpa using hfe)] at hst
                    have HF := HO.out _ hst
                    clear hst hab hy hfe
                    go_wp2_with fail
                    refine (CY.out _).mono ?_
                    rintro e X ⟨rfl, hb2⟩
                    have HH := HPW.out.next hb2
                    have HOX := Lib.hid (own_nx HOW.out hb2)
                    have k0 : X.cell? ⟨w.heap.size, 0, none⟩ = some (.slice none 0 0) := by rw [Lib.cell_of_heap HH.1]; rfl
                    have f0 : X.frozen? ⟨w.heap.size, 0, none⟩ = false := Lib.frozen_of_heap HH.1 _
                    have k1 : X.cell? ⟨w.heap.size + 1, 0, none⟩ = some (.slice (some ⟨ga, 0, none⟩) (j + 1) cp) := by rw [Lib.cell_of_heap HH.2.1]; rfl
                    have f1 : X.frozen? ⟨w.heap.size + 1, 0, none⟩ = false := Lib.frozen_of_heap HH.2.1 _
                    have HB := Lib.hid HH
                    have d2 := YC.out X HOX.out
                    clear hb2 HH
                    go_wp2_with fail
                    (try simp only [Exit.inBlock, Exit.then])
                    refine bodyPost_ret (results_cell3 rfl _ _ w.heap.size 44 #[.slice none 0 0] (0, 0) _ rfl (one_cell HB.out.1) Tryz.underlying44 rfl (by kernel_rfl)) rfl ?_
                    exact HF.out _ _ rfl (HB.out.2.2.1.setCell (Nat.le_refl _) _)
      · obtain rfl : k = s.size := by omega
        have hst := HI.out.1
        have hst2 : prL l = .error (25, s.size) := by
          rw [hst]
          cases f with
          | zero => rfl
          | succ f => rw [prF_step, if_pos (by rw [HLN.out]; exact Nat.le_refl _)]
        have HF := HO.out _ hst2
        have HH := HI.out.2.2
        have k0 : wr.cell? ⟨w.heap.size, 0, none⟩ = some (.slice none 0 0) := by rw [Lib.cell_of_heap HH.1]; rfl
        have f0 : wr.frozen? ⟨w.heap.size, 0, none⟩ = false := Lib.frozen_of_heap HH.1 _
        have k1 : wr.cell? ⟨w.heap.size + 1, 0, none⟩ = some (.slice ap m cp) := by rw [Lib.cell_of_heap HH.2.1]; rfl
        have f1 : wr.frozen? ⟨w.heap.size + 1, 0, none⟩ = false := Lib.frozen_of_heap HH.2.1 _
        have HB := Lib.hid HH
        clear hst hst2 HH
        go_wp2_with fail
        (try simp only [Exit.inBlock, Exit.then])
        refine bodyPost_ret (results_cell3 rfl _ _ w.heap.size 44 #[.slice none 0 0] (0, 0) _ rfl (one_cell HB.out.1) Tryz.underlying44 rfl (by kernel_rfl)) rfl ?_
        exact HF.out _ _ rfl (HB.out.2.2.1.setCell (Nat.le_refl _) _)
  · have HF := HO.out (.error (25, 0)) (by unfold prL; rw [if_neg h0])
    have g1 : (w.alloc (.cells #[.slice none 0 0] 44)).heap[w.heap.size]? = some (.cells #[.slice none 0 0] 44 (0, 0)) := alloc_at rfl
    have HB := Lib.hid (And.intro g1 ((Below.refl _ w).alloc (Nat.le_refl _) (.cells #[.slice none 0 0] 44)))
    by_cases hnil : l = []
    · have he : s.toList.isEmpty = true := by rw [hsl, hnil]; rfl
      clear hl hln h0 hsl hnil g1
      go_enter Tryz.func39, Tryz.ntmps39
      go_wp2_with fail
      (try simp only [Exit.inBlock, Exit.then])
      refine bodyPost_ret (results_cell3 rfl _ _ w.heap.size 44 #[.slice none 0 0] (0, 0) _ rfl HB.out.1 Tryz.underlying44 rfl (by kernel_rfl)) rfl ?_
      exact HF.out _ _ rfl HB.out.2
    · obtain ⟨c, t, ht⟩ : ∃ c t, l = c :: t := by
        cases l with
        | nil => exact absurd rfl hnil
        | cons c t => exact ⟨c, t, rfl⟩
      have hne : s.toList.isEmpty = false := by rw [hsl, ht]; rfl
      have hc : c ≠ 91 := fun e => h0 (by rw [ht, e]; rfl)
      have hcb : (((c.toNat : Nat) : Int) != 91) = true := by
        rw [bne_iff_ne]
        exact fun e => hc (UInt8.toNat_inj.1 (show c.toNat = (91 : UInt8).toNat by have : (91 : UInt8).toNat = 91 := rfl; omega))
      have hI0 : ∀ W : World, (Instr.index 9 (.string s) (.int .i64 0)).run Tryz.prog W = .ok (.int .u8 (c.toNat : Nat)) W := fun W => by
        have := HIX.out 0 c (by rw [ht]; rfl) W
        simpa using this
      clear hl hln h0 hsl hnil g1 ht hc
      go_enter Tryz.func39, Tryz.ntmps39
      go_wp2_with fail
      (try simp only [Exit.inBlock, Exit.then])
      refine bodyPost_ret (results_cell3 rfl _ _ w.heap.size 44 #[.slice none 0 0] (0, 0) _ rfl HB.out.1 Tryz.underlying44 rfl (by kernel_rfl)) rfl ?_
      exact HF.out _ _ rfl HB.out.2
end Go.Proofs.YtjbkpcdpdifpnaaGreatDoor
