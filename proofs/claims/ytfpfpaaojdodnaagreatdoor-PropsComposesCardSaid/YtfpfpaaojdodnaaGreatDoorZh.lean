/- The document's answer for props: Compose. -/
import Derived.Test.YtfpfpaaojdodnaaGreatDoorLt
import Derived.Test.YtfpfpaaojdodnaaGreatDoorGz16
namespace Go.Proofs.YtfpfpaaojdodnaaGreatDoor
open Go Go.RowKit Go.Kt Go.Kt.Rg Go.Maps

theorem LfW.at3 {w : World} {ao : Option Addr} {n cp : Nat} {l : List Ln3} (h : LfW w (.slice ao n cp) l) {k : Nat} {x : Ln3} (hx : l[k]? = some x) :
    ∃ g v, ao = some ⟨g, 0, none⟩ ∧ w.cell? ⟨g, k * 3, none⟩ = some (.int .i64 (x.1 : Nat)) ∧ w.cell? ⟨g, k * 3 + 1, none⟩ = some v ∧ Sl .i32 w v (toZ x.2.1) ∧ w.cell? ⟨g, k * 3 + 2, none⟩ = some (.int .i64 (x.2.2 : Nat)) := by
  obtain ⟨ao', cp', e, hc⟩ := h
  cases e
  rcases hc with h | ⟨g, e, h⟩
  · rw [h] at hx; cases hx
  · obtain ⟨h1, ⟨v, h2, h3⟩, h4⟩ := h k x hx
    exact ⟨g, v, e, h1, h2, h3, h4⟩
theorem two_cells {W : World} {ao : Option Addr} {cap : Nat} {a b : Int} (h : Sl .i32 W (.slice ao 2 cap) [a, b]) : ∃ g off, ao = some ⟨g, off, none⟩ ∧ W.cell? ⟨g, off, none⟩ = some (.int .i32 a) ∧ W.cell? ⟨g, off + 1, none⟩ = some (.int .i32 b) := by
  obtain ⟨ao2, cp2, e, h⟩ := h
  cases e
  rcases h with h | ⟨g, off, e, h⟩
  · cases h
  · exact ⟨g, off, e, h 0 a rfl, h 1 b rfl⟩
theorem xof_le {dl : List Ln3} (hv : ∀ x ∈ dl, x.1 ≤ 1114111) {x : Ln3} (hx : x ∈ dl) : IntKind.i32.wrap (x.1 : Int) = (x.1 : Int) := IntWalk.i32_in _ (by have := hv x hx; omega)
theorem synP_no {a b : Int} (h1 : ¬ ((4352 ≤ a ∧ a ≤ 4370) ∧ 4449 ≤ b ∧ b ≤ 4469)) (h2 : ¬ (sylP a = true ∧ (a - 44032) % 28 = 0 ∧ 4520 ≤ b ∧ b ≤ 4546)) : synP a b = none := by
  unfold synP
  rw [if_neg, if_neg]
  · intro h
    rw [Bool.and_eq_true, Bool.and_eq_true] at h
    obtain ⟨⟨h3, h4⟩, h5⟩ := h
    exact h2 ⟨h3, by simpa using h4, by simp [tailP] at h5; omega⟩
  · intro h
    rw [Bool.and_eq_true] at h
    simp [leadP, vowP] at h
    exact h1 ⟨by omega, by omega⟩

set_option maxRecDepth 100000 in
set_option maxHeartbeats 4000000 in
theorem ycompose {g : Nat} {ks : List (Nat × Nat × Int)} {fv dv : Value} (cs : List (Nat × Nat × Int)) (dl : List Ln3) (md : Int → Int → Option Nat) (a b : Int) (w : World) (hR : RpW g cs ks fv dv w) (hF : LfW w dv dl) (ha : I32 a) (hn : dl.length ≤ 1000000) (hcn : cs.length ≤ 1000000 ∧ ks.length ≤ 1000000)
    (hv : ∀ x ∈ dl, x.1 ≤ 1114111) (hm1 : xclsV cs a ≠ 0 → md a b = none) (hm2 : xclsV cs a = 0 → ∀ o, LeastI dl a b o → md a b = o) :
    Calls Tryz.prog 15 #[.pointer (some ⟨g, 0, none⟩), .int .i32 a, .int .i32 b] w fun e w' => e = .returned (.tuple #[.int .i32 ((cmpV md a b).getD 0), .bool (cmpV md a b).isSome]) ∧ Below w.heap.size w w' := by
  have hcv : IntKind.i64.wrap a = a := IntWalk.i64_in _ (by have := ha.1; have := ha.2; omega)
  have CS := Lib.hid (ysyl a w)
  have CC := Lib.hid (fun W (h : Below w.heap.size w W) => yclass a W (hR.below h) ha hcn)
  obtain ⟨cv, kv, hg, _, _⟩ := hR
  obtain ⟨ao, cp, rfl, _⟩ := id hF
  obtain ⟨m, hln⟩ : ∃ m, dl.length = m := ⟨_, rfl⟩
  rw [hln] at hn hF hg
  have HG : Hid (∀ W, Below w.heap.size w W → W.cell? ⟨g, 3, none⟩ = some (.slice ao m cp)) := Lib.hid fun W h => by
    rw [Lib.cell_of_heap ((h.block g (Array.getElem?_eq_some_iff.1 hg).1).trans hg)]; rfl
  have HF := Lib.hid (And.intro hF (And.intro hln hv))
  have HM := Lib.hid (And.intro hm1 hm2)
  have HA := Lib.hid ha
  clear hF hg hln hv hm1 hm2 hcn ha
  by_cases p1 : (4352 ≤ a ∧ a ≤ 4370) ∧ 4449 ≤ b ∧ b ≤ 4469
  · obtain ⟨⟨g1, g2⟩, g3, g4⟩ := p1
    obtain ⟨u, hu⟩ : ∃ u, a = 4352 + u := ⟨a - 4352, by omega⟩
    obtain ⟨v, hv⟩ : ∃ v, b = 4449 + v := ⟨b - 4449, by omega⟩
    have HX : Hid (cmpV md a b = some (44032 + (u * 21 + v) * 28)) := Lib.hid (by
      unfold cmpV synP
      rw [if_pos (by simp [leadP, vowP]; omega)]
      simp only [Option.some.injEq]
      omega)
    have HUV := Lib.hid (And.intro hu hv)
    have q1 : IntKind.i32.wrap (a - 4352) = u := by rw [IntWalk.i32_in _ (by omega)]; omega
    have q2 : IntKind.i32.wrap (u * 21) = u * 21 := IntWalk.i32_in _ (by omega)
    have q3 : IntKind.i32.wrap (u * 21 + b) = u * 21 + b := IntWalk.i32_in _ (by omega)
    have q4 : IntKind.i32.wrap (u * 21 + b - 4449) = u * 21 + v := by rw [IntWalk.i32_in _ (by omega)]; omega
    have q5 : IntKind.i32.wrap ((u * 21 + v) * 28) = (u * 21 + v) * 28 := IntWalk.i32_in _ (by omega)
    have q6 : IntKind.i32.wrap (44032 + (u * 21 + v) * 28) = 44032 + (u * 21 + v) * 28 := IntWalk.i32_in _ (by omega)
    clear hu hv hcv
    go_enter Tryz.func15, Tryz.ntmps15
    go_wp2
    go_ret2
    exact ⟨by rw [HX.out]; rfl, Below.refl _ _⟩
  · by_cases p2 : sylP a = true ∧ (a - 44032) % 28 = 0 ∧ 4520 ≤ b ∧ b ≤ 4546
    · obtain ⟨hs, g5, g6, g7⟩ := p2
      rw [hs] at CS
      have hr := hs
      rw [syl_iff] at hr
      have hr := of_decide_eq_true hr
      have HX : Hid (cmpV md a b = some (a + b - 4519)) := Lib.hid (by
        unfold cmpV synP
        rw [if_neg (by simp [leadP]; omega), if_pos (by rw [hs]; simp [tailP]; omega)]
        simp only [Option.some.injEq]
        omega)
      have g1 : 4352 ≤ a := by omega
      have g2 : ¬ a ≤ 4370 := by omega
      obtain ⟨n, hn2⟩ : ∃ n, a - 44032 = n := ⟨_, rfl⟩
      have q1 : IntKind.i32.wrap (a - 44032) = n := by rw [IntWalk.i32_in _ (by omega)]; exact hn2
      have q2 : IntKind.i32.wrap (n.tmod 28) = 0 := by
        rw [Int.tmod_eq_emod_of_nonneg (by omega), ← hn2, g5]; rfl
      have q2' : n.tmod 28 = 0 := by
        rw [Int.tmod_eq_emod_of_nonneg (by omega), ← hn2, g5]
      have q2'' : n % 28 = 0 := by rw [← hn2, g5]
      have q3 : IntKind.i32.wrap (a + b) = a + b := IntWalk.i32_in _ (by omega)
      have q4 : IntKind.i32.wrap (a + b - 4519) = a + b - 4519 := IntWalk.i32_in _ (by omega)
      clear hs hr g5 hn2 p1
      go_enter Tryz.func15, Tryz.ntmps15
      go_wp2_with fail
      refine CS.out.mono ?_
      rintro e w1 ⟨rfl, hb⟩
      have HB := Lib.hid hb
      clear hb
      go_wp2
      go_ret2
      exact ⟨by rw [HX.out]; rfl, HB.out⟩
    · have HX : Hid (∀ o : Option Nat, md a b = o → (cmpV md a b).getD 0 = ((o.getD 0 : Nat) : Int) ∧ (cmpV md a b).isSome = o.isSome) := Lib.hid (fun o ho => by unfold cmpV; rw [synP_no p1 p2, ho]; cases o <;> exact ⟨rfl, rfl⟩)
      have hcase : (sylP a = true ∧ (4352 ≤ a ∧ ¬ a ≤ 4370) ∧ IntKind.i32.wrap (a - 44032) = a - 44032 ∧ ∃ z : Int, (a - 44032) % 28 = z ∧ (a - 44032).tmod 28 = z ∧ IntKind.i32.wrap z = z ∧ ((z == 0) = false ∨ ((z == 0) = true ∧ (¬ 4520 ≤ b ∨ 4520 ≤ b ∧ ¬ b ≤ 4546)))) ∨
          (sylP a = false ∧ ((¬ 4352 ≤ a) ∨ (4352 ≤ a ∧ ¬ a ≤ 4370) ∨ (4352 ≤ a ∧ a ≤ 4370 ∧ ¬ 4449 ≤ b) ∨ (4352 ≤ a ∧ a ≤ 4370 ∧ 4449 ≤ b ∧ ¬ b ≤ 4469))) := by
        cases hs : sylP a with
        | true =>
          have hr := hs
          rw [syl_iff] at hr
          have hr := of_decide_eq_true hr
          refine .inl ⟨rfl, ⟨by omega, by omega⟩, IntWalk.i32_in _ (by omega), (a - 44032) % 28, rfl, Int.tmod_eq_emod_of_nonneg (by omega), IntWalk.i32_in _ (by omega), ?_⟩
          by_cases hz : (a - 44032) % 28 = 0
          · refine .inr ⟨by simp [hz], ?_⟩
            by_cases h4 : 4520 ≤ b
            · exact .inr ⟨h4, fun h5 => p2 ⟨hs, hz, h4, h5⟩⟩
            · exact .inl h4
          · exact .inl (beq_eq_false_iff_ne.2 hz)
        | false =>
          refine .inr ⟨rfl, ?_⟩
          by_cases h1 : 4352 ≤ a
          · by_cases h2 : a ≤ 4370
            · by_cases h3 : 4449 ≤ b
              · exact .inr (.inr (.inr ⟨h1, h2, h3, fun h4 => p1 ⟨⟨h1, h2⟩, h3, h4⟩⟩))
              · exact .inr (.inr (.inl ⟨h1, h2, h3⟩))
            · exact .inr (.inl ⟨h1, h2⟩)
          · exact .inl h1
      clear p1 p2
      rcases hcase with ⟨hs, ⟨g1, g2⟩, q1, z, z1, z2, z3, z4 | ⟨z4, g5 | ⟨g5, g6⟩⟩⟩ | ⟨hs, g1 | ⟨g1, g2⟩ | ⟨g1, g2, g3⟩ | ⟨g1, g2, g3, g4⟩⟩
      all_goals
        rw [hs] at CS
        clear hs
        go_enter Tryz.func15, Tryz.ntmps15
        go_wp2_with fail
        refine CS.out.mono ?_
        rintro e w1 ⟨rfl, hb⟩
        have HB1 := Lib.hid hb
        have CA := Lib.hid (CC.out w1 hb)
        clear hb
        go_wp2_with fail
        refine CA.out.mono ?_
        rintro e w2 ⟨rfl, hb2⟩
        have HB2 := Lib.hid (HB1.out.trans (hb2.mono HB1.out.size))
        obtain ⟨C, hC⟩ : ∃ C, xclsV cs a = C := ⟨_, rfl⟩
        rw [hC] at HM ⊢
        clear hb2 hC
        by_cases hc0 : C = 0
        · subst hc0
          have HM2 := Lib.hid (HM.out.2 rfl)
          clear HM
          (try clear q1 z1 z2 z3 z4)
          (try clear g5)
          (try clear g6)
          (try clear g1)
          (try clear g2)
          (try clear g3)
          (try clear g4)
          go_wp2_with fail
          go_loopw [8, 9, 10] (fun u v x wr => ∃ (k : Nat) (o : Option Nat), u = .int .i32 ((o.getD 0 : Nat) : Int) ∧ v = .bool o.isSome ∧ x = .int .i64 (k : Nat) ∧ k ≤ m ∧ Hid (LeastI (dl.take k) a b o ∧ Below w.heap.size w wr)) (fun _ _ x _ => m - (RowKit.intOf x).toNat)
          case atStart => exact ⟨0, none, rfl, rfl, rfl, Nat.zero_le _, Lib.hid ⟨by rw [List.take_zero]; exact leastI_nil a b, HB2.out⟩⟩
          case round =>
            obtain ⟨k, o, rfl, rfl, rfl, hk, H⟩ := hrel
            have f0 := HG.out wr H.out.2
            by_cases hlt : k < m
            · have e1 : (k : Int) < m := by omega
              have hk0 : (0 : Int) ≤ (k : Int) := by omega
              have hk1 : IntKind.i64.wrap ((k : Int) + 1) = ((k + 1 : Nat) : Int) := by rw [IntWalk.i64_in _ (by omega)]; omega
              obtain ⟨x, hx⟩ : ∃ x, dl[k]? = some x := ⟨_, List.getElem?_eq_getElem (by rw [HF.out.2.1]; omega)⟩
              have hLW := HF.out.1.below H.out.2
              obtain ⟨gb, sv, rfl, d0, d1, hs, d2⟩ := hLW.at3 hx
              obtain ⟨so, sc, rfl, _⟩ := id hs
              have hxw := xof_le HF.out.2.2 (List.mem_of_getElem? hx)
              have hx32 : (x.1 : Int) ≤ 1114111 := by have := HF.out.2.2 x (List.mem_of_getElem? hx); omega
              have htk : dl.take (k + 1) = dl.take k ++ [x] := by rw [List.take_add_one, hx]; rfl
              obtain ⟨W1, hW1⟩ : ∃ W1, wr.alloc (.cells #[.int .i64 (x.1 : Nat), .slice so (toZ x.2.1).length sc, .int .i64 (x.2.2 : Nat)] 87) = W1 := ⟨_, rfl⟩
              have hWh : W1.heap[wr.heap.size]? = some (.cells #[.int .i64 (x.1 : Nat), .slice so (toZ x.2.1).length sc, .int .i64 (x.2.2 : Nat)] 87 (0, 0)) := by rw [← hW1]; exact heap_alloc_new _ _
              have x0 : W1.cell? ⟨wr.heap.size, 0, none⟩ = some (.int .i64 (x.1 : Nat)) := by rw [Lib.cell_of_heap hWh]; rfl
              have x1 : W1.cell? ⟨wr.heap.size, 1, none⟩ = some (.slice so (toZ x.2.1).length sc) := by rw [Lib.cell_of_heap hWh]; rfl
              have hbw : Below wr.heap.size wr W1 := by rw [← hW1]; exact (Below.refl _ wr).alloc (Nat.le_refl _) _
              have hs1 := hs.below hbw
              have HB := Lib.hid (H.out.2.trans (hbw.mono H.out.2.size))
              have HL := Lib.hid (And.intro H.out.1 htk)
              clear hx H hLW hs hWh hbw htk hlt
              obtain ⟨x1', xt, xl⟩ := x
              simp only at hxw hx32 d0 d1 d2 x0 x1 hW1 hs1 HL
              obtain ⟨X, hX⟩ : ∃ X : Int, (x1' : Int) = X := ⟨_, rfl⟩
              rw [hX] at hxw hx32 d0 x0 hW1
              have HXX := Lib.hid hX
              clear hX
              obtain ⟨N, hN⟩ : ∃ N : Nat, (toZ xt).length = N := ⟨_, rfl⟩
              rw [hN] at x1 hs1 hW1 d1
              by_cases hL2 : N = 2
              · subst hL2
                obtain ⟨u, v, huv⟩ : ∃ u v, toZ xt = [u, v] := by
                  match hq : toZ xt, hN with
                  | [u, v], _ => exact ⟨u, v, rfl⟩
                rw [huv] at hs1
                obtain ⟨gs, off, rfl, y0, y1⟩ := two_cells hs1
                have HUV := Lib.hid huv
                clear hs1 huv hN
                by_cases hua : u = a
                · by_cases hvb : v = b
                  · subst hua
                    subst hvb
                    cases o with
                    | none =>
                      go_wp2
                      go_roundw
                      case rel => exact ⟨k + 1, some x1', by rw [← HXX.out]; rfl, rfl, by go_num, by omega, Lib.hid ⟨by rw [HL.out.2]; exact HL.out.1.new HUV.out (fun _ h => by cases h), HB.out⟩⟩
                      case measure => simp [RowKit.intOf]; omega
                    | some y =>
                      by_cases hlt2 : x1' < y
                      · have hl3 : X < (y : Int) := by have := HXX.out; omega
                        have HLT := Lib.hid hlt2
                        clear hlt2
                        go_wp2
                        go_roundw
                        case rel => exact ⟨k + 1, some x1', by rw [← HXX.out]; rfl, rfl, by go_num, by omega, Lib.hid ⟨by rw [HL.out.2]; exact HL.out.1.new HUV.out (fun _ h => by cases h; exact HLT.out), HB.out⟩⟩
                        case measure => simp [RowKit.intOf]; omega
                      · have hl3 : ¬ X < (y : Int) := by have := HXX.out; omega
                        have HLT := Lib.hid hlt2
                        clear hlt2
                        go_wp2
                        go_roundw
                        case rel => exact ⟨k + 1, some y, rfl, rfl, by go_num, by omega, Lib.hid ⟨by rw [HL.out.2]; exact HL.out.1.far (by have := HLT.out; omega), HB.out⟩⟩
                        case measure => simp [RowKit.intOf]; omega
                  · have r2 : (v == b) = false := beq_eq_false_iff_ne.2 hvb
                    have HSK : Hid (toZ xt ≠ [a, b]) := Lib.hid (by rw [HUV.out]; intro h; cases h; exact hvb rfl)
                    subst hua
                    clear hvb
                    go_wp2
                    go_roundw
                    case rel => exact ⟨k + 1, o, rfl, rfl, by go_num, by omega, Lib.hid ⟨by rw [HL.out.2]; exact HL.out.1.skip HSK.out, HB.out⟩⟩
                    case measure => simp [RowKit.intOf]; omega
                · have r2 : (u == a) = false := beq_eq_false_iff_ne.2 hua
                  have HSK : Hid (toZ xt ≠ [a, b]) := Lib.hid (by rw [HUV.out]; intro h; cases h; exact hua rfl)
                  clear hua
                  go_wp2
                  go_roundw
                  case rel => exact ⟨k + 1, o, rfl, rfl, by go_num, by omega, Lib.hid ⟨by rw [HL.out.2]; exact HL.out.1.skip HSK.out, HB.out⟩⟩
                  case measure => simp [RowKit.intOf]; omega
              · have r2 : ((N : Int) == 2) = false := by rw [beq_eq_false_iff_ne]; omega
                have HSK : Hid (toZ xt ≠ [a, b]) := Lib.hid (fun h => hL2 (by rw [← hN, h]; rfl))
                clear hL2 hs1 hN
                go_wp2
                go_roundw
                case rel => exact ⟨k + 1, o, rfl, rfl, by go_num, by omega, Lib.hid ⟨by rw [HL.out.2]; exact HL.out.1.skip HSK.out, HB.out⟩⟩
                case measure => simp [RowKit.intOf]; omega
            · have e1 : ¬ (k : Int) < m := by omega
              have HE : Hid (md a b = o) := Lib.hid (HM2.out o (by have h9 := H.out.1; rwa [List.take_of_length_le (by rw [HF.out.2.1]; omega)] at h9))
              have HBB := Lib.hid H.out.2
              clear hlt H
              go_wp2
              go_ret2
              exact ⟨by rw [(HX.out o HE.out).1, (HX.out o HE.out).2]; rfl, HBB.out⟩
        · have r0 : (C != 0) = true := by simpa using hc0
          have HE := Lib.hid (HM.out.1 hc0)
          clear HM hc0
          go_wp2
          go_ret2
          exact ⟨by rw [(HX.out none HE.out).1, (HX.out none HE.out).2]; rfl, HB2.out⟩
end Go.Proofs.YtfpfpaaojdodnaaGreatDoor
