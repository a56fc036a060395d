/- props: PropsPairs: the walk. -/
import Derived.Test.YtdmimdiffjpjpaaGreatDoorUv
import Derived.Test.YtdmimdiffjpjpaaGreatDoorUw
import Derived.Deep.RegionWith
namespace Go.Proofs.YtdmimdiffjpjpaaGreatDoor
open Go Go.RowKit Go.Kt Go.Kt.Rg Go.Maps

/-- Numbers that are read, wherever they begin. -/
def SlA (W : World) (v : Value) (l : List Int) : Prop :=
  ∃ ao cap, v = .slice ao l.length cap ∧ (l = [] ∨ ∃ a : Addr, ao = some a ∧ ∀ i x, l[i]? = some x → W.cell? (a.add i) = some (.int .i32 x))
theorem SlA.below {A B : World} {v : Value} {l : List Int} (h : SlA A v l) (hb : Below A.heap.size A B) : SlA B v l := by
  obtain ⟨ao, cap, rfl, h⟩ := h
  refine ⟨ao, cap, rfl, ?_⟩
  rcases h with h | ⟨a, rfl, h⟩
  · exact .inl h
  · exact .inr ⟨a, rfl, fun i x hx => (hb.cell (lt_of_cell (h i x hx))).trans (h i x hx)⟩
/-- A list behind no list. -/
theorem app_nil {W : World} {v : Value} {l : List Int} (hs : Sl .i32 W v l) (hne : l ≠ []) (hl : l.length ≤ 1048576) :
    ∃ v' W', (∀ ty, (Builtin.append_ #[22, 22] ty #[.slice none 0 0, v]).run Tryz.prog W = .ok v' W') ∧ OwnS (fun b => W.heap.size ≤ b) 21 1 v' l.length (encZ l) W' ∧ Below W.heap.size W W' := by
  obtain ⟨ti, hti, hzz, hs1, hbt⟩ := info_parts tinfoI32
  obtain ⟨ao, cap, rfl, h⟩ := hs
  rcases h with h | ⟨g, off, rfl, hc⟩
  · exact absurd h hne
  · have hcell : ∀ j u, (encZ l)[j]? = some u → W.cell? ((⟨g, off, none⟩ : Addr).add j) = some u := fun j u hj => by
      have hjl : j < l.length := by
        have := (List.getElem?_eq_some_iff.1 hj).1
        simpa [encZ] using this
      rw [Addr.add_lit, hc j _ (List.getElem?_eq_getElem hjl), ← hj]
      simp [encZ, List.getElem?_eq_getElem hjl]
    obtain ⟨v', W', hrun, r1, r2, r3⟩ := run_append_own (P := Tryz.prog) W W.heap.size 22 0 21 ti _ 1 4 Tryz.underlying22 hti hzz hs1 hbt rfl (by decide) (.slice none 0 0) 0 [] (World.ownsRow_nil W W.heap.size 21 1)
      ⟨g, off, none⟩ l.length cap (encZ l) (by simp [encZ]) hcell (by intro u hu; simp [encZ] at hu; obtain ⟨a, _, rfl⟩ := hu; rfl) (by unfold maxLen; omega) (by omega) (Nat.le_refl _)
    have hown := own_from_base r1
    rw [Nat.zero_add, List.nil_append] at hown
    exact ⟨v', W', fun ty => hrun, hown, (keep_grown r2).below (Nat.le_refl _) (fun c hc => by simp [Value.ownBlock] at hc)⟩
theorem own_sl {Y : Nat → Prop} {v : Value} {l : List Int} {w : World} (ho : OwnS Y 21 1 v l.length (encZ l) w) : Sl .i32 w v l := by
  rcases ho.shape with ⟨hv, h0⟩ | ⟨gb, cap, hv, hg, hgl⟩
  · exact ⟨none, 0, by rw [hv, h0], .inl (List.length_eq_zero_iff.1 h0)⟩
  · subst hv
    refine ⟨_, cap, rfl, .inr ⟨gb, 0, rfl, fun i x hx => ?_⟩⟩
    rw [Nat.zero_add]
    refine ho.at0 (i := i) ?_
    simp [encZ, List.getElem?_map, hx]

theorem dcp_i32 {k : Nat} {S : RdS} (hS : RdOk k S) {r : Int} {p q : Nat} (h : dcpV S r = [p, q]) : I32 (p : Int) ∧ I32 (q : Int) := by
  by_cases hs : 44032 ≤ r ∧ r ≤ 55203
  · rw [dcp_syl hs.1 hs.2] at h
    by_cases h28 : (r - 44032).toNat % 28 = 0
    · rw [parts_two _ h28] at h
      simp only [List.cons.injEq, and_true] at h
      obtain ⟨rfl, rfl⟩ := h
      exact ⟨⟨by omega, by omega⟩, ⟨by omega, by omega⟩⟩
    · rw [parts_three _ h28] at h
      simp at h
  · rw [dcp_no (by omega)] at h
    unfold atZ at h
    by_cases h0 : 0 ≤ r
    · rw [if_pos h0] at h
      cases hd : S.ds r.toNat with
      | none => rw [hd] at h; cases h
      | some l =>
        rw [hd] at h
        simp only [Option.getD_some] at h
        subst h
        have h9 := (hS.ds _ _ hd).2.2
        have a1 := valid_le (h9 p (by simp))
        have a2 := valid_le (h9 q (by simp))
        exact ⟨⟨by omega, by omega⟩, ⟨by omega, by omega⟩⟩
    · rw [if_neg h0] at h
      cases h

theorem dcp_len {k : Nat} {S : RdS} (hS : RdOk k S) (r : Int) : (dcpV S r).length ≤ 1048576 := by
  by_cases hs : 44032 ≤ r ∧ r ≤ 55203
  · rw [dcp_syl hs.1 hs.2]
    unfold partsP
    split <;> simp
  · rw [dcp_no (by omega)]
    unfold atZ
    split
    · cases hd : S.ds r.toNat with
      | none => simp
      | some l =>
        have := (hS.ds _ _ hd).2.1
        simp only [Option.getD_some]
        omega
    · simp
set_option maxRecDepth 100000 in
set_option maxHeartbeats 16000000 in
theorem ppairs_c (s : ByteArray) (a b : Int) (av : Value) (ask : List Int) (w : World) (hE : PEnv w) (ha : I32 a) (hb : I32 b) (hv : SlA w av ask) (hr : ∀ x ∈ ask, I32 x) (hl : ask.length ≤ 35184372087808) :
    Calls Tryz.prog 5 #[.string s, .int .i32 a, .int .i32 b, av] w fun e w' => e = .returned (.bool true) ∧ Below w.heap.size w w' := by
  have CWK : Hid (∀ W, Below w.heap.size w W → Calls Tryz.prog 10 #[] W fun e w' => e = .returned (.bool true) ∧ Below w.heap.size w w') := Lib.hid fun W h => (pworks W (hE.below h)).mono fun e w' h2 => ⟨h2.1, h.trans (h2.2.mono h.size)⟩
  have CRD := Lib.hid (pread s w hE)
  have HV := Lib.hid hv
  have HA := Lib.hid (And.intro ha (And.intro hb (And.intro hr hl)))
  obtain ⟨ao, cap, rfl, hv2⟩ := hv
  clear hE ha hb hr hv2
  obtain ⟨n, hn⟩ : ∃ n, ask.length = n := ⟨_, rfl⟩
  rw [hn] at HV hl ⊢
  have HN := Lib.hid hn
  clear hn
  by_cases hbig : 4096 < s.size
  · have h1 : (4096 : Int) < s.size := by omega
    clear hbig
    go_enter Tryz.func5, Tryz.ntmps5
    go_wp2
    go_ret
    exact ⟨rfl, Below.refl _ _⟩
  have h1 : ¬ (4096 : Int) < s.size := by omega
  clear hbig
  go_enter Tryz.func5, Tryz.ntmps5
  go_wp2_with fail
  refine CRD.out.mono ?_
  rintro e w1 ⟨hb1, rfl | ⟨g, line, S, L, rfl, hP, hW⟩⟩
  · have HB1 := Lib.hid hb1
    clear hb1
    go_wp2_with fail
    refine (CWK.out _ HB1.out).mono ?_
    rintro e w2 ⟨rfl, hb2⟩
    go_wp2
    go_ret
    exact ⟨rfl, hb2⟩
  · obtain ⟨hS, hrd, hok, hL, hm⟩ := hP.ok
    have HW : Hid (∀ W, Below w1.heap.size w1 W → PrW g S (mdOf S L) W) := Lib.hid fun W h => hW.below h
    have CD : Hid (∀ (W : World) (r : Int), I32 r → Below w1.heap.size w1 W → Calls Tryz.prog 15 #[.pointer (some ⟨g, 0, none⟩), .int .i32 r] W fun e w' => (∃ v, e = .returned v ∧ Sl .i32 w' v (toZ (dcpV S r))) ∧ Below w1.heap.size w1 w' ∧ Below W.heap.size W w') := Lib.hid fun W r hr h =>
      (pdcpP W (HW.out W h) (fun x l hx => (hok.ds x l hx).2.1) r hr).mono fun e w' ⟨h1, h2⟩ => ⟨h1.sl, h.trans (h2.mono h.size), h2⟩
    have CC : Hid (∀ (W : World) (r : Int), Below w1.heap.size w1 W → Calls Tryz.prog 17 #[.pointer (some ⟨g, 0, none⟩), .int .i32 r] W fun e w' => e = .returned (.int .i64 (clsV S r)) ∧ Below w1.heap.size w1 w' ∧ Below W.heap.size W w') := Lib.hid fun W r h =>
      (pclsP W (HW.out W h) r).mono fun e w' ⟨h1, h2⟩ => ⟨h1, h.trans (h2.mono h.size), h2⟩
    have CM : Hid (∀ (W : World) (x y : Int), I32 x → I32 y → Below w1.heap.size w1 W → Calls Tryz.prog 12 #[.pointer (some ⟨g, 0, none⟩), .int .i32 x, .int .i32 y] W fun e w' => e = .returned (.tuple #[.int .i32 ((cmpV (mdOf S L) x y).getD 0), .bool (cmpV (mdOf S L) x y).isSome]) ∧ Below w1.heap.size w1 w' ∧ Below W.heap.size W w') := Lib.hid fun W x y hx hy h =>
      (pcmpP W (HW.out W h) x y hx hy).mono fun e w' ⟨h1, h2⟩ => ⟨h1, h.trans (h2.mono h.size), h2⟩
    have HS := Lib.hid (And.intro hok (And.intro hL (And.intro hm hb1)))
    clear hS hrd hok hL hm hb1 hW hP
    go_wp2_with fail
    refine (CM.out _ a b HA.out.1 HA.out.2.1 (Below.refl _ _)).mono ?_
    rintro e w2 ⟨rfl, hb2, _⟩
    cases hcm : cmpV (mdOf S L) a b with
    | none =>
      simp only [Option.getD_none, Option.isSome_none]
      have HBW := Lib.hid hb2
      clear hb2 hcm
      go_wp2_with fail
      go_loopw [15] (fun x wr => ∃ i : Nat, x = .int .i64 i ∧ i ≤ n ∧ i ≤ 300 ∧ Below w1.heap.size w1 wr) (fun x _ => n - (RowKit.intOf x).toNat)
      case atStart => exact ⟨0, rfl, by omega, by omega, HBW.out⟩
      case round =>
        obtain ⟨i, rfl, hi, hi3, hbr⟩ := hrel
        by_cases hlt : i < n ∧ i < 300
        · have e1 : (i : Int) < n := by omega
          have e2 : (i : Int) < 300 := by omega
          obtain ⟨x, hx⟩ : ∃ x, ask[i]? = some x := ⟨_, List.getElem?_eq_getElem (by rw [HN.out]; exact hlt.1)⟩
          obtain ⟨ad, rfl, hcx⟩ : ∃ ad, ao = some ad ∧ w.cell? (ad.add i) = some (.int .i32 x) := by
            obtain ⟨ao', cap', e, h⟩ := HV.out
            cases e
            rcases h with h | ⟨ad, e, h⟩
            · rw [h] at hx; cases hx
            · exact ⟨ad, e, h i x hx⟩
          have hcx2 := ((HS.out.2.2.2.trans (hbr.mono HS.out.2.2.2.size)).cell (lt_of_cell hcx)).trans hcx
          have hx32 := HA.out.2.2.1 x (List.mem_of_getElem? hx)
          have CDX := Lib.hid (CD.out wr x hx32 hbr)
          have hk1 : IntKind.i64.wrap ((i : Int) + 1) = ((i + 1 : Nat) : Int) := by rw [IntWalk.i64_in _ (by omega)]; omega
          have HX := Lib.hid (And.intro hx (And.intro hx32 hbr))
          clear hx hcx hx32 hbr hlt
          go_wp2_with fail
          refine CDX.out.mono ?_
          rintro e w5 ⟨⟨v5, rfl, hs5⟩, hb5, hbw5⟩
          obtain ⟨ao5, cap5, rfl, hs5⟩ := hs5
          rw [toZ_len]
          have hcx5 := (hbw5.cell (lt_of_cell hcx2)).trans hcx2
          by_cases hl2 : (dcpV S x).length = 2
          · obtain ⟨p, q, hpq⟩ : ∃ p q, dcpV S x = [p, q] := by
              match h9 : dcpV S x, hl2 with
              | [p, q], _ => exact ⟨p, q, rfl⟩
            rw [hpq] at hs5 ⊢
            obtain ⟨g5, off5, rfl, hc5⟩ : ∃ g5 off5, ao5 = some ⟨g5, off5, none⟩ ∧ w5.cell? ⟨g5, off5, none⟩ = some (.int .i32 (p : Nat)) ∧ w5.cell? ⟨g5, off5 + 1, none⟩ = some (.int .i32 (q : Nat)) := by
              rcases hs5 with h | ⟨g5, off5, e, h⟩
              · simp [toZ] at h
              · exact ⟨g5, off5, e, h 0 p rfl, h 1 q rfl⟩
            obtain ⟨hc50, hc51⟩ := hc5
            have h32 : I32 (p : Int) ∧ I32 (q : Int) := dcp_i32 HS.out.1 hpq
            have CCX := Lib.hid (CC.out w5 (p : Int) hb5)
            obtain ⟨cs, hcs⟩ : ∃ cs, clsV S (p : Int) = cs := ⟨_, rfl⟩
            rw [hcs] at CCX
            have HP := Lib.hid (And.intro hpq (And.intro hcs h32))
            have hB5 := Lib.hid hb5
            clear hs5 hl2 hpq hcs hb5 hbw5 h32
            simp only [List.length_cons, List.length_nil]
            go_wp2_with fail
            refine CCX.out.mono ?_
            rintro e w6 ⟨rfl, hb6, hbw6⟩
            by_cases hc0 : cs = 0
            · subst hc0
              have d0 := (hbw6.cell (lt_of_cell hc50)).trans hc50
              have d1 := (hbw6.cell (lt_of_cell hc51)).trans hc51
              have dx := (hbw6.cell (lt_of_cell hcx5)).trans hcx5
              obtain ⟨c, hcm, hor⟩ := ask_ok HS.out.2.1 HS.out.2.2.1 HP.out.1 HP.out.2.1
              have CMX : Hid (Calls Tryz.prog 12 #[.pointer (some ⟨g, 0, none⟩), .int .i32 (p : Nat), .int .i32 (q : Nat)] w6.drew fun e w' => e = .returned (.tuple #[.int .i32 c, .bool true]) ∧ Below w1.heap.size w1 w' ∧ Below w6.heap.size w6 w') := Lib.hid ((CM.out w6.drew (p : Int) (q : Int) HP.out.2.2.1 HP.out.2.2.2 (hb6.trans (below_drewN (Below.refl _ _) 1))).mono fun e w' h => by
                rw [hcm] at h
                exact ⟨h.1, h.2.1, (below_drewN (Below.refl w6.heap.size w6) 1).trans h.2.2⟩)
              clear hcm hb6 hbw6 hc50 hc51 hcx5 hcx2
              go_wp2_with fail
              go_region_with (go_at_call 12; refine CMX.out.mono ?_; rintro e w7 ⟨rfl, hb7, hbw7⟩)
              all_goals
                have hcx7 := (hbw7.cell (lt_of_cell dx)).trans dx
                have HB7 := Lib.hid hb7
                clear hb7 hbw7 d0 d1 dx
                by_cases hle : c ≤ x
                · have hle' : ¬ x < c := by omega
                  clear hor hle
                  go_wp2
                  go_roundw
                  case rel => exact ⟨i + 1, by go_num, by omega, by omega, HB7.out⟩
                  case measure => simp [RowKit.intOf]; omega
                · have hle' : x < c := by omega
                  have hg1 : ¬ c < 44032 := by omega
                  have hg2 : ¬ 55203 < c := by omega
                  clear hor hle
                  go_wp2
                  go_roundw
                  case rel => exact ⟨i + 1, by go_num, by omega, by omega, HB7.out⟩
                  case measure => simp [RowKit.intOf]; omega
            · have hq : (!(cs == 0)) = true := by simp [hc0]
              have HB6 := Lib.hid hb6
              clear hb6 hbw6 hc50 hc51
              go_wp2
              go_roundw
              case rel => exact ⟨i + 1, by go_num, by omega, by omega, HB6.out⟩
              case measure => simp [RowKit.intOf]; omega
          · obtain ⟨nl, hnl⟩ : ∃ nl, (dcpV S x).length = nl := ⟨_, rfl⟩
            rw [hnl] at hl2 ⊢
            have hq : (!((nl : Int) == 2)) = true := by simp; omega
            have HB5 := Lib.hid hb5
            clear hs5 hb5 hbw5 hnl hcx5 hcx2
            go_wp2
            go_roundw
            case rel => exact ⟨i + 1, by go_num, by omega, by omega, HB5.out⟩
            case measure => simp [RowKit.intOf]; omega
        · have HBR := Lib.hid hbr
          have CWX := Lib.hid (CWK.out wr (HS.out.2.2.2.trans (hbr.mono HS.out.2.2.2.size)))
          clear hbr
          by_cases hn : i < n
          · have e1 : (i : Int) < n := by omega
            have e2 : ¬ (i : Int) < 300 := by omega
            clear hlt hn
            go_wp2_with fail
            refine CWX.out.mono ?_
            rintro e w2 ⟨rfl, hb2⟩
            go_wp2
            go_ret
            exact ⟨rfl, hb2⟩
          · have e1 : ¬ (i : Int) < n := by omega
            clear hlt hn
            go_wp2_with fail
            refine CWX.out.mono ?_
            rintro e w2 ⟨rfl, hb2⟩
            go_wp2
            go_ret
            exact ⟨rfl, hb2⟩
    | some r =>
      simp only [Option.getD_some, Option.isSome_some]
      obtain ⟨hcl, hr32, hor⟩ := cmp_ok HS.out.1 HS.out.2.1 hcm
      have CDR := Lib.hid (CD.out w2 r hr32 hb2)
      clear hcm
      go_wp2_with fail
      refine CDR.out.mono ?_
      rintro e w3 ⟨⟨v3, rfl, hs3⟩, hb3, _⟩
      have CDA := Lib.hid (CD.out w3 a HA.out.1 hb3)
      go_wp2_with fail
      refine CDA.out.mono ?_
      rintro e w4 ⟨⟨v4, rfl, hs4⟩, hb4, hbw4⟩
      have hs34 := hs3.below hbw4
      have HR := Lib.hid (And.intro hcl hr32)
      clear hs3 hb2 hb3 hbw4 hcl hr32
      rcases hor with ⟨hq, hd⟩ | ⟨hq, hne, hd⟩
      · obtain ⟨w5, hw5⟩ : ∃ w5, w4.alloc (.cells #[.int .i32 a] 21) = w5 := ⟨_, rfl⟩
        have hb45 : Below w4.heap.size w4 w5 := by rw [← hw5]; exact (Below.refl _ _).alloc (Nat.le_refl _) _
        have hn5 : Sl .i32 w5 (.slice (some ⟨w4.heap.size, 0, none⟩) 1 1) [a] := by rw [← hw5]; exact sl_new w4 [a] 1 rfl
        obtain ⟨v6, w6, hrun6, ho6, hb56⟩ := app_nil hn5 (by simp) (by simp)
        obtain ⟨g7, cap7, w7, hrun7, ho7, hk7, hg7, _⟩ := append_x (P := Tryz.prog) w6 22 21 Tryz.underlying22 tinfoI32 rfl (by decide) ho6 [.int .i32 b] rfl (by intro u hu; simp at hu; subst hu; rfl) (by simp [maxLen]) (by simp)
        have hn7 : Sl .i32 w7 (.slice (some ⟨g7, 0, none⟩) 2 cap7) [a, b] := own_sl (l := [a, b]) ho7
        have hb67 : Below w5.heap.size w6 w7 := hk7.below hb56.size (fun c hc => ho6.2 c hc)
        have hb47 : Below w4.heap.size w4 w7 := hb45.trans ((hb56.trans hb67).mono hb45.size)
        have hs37 := hs34.below hb47
        rw [hd] at hs37
        have CS := Lib.hid (sameRunes_any v3 (.slice (some ⟨g7, 0, none⟩) 2 cap7) [a, b] [a, b] w7 hs37 hn7 (by simp) (by simp))
        have HB7 := Lib.hid (hb4.trans (hb47.mono hb4.size))
        have H6 := Lib.hid hrun6
        have H7 := Lib.hid hrun7
        clear hb45 hn5 hrun6 ho6 hb56 hrun7 ho7 hk7 hg7 hn7 hb67 hb47 hs37 hs34 hs4 hb4 hd
        have hcase : r < 44032 ∨ (¬ r < 44032 ∧ 55203 < r) ∨ (¬ r < 44032 ∧ ¬ 55203 < r ∧ a < 44032) ∨ (¬ r < 44032 ∧ ¬ 55203 < r ∧ ¬ a < 44032 ∧ 55203 < a) := by omega
        clear hq
        rcases hcase with hq1 | ⟨hq1, hq2⟩ | ⟨hq1, hq2, hq3⟩ | ⟨hq1, hq2, hq3, hq4⟩
        all_goals
          go_wp2_with (first | (at_builtin; refine wpList_append_eq rfl rfl rfl rfl H6.out ?_; clear H6) | (at_builtin; refine wpList_append_eq rfl rfl rfl rfl H7.out ?_; clear H7) | fail)
          refine CS.out.mono ?_
          rintro e w8 ⟨he, hd8⟩
          have he : e = .returned (.bool true) := by rw [he]; simp
          subst he
          have HB8 := Lib.hid (HB7.out.trans (hd8.below.mono HB7.out.size))
          clear hd8
          have CCA := Lib.hid (CC.out w8 a HB8.out)
          rw [HR.out.1] at CCA
          go_wp2_with fail
          refine CCA.out.mono ?_
          rintro e w9 ⟨rfl, hb9, _⟩
          have HBW := Lib.hid hb9
          clear hb9
          go_wp2_with fail
          go_loopw [15] (fun x wr => ∃ i : Nat, x = .int .i64 i ∧ i ≤ n ∧ i ≤ 300 ∧ Below w1.heap.size w1 wr) (fun x _ => n - (RowKit.intOf x).toNat)
          case atStart => exact ⟨0, rfl, by omega, by omega, HBW.out⟩
          case round =>
            obtain ⟨i, rfl, hi, hi3, hbr⟩ := hrel
            by_cases hlt : i < n ∧ i < 300
            · have e1 : (i : Int) < n := by omega
              have e2 : (i : Int) < 300 := by omega
              obtain ⟨x, hx⟩ : ∃ x, ask[i]? = some x := ⟨_, List.getElem?_eq_getElem (by rw [HN.out]; exact hlt.1)⟩
              obtain ⟨ad, rfl, hcx⟩ : ∃ ad, ao = some ad ∧ w.cell? (ad.add i) = some (.int .i32 x) := by
                obtain ⟨ao', cap', e, h⟩ := HV.out
                cases e
                rcases h with h | ⟨ad, e, h⟩
                · rw [h] at hx; cases hx
                · exact ⟨ad, e, h i x hx⟩
              have hcx2 := ((HS.out.2.2.2.trans (hbr.mono HS.out.2.2.2.size)).cell (lt_of_cell hcx)).trans hcx
              have hx32 := HA.out.2.2.1 x (List.mem_of_getElem? hx)
              have CDX := Lib.hid (CD.out wr x hx32 hbr)
              have hk1 : IntKind.i64.wrap ((i : Int) + 1) = ((i + 1 : Nat) : Int) := by rw [IntWalk.i64_in _ (by omega)]; omega
              have HX := Lib.hid (And.intro hx (And.intro hx32 hbr))
              clear hx hcx hx32 hbr hlt
              go_wp2_with fail
              refine CDX.out.mono ?_
              rintro e w5 ⟨⟨v5, rfl, hs5⟩, hb5, hbw5⟩
              obtain ⟨ao5, cap5, rfl, hs5⟩ := hs5
              rw [toZ_len]
              have hcx5 := (hbw5.cell (lt_of_cell hcx2)).trans hcx2
              by_cases hl2 : (dcpV S x).length = 2
              · obtain ⟨p, q, hpq⟩ : ∃ p q, dcpV S x = [p, q] := by
                  match h9 : dcpV S x, hl2 with
                  | [p, q], _ => exact ⟨p, q, rfl⟩
                rw [hpq] at hs5 ⊢
                obtain ⟨g5, off5, rfl, hc5⟩ : ∃ g5 off5, ao5 = some ⟨g5, off5, none⟩ ∧ w5.cell? ⟨g5, off5, none⟩ = some (.int .i32 (p : Nat)) ∧ w5.cell? ⟨g5, off5 + 1, none⟩ = some (.int .i32 (q : Nat)) := by
                  rcases hs5 with h | ⟨g5, off5, e, h⟩
                  · simp [toZ] at h
                  · exact ⟨g5, off5, e, h 0 p rfl, h 1 q rfl⟩
                obtain ⟨hc50, hc51⟩ := hc5
                have h32 : I32 (p : Int) ∧ I32 (q : Int) := dcp_i32 HS.out.1 hpq
                have CCX := Lib.hid (CC.out w5 (p : Int) hb5)
                obtain ⟨cs, hcs⟩ : ∃ cs, clsV S (p : Int) = cs := ⟨_, rfl⟩
                rw [hcs] at CCX
                have HP := Lib.hid (And.intro hpq (And.intro hcs h32))
                have hB5 := Lib.hid hb5
                clear hs5 hl2 hpq hcs hb5 hbw5 h32
                simp only [List.length_cons, List.length_nil]
                go_wp2_with fail
                refine CCX.out.mono ?_
                rintro e w6 ⟨rfl, hb6, hbw6⟩
                by_cases hc0 : cs = 0
                · subst hc0
                  have d0 := (hbw6.cell (lt_of_cell hc50)).trans hc50
                  have d1 := (hbw6.cell (lt_of_cell hc51)).trans hc51
                  have dx := (hbw6.cell (lt_of_cell hcx5)).trans hcx5
                  obtain ⟨c, hcm, hor⟩ := ask_ok HS.out.2.1 HS.out.2.2.1 HP.out.1 HP.out.2.1
                  have CMX : Hid (Calls Tryz.prog 12 #[.pointer (some ⟨g, 0, none⟩), .int .i32 (p : Nat), .int .i32 (q : Nat)] w6.drew fun e w' => e = .returned (.tuple #[.int .i32 c, .bool true]) ∧ Below w1.heap.size w1 w' ∧ Below w6.heap.size w6 w') := Lib.hid ((CM.out w6.drew (p : Int) (q : Int) HP.out.2.2.1 HP.out.2.2.2 (hb6.trans (below_drewN (Below.refl _ _) 1))).mono fun e w' h => by
                    rw [hcm] at h
                    exact ⟨h.1, h.2.1, (below_drewN (Below.refl w6.heap.size w6) 1).trans h.2.2⟩)
                  clear hcm hb6 hbw6 hc50 hc51 hcx5 hcx2
                  go_wp2_with fail
                  go_region_with (go_at_call 12; refine CMX.out.mono ?_; rintro e w7 ⟨rfl, hb7, hbw7⟩)
                  all_goals
                    have hcx7 := (hbw7.cell (lt_of_cell dx)).trans dx
                    have HB7 := Lib.hid hb7
                    clear hb7 hbw7 d0 d1 dx
                    by_cases hle : c ≤ x
                    · have hle' : ¬ x < c := by omega
                      clear hor hle
                      go_wp2
                      go_roundw
                      case rel => exact ⟨i + 1, by go_num, by omega, by omega, HB7.out⟩
                      case measure => simp [RowKit.intOf]; omega
                    · have hle' : x < c := by omega
                      have hg1 : ¬ c < 44032 := by omega
                      have hg2 : ¬ 55203 < c := by omega
                      clear hor hle
                      go_wp2
                      go_roundw
                      case rel => exact ⟨i + 1, by go_num, by omega, by omega, HB7.out⟩
                      case measure => simp [RowKit.intOf]; omega
                · have hq : (!(cs == 0)) = true := by simp [hc0]
                  have HB6 := Lib.hid hb6
                  clear hb6 hbw6 hc50 hc51
                  go_wp2
                  go_roundw
                  case rel => exact ⟨i + 1, by go_num, by omega, by omega, HB6.out⟩
                  case measure => simp [RowKit.intOf]; omega
              · obtain ⟨nl, hnl⟩ : ∃ nl, (dcpV S x).length = nl := ⟨_, rfl⟩
                rw [hnl] at hl2 ⊢
                have hq : (!((nl : Int) == 2)) = true := by simp; omega
                have HB5 := Lib.hid hb5
                clear hs5 hb5 hbw5 hnl hcx5 hcx2
                go_wp2
                go_roundw
                case rel => exact ⟨i + 1, by go_num, by omega, by omega, HB5.out⟩
                case measure => simp [RowKit.intOf]; omega
            · have HBR := Lib.hid hbr
              have CWX := Lib.hid (CWK.out wr (HS.out.2.2.2.trans (hbr.mono HS.out.2.2.2.size)))
              clear hbr
              by_cases hn : i < n
              · have e1 : (i : Int) < n := by omega
                have e2 : ¬ (i : Int) < 300 := by omega
                clear hlt hn
                go_wp2_with fail
                refine CWX.out.mono ?_
                rintro e w2 ⟨rfl, hb2⟩
                go_wp2
                go_ret
                exact ⟨rfl, hb2⟩
              · have e1 : ¬ (i : Int) < n := by omega
                clear hlt hn
                go_wp2_with fail
                refine CWX.out.mono ?_
                rintro e w2 ⟨rfl, hb2⟩
                go_wp2
                go_ret
                exact ⟨rfl, hb2⟩
      · have hq1 : ¬ r < 44032 := by omega
        have hq2 : ¬ 55203 < r := by omega
        have hq3 : ¬ a < 44032 := by omega
        have hq4 : ¬ 55203 < a := by omega
        obtain ⟨v6, w6, hrun6, ho6, hb56⟩ := app_nil hs4 (by intro h; apply hne; simpa [toZ] using h) (by rw [toZ_len]; exact dcp_len HS.out.1 a)
        obtain ⟨g7, cap7, w7, hrun7, ho7, hk7, hg7, _⟩ := append_x (P := Tryz.prog) w6 22 21 Tryz.underlying22 tinfoI32 rfl (by decide) ho6 [.int .i32 b] rfl (by intro u hu; simp at hu; subst hu; rfl) (by have := dcp_len HS.out.1 a; rw [toZ_len]; unfold maxLen; omega) (by have := dcp_len HS.out.1 a; rw [toZ_len]; omega)
        obtain ⟨N7, hN7⟩ : ∃ N7, (toZ (dcpV S a)).length + 1 = N7 := ⟨_, rfl⟩
        rw [hN7] at hrun7 ho7
        have hl7 : (toZ (dcpV S a) ++ [b]).length = N7 := by rw [List.length_append]; exact hN7
        have hn7 : Sl .i32 w7 (.slice (some ⟨g7, 0, none⟩) N7 cap7) (toZ (dcpV S a) ++ [b]) := own_sl (by rw [hl7]; simpa [encZ] using ho7)
        have hb67 : Below w4.heap.size w6 w7 := hk7.below hb56.size (fun c hc => ho6.2 c hc)
        have hb47 : Below w4.heap.size w4 w7 := hb56.trans hb67
        have hs37 := hs34.below hb47
        rw [hd] at hs37
        have hll : (toZ (dcpV S a) ++ [b]).length ≤ 4611686018427387904 := by have := dcp_len HS.out.1 a; rw [List.length_append, toZ_len]; simp; omega
        have CS := Lib.hid (sameRunes_any v3 (.slice (some ⟨g7, 0, none⟩) N7 cap7) _ _ w7 hs37 hn7 hll hll)
        have HB7 := Lib.hid (hb4.trans (hb47.mono hb4.size))
        have H6 := Lib.hid hrun6
        have H7 := Lib.hid hrun7
        clear hrun6 ho6 hb56 hrun7 ho7 hk7 hg7 hn7 hb67 hb47 hs37 hs34 hs4 hb4 hd hq hne hN7 hl7 hll
        go_wp2_with (first | (at_builtin; refine wpList_append_eq rfl rfl rfl rfl H6.out ?_; clear H6) | (at_builtin; refine wpList_append_eq rfl rfl rfl rfl H7.out ?_; clear H7) | fail)
        refine CS.out.mono ?_
        rintro e w8 ⟨he, hd8⟩
        have he : e = .returned (.bool true) := by rw [he]; simp
        subst he
        have HB8 := Lib.hid (HB7.out.trans (hd8.below.mono HB7.out.size))
        clear hd8
        have CCA := Lib.hid (CC.out w8 a HB8.out)
        rw [HR.out.1] at CCA
        go_wp2_with fail
        refine CCA.out.mono ?_
        rintro e w9 ⟨rfl, hb9, _⟩
        have HBW := Lib.hid hb9
        clear hb9
        go_wp2_with fail
        go_loopw [15] (fun x wr => ∃ i : Nat, x = .int .i64 i ∧ i ≤ n ∧ i ≤ 300 ∧ Below w1.heap.size w1 wr) (fun x _ => n - (RowKit.intOf x).toNat)
        case atStart => exact ⟨0, rfl, by omega, by omega, HBW.out⟩
        case round =>
          obtain ⟨i, rfl, hi, hi3, hbr⟩ := hrel
          by_cases hlt : i < n ∧ i < 300
          · have e1 : (i : Int) < n := by omega
            have e2 : (i : Int) < 300 := by omega
            obtain ⟨x, hx⟩ : ∃ x, ask[i]? = some x := ⟨_, List.getElem?_eq_getElem (by rw [HN.out]; exact hlt.1)⟩
            obtain ⟨ad, rfl, hcx⟩ : ∃ ad, ao = some ad ∧ w.cell? (ad.add i) = some (.int .i32 x) := by
              obtain ⟨ao', cap', e, h⟩ := HV.out
              cases e
              rcases h with h | ⟨ad, e, h⟩
              · rw [h] at hx; cases hx
              · exact ⟨ad, e, h i x hx⟩
            have hcx2 := ((HS.out.2.2.2.trans (hbr.mono HS.out.2.2.2.size)).cell (lt_of_cell hcx)).trans hcx
            have hx32 := HA.out.2.2.1 x (List.mem_of_getElem? hx)
            have CDX := Lib.hid (CD.out wr x hx32 hbr)
            have hk1 : IntKind.i64.wrap ((i : Int) + 1) = ((i + 1 : Nat) : Int) := by rw [IntWalk.i64_in _ (by omega)]; omega
            have HX := Lib.hid (And.intro hx (And.intro hx32 hbr))
            clear hx hcx hx32 hbr hlt
            go_wp2_with fail
            refine CDX.out.mono ?_
            rintro e w5 ⟨⟨v5, rfl, hs5⟩, hb5, hbw5⟩
            obtain ⟨ao5, cap5, rfl, hs5⟩ := hs5
            rw [toZ_len]
            have hcx5 := (hbw5.cell (lt_of_cell hcx2)).trans hcx2
            by_cases hl2 : (dcpV S x).length = 2
            · obtain ⟨p, q, hpq⟩ : ∃ p q, dcpV S x = [p, q] := by
                match h9 : dcpV S x, hl2 with
                | [p, q], _ => exact ⟨p, q, rfl⟩
              rw [hpq] at hs5 ⊢
              obtain ⟨g5, off5, rfl, hc5⟩ : ∃ g5 off5, ao5 = some ⟨g5, off5, none⟩ ∧ w5.cell? ⟨g5, off5, none⟩ = some (.int .i32 (p : Nat)) ∧ w5.cell? ⟨g5, off5 + 1, none⟩ = some (.int .i32 (q : Nat)) := by
                rcases hs5 with h | ⟨g5, off5, e, h⟩
                · simp [toZ] at h
                · exact ⟨g5, off5, e, h 0 p rfl, h 1 q rfl⟩
              obtain ⟨hc50, hc51⟩ := hc5
              have h32 : I32 (p : Int) ∧ I32 (q : Int) := dcp_i32 HS.out.1 hpq
              have CCX := Lib.hid (CC.out w5 (p : Int) hb5)
              obtain ⟨cs, hcs⟩ : ∃ cs, clsV S (p : Int) = cs := ⟨_, rfl⟩
              rw [hcs] at CCX
              have HP := Lib.hid (And.intro hpq (And.intro hcs h32))
              have hB5 := Lib.hid hb5
              clear hs5 hl2 hpq hcs hb5 hbw5 h32
              simp only [List.length_cons, List.length_nil]
              go_wp2_with fail
              refine CCX.out.mono ?_
              rintro e w6 ⟨rfl, hb6, hbw6⟩
              by_cases hc0 : cs = 0
              · subst hc0
                have d0 := (hbw6.cell (lt_of_cell hc50)).trans hc50
                have d1 := (hbw6.cell (lt_of_cell hc51)).trans hc51
                have dx := (hbw6.cell (lt_of_cell hcx5)).trans hcx5
                obtain ⟨c, hcm, hor⟩ := ask_ok HS.out.2.1 HS.out.2.2.1 HP.out.1 HP.out.2.1
                have CMX : Hid (Calls Tryz.prog 12 #[.pointer (some ⟨g, 0, none⟩), .int .i32 (p : Nat), .int .i32 (q : Nat)] w6.drew fun e w' => e = .returned (.tuple #[.int .i32 c, .bool true]) ∧ Below w1.heap.size w1 w' ∧ Below w6.heap.size w6 w') := Lib.hid ((CM.out w6.drew (p : Int) (q : Int) HP.out.2.2.1 HP.out.2.2.2 (hb6.trans (below_drewN (Below.refl _ _) 1))).mono fun e w' h => by
                  rw [hcm] at h
                  exact ⟨h.1, h.2.1, (below_drewN (Below.refl w6.heap.size w6) 1).trans h.2.2⟩)
                clear hcm hb6 hbw6 hc50 hc51 hcx5 hcx2
                go_wp2_with fail
                go_region_with (go_at_call 12; refine CMX.out.mono ?_; rintro e w7 ⟨rfl, hb7, hbw7⟩)
                all_goals
                  have hcx7 := (hbw7.cell (lt_of_cell dx)).trans dx
                  have HB7 := Lib.hid hb7
                  clear hb7 hbw7 d0 d1 dx
                  by_cases hle : c ≤ x
                  · have hle' : ¬ x < c := by omega
                    clear hor hle
                    go_wp2
                    go_roundw
                    case rel => exact ⟨i + 1, by go_num, by omega, by omega, HB7.out⟩
                    case measure => simp [RowKit.intOf]; omega
                  · have hle' : x < c := by omega
                    have hg1 : ¬ c < 44032 := by omega
                    have hg2 : ¬ 55203 < c := by omega
                    clear hor hle
                    go_wp2
                    go_roundw
                    case rel => exact ⟨i + 1, by go_num, by omega, by omega, HB7.out⟩
                    case measure => simp [RowKit.intOf]; omega
              · have hq : (!(cs == 0)) = true := by simp [hc0]
                have HB6 := Lib.hid hb6
                clear hb6 hbw6 hc50 hc51
                go_wp2
                go_roundw
                case rel => exact ⟨i + 1, by go_num, by omega, by omega, HB6.out⟩
                case measure => simp [RowKit.intOf]; omega
            · obtain ⟨nl, hnl⟩ : ∃ nl, (dcpV S x).length = nl := ⟨_, rfl⟩
              rw [hnl] at hl2 ⊢
              have hq : (!((nl : Int) == 2)) = true := by simp; omega
              have HB5 := Lib.hid hb5
              clear hs5 hb5 hbw5 hnl hcx5 hcx2
              go_wp2
              go_roundw
              case rel => exact ⟨i + 1, by go_num, by omega, by omega, HB5.out⟩
              case measure => simp [RowKit.intOf]; omega
          · have HBR := Lib.hid hbr
            have CWX := Lib.hid (CWK.out wr (HS.out.2.2.2.trans (hbr.mono HS.out.2.2.2.size)))
            clear hbr
            by_cases hn : i < n
            · have e1 : (i : Int) < n := by omega
              have e2 : ¬ (i : Int) < 300 := by omega
              clear hlt hn
              go_wp2_with fail
              refine CWX.out.mono ?_
              rintro e w2 ⟨rfl, hb2⟩
              go_wp2
              go_ret
              exact ⟨rfl, hb2⟩
            · have e1 : ¬ (i : Int) < n := by omega
              clear hlt hn
              go_wp2_with fail
              refine CWX.out.mono ?_
              rintro e w2 ⟨rfl, hb2⟩
              go_wp2
              go_ret
              exact ⟨rfl, hb2⟩
end Go.Proofs.YtdmimdiffjpjpaaGreatDoor
