/- The document's mended text: the function of the reference is the same list of bytes as the program's. -/
import Derived.Test.YtdcpbogabgnooaaDoorX
namespace Go.Proofs.YtdcpbogabgnooaaDoor
open Go Go.RowKit Go.Kt Go.Shelf

theorem mendF_take (s by' : ByteArray) (whole : Bool) (l : List (Nat × Nat)) (i : Nat) (p : Nat × Nat) (h : l[i]? = some p) :
    mendF s by' whole (l.take (i + 1)) = mendStep s by' whole (mendF s by' whole (l.take i)) p := by
  rw [List.take_add_one, h]
  exact mendF_snoc s by' whole _ p

set_option maxRecDepth 100000 in
set_option maxHeartbeats 1000000 in
theorem refMend_any (s by' : ByteArray) (whole : Bool) (w : World) (hs : s.size ≤ 8796093022207) (hM : s.size + s.size * by'.size ≤ 140737488355328) :
    Calls Tryd.prog 41 #[.string s, .string by', .bool whole] w fun e w' => e = .returned (.string ⟨(mendL s by' whole).toArray⟩) ∧ Below w.heap.size w w' := by
  have ch := badsF_chain s s.size 0
  have HC := Lib.hid ch
  clear ch
  go_enter Tryd.func41, Tryd.ntmps41
  go_wp2_with fail
  refine (refBad_any s _ hs).mono ?_
  rintro e w1 ⟨v, rfl, hown, hb1⟩
  obtain ⟨ao, cap, rfl, hYv, hread⟩ := piece_slice hown
  have Hread := Lib.hid hread
  have Hown := Lib.hid hown
  clear hown hread
  have hz1 := hb1.size
  obtain ⟨R, hR⟩ : ∃ R, bads s = R := ⟨_, rfl⟩
  have HR := Lib.hid hR
  have hRl : R.length ≤ s.size := by rw [← hR]; exact bads_len s
  have hch0 : Chain s.size 0 R := by rw [← hR]; exact HC.out
  have Hch0 := Lib.hid hch0
  clear hch0
  have HL : Hid (mendL s by' whole = (mendF s by' whole R).1 ++ (s.extract (mendF s by' whole R).2 s.size).data.toList) := Lib.hid (by rw [← hR]; rfl)
  rw [hR] at Hread Hown hYv ⊢
  clear hR
  go_wp2_with fail
  go_loopw [7, 9, 10] (fun o a i wr => ∃ (k : Nat) (acc : List UInt8) (e : Nat) (oa : Option Addr) (oc : Nat), k ≤ R.length ∧ i = .int .i64 k ∧ mendF s by' whole (R.take k) = (acc, e) ∧ a = .int .i64 e ∧ o = .slice oa acc.length oc ∧
    OwnB (fun b => w1.heap.size ≤ b) o acc wr ∧ Below w1.heap.size w1 wr) (fun _ _ i _ => R.length - (RowKit.intOf i).toNat)
  case atStart => exact ⟨0, [], 0, none, 0, by omega, rfl, rfl, rfl, rfl, OwnB.nil _ _, Below.refl _ _⟩
  case round =>
    obtain ⟨k, acc, e, oa, oc, hk, rfl, hacc, rfl, rfl, hO, hb⟩ := hrel
    have hch := chain_end s by' whole (R.take k) (R.drop k) [] 0 (by rw [List.take_append_drop]; exact Hch0.out) (by omega) (by simp)
    change (mendF s by' whole (R.take k)).2 ≤ s.size ∧ Chain s.size (mendF s by' whole (R.take k)).2 (R.drop k) ∧ (mendF s by' whole (R.take k)).1.length ≤ (mendF s by' whole (R.take k)).2 + (mendF s by' whole (R.take k)).2 * by'.size at hch
    rw [hacc] at hch
    simp only at hch
    obtain ⟨g1, g2, g3⟩ := hch
    have HO := Lib.hid hO
    have HA := Lib.hid hacc
    clear hO hacc
    by_cases hlt : k < R.length
    · obtain ⟨⟨at', wide⟩, hp⟩ : ∃ p, R[k]? = some p := ⟨R[k], List.getElem?_eq_getElem hlt⟩
      rw [List.drop_eq_getElem_cons hlt, show R[k] = (at', wide) by rw [List.getElem?_eq_getElem hlt] at hp; exact Option.some.inj hp] at g2
      obtain ⟨g4, g5, g6, _⟩ := g2
      obtain ⟨g, hao, hcells⟩ : ∃ g, ao = some ⟨g, 0, none⟩ ∧ wr.cell? ⟨g, k * 2, none⟩ = some (.int .i64 at') ∧ wr.cell? ⟨g, k * 2 + 1, none⟩ = some (.int .i64 wide) ∧ g < w1.heap.size := by
        rcases Hread.out with h | ⟨g, h1, h2, h3⟩
        · subst h; simp at hlt
        · have := h3 k (at', wide) hp
          rw [Nat.mul_comm 2 k] at this
          exact ⟨g, h1, (hb.cell (lt_of_cell this.1)).trans this.1, (hb.cell (lt_of_cell this.2)).trans this.2, lt_of_cell this.1⟩
      subst hao
      obtain ⟨k1, k2, k3⟩ := hcells
      have e1 : 0 ≤ s.size := by omega
      have seglen : (s.extract e at').size = at' - e := by rw [ByteArray.size_extract]; omega
      have hmul : (at' + wide) * by'.size ≤ s.size * by'.size := Nat.mul_le_mul_right _ g6
      have hmul2 : (at' + wide) * by'.size = at' * by'.size + wide * by'.size := Nat.add_mul _ _ _
      have hmul3 : e * by'.size ≤ at' * by'.size := Nat.mul_le_mul_right _ g4
      have hAcc : Hid (acc.length + (at' - e) + wide * by'.size ≤ 140737488355328) := Lib.hid (by omega)
      obtain ⟨oa1, oc1, W1, hr1, hO1, hb1'⟩ := HO.out.append w1.heap.size hb.size (fun _ h => h) (s.extract e at') (by rw [seglen]; have := hAcc.out; omega)
      have hbW1 := hb.trans hb1'
      generalize hm1 : acc.length + (s.extract e at').size = m1 at hr1 hO1
      have HR1 := Lib.hid hr1
      have q1 : W1.cell? ⟨g, k * 2, none⟩ = some (.int .i64 at') := (hb1'.cell (by simpa using k3)).trans k1
      have q2 : W1.cell? ⟨g, k * 2 + 1, none⟩ = some (.int .i64 wide) := (hb1'.cell (by simpa using k3)).trans k2
      have HO1 := Lib.hid (And.intro hO1 hm1)
      clear hm1
      obtain ⟨T, hT⟩ : ∃ T : Nat, T = if whole then 1 else wide := ⟨_, rfl⟩
      have HTT := Lib.hid hT
      have hTle : T ≤ wide := by rw [hT]; split <;> omega
      have HmT : Hid (T * by'.size ≤ wide * by'.size) := Lib.hid (Nat.mul_le_mul_right _ hTle)
      have hTx : (whole = false → T = wide) ∧ (whole = true → T = 1) := by
        constructor
        · intro h; rw [hT, h]; rfl
        · intro h; rw [hT, h]; rfl
      have Hseg := Lib.hid seglen
      have Hnext : Hid (mendF s by' whole (R.take (k + 1)) = (acc ++ (s.extract e at').data.toList ++ rep by'.data.toList T, at' + wide)) := Lib.hid (by
        rw [mendF_take s by' whole R k _ hp, HA.out, hT]; rfl)
      clear hr1 hO1 hT seglen hmul hmul2 hmul3 g3 hb1'
      cases whole
      all_goals
        simp at hTx
        have HTx := Lib.hid hTx
        clear hTx
        go_wp2_with (at_builtin; refine wpList_append_eq rfl rfl rfl rfl HR1.out ?_)
        go_loopw [7, 12] (fun o i wr => ∃ (j : Nat) (oa : Option Addr) (oc m : Nat), j ≤ T ∧ i = .int .i64 j ∧ m = (acc ++ (s.extract e at').data.toList ++ rep by'.data.toList j).length ∧ o = .slice oa m oc ∧
          OwnB (fun b => w1.heap.size ≤ b) o (acc ++ (s.extract e at').data.toList ++ rep by'.data.toList j) wr ∧ Below w1.heap.size w1 wr) (fun _ i _ => T - (RowKit.intOf i).toNat)
        case atStart => exact ⟨0, oa1, oc1, m1, by omega, rfl, by rw [← HO1.out.2]; simp [rep, ← Lib.size_eq]; omega, rfl, by simpa [rep] using HO1.out.1, hbW1⟩
        case round =>
          obtain ⟨j, oa2, oc2, m2, hj, rfl, hm2, rfl, hO2, hb2⟩ := hrel
          have HO2 := Lib.hid (And.intro hO2 hm2)
          clear hO2 hm2
          by_cases hjt : j < T
          · have hjt' := hjt
            rw [HTx.out] at hjt'
            have hlen5 : (acc ++ (s.extract e at').data.toList ++ rep by'.data.toList j).length + by'.size ≤ 140737488355328 := by
              have e1 : (s.extract e at').data.toList.length = at' - e := by rw [← Lib.size_eq]; exact Hseg.out
              have e2 : by'.data.toList.length = by'.size := (Lib.size_eq by').symm
              simp only [List.length_append, rep_len, e1, e2]
              have h1 : (j + 1) * by'.size ≤ T * by'.size := Nat.mul_le_mul_right _ hjt
              rw [Nat.add_mul] at h1
              have := HmT.out
              have := hAcc.out
              omega
            obtain ⟨oa3, oc3, W3, hr3, hO3, hb3⟩ := HO2.out.1.append w1.heap.size hb2.size (fun _ h => h) by' hlen5
            have hbW3 := hb2.trans hb3
            rw [← HO2.out.2] at hr3 hO3
            have HR3 := Lib.hid hr3
            have HO3 : Hid (OwnB (fun b => w1.heap.size ≤ b) (.slice oa3 (m2 + by'.size) oc3) (acc ++ (s.extract e at').data.toList ++ rep by'.data.toList (j + 1)) W3) := Lib.hid (by
              simpa [rep] using hO3)
            clear hr3 hO3 hb3
            go_wp2_with (at_builtin; refine wpList_append_eq rfl rfl rfl rfl HR3.out ?_)
            go_roundw
            case rel => exact ⟨j + 1, oa3, oc3, m2 + by'.size, by omega, by go_num, by rw [HO2.out.2]; simp [rep, ← Lib.size_eq]; omega, rfl, HO3.out, hbW3⟩
            case measure => simp [RowKit.intOf]; omega
          · have hge : T ≤ j := by omega
            have hge' := hge
            rw [HTx.out] at hge'
            obtain rfl : j = T := by omega
            obtain ⟨q3, q4⟩ : wr.cell? ⟨g, k * 2, none⟩ = some (.int .i64 at') ∧ wr.cell? ⟨g, k * 2 + 1, none⟩ = some (.int .i64 wide) := ⟨(hb2.cell k3).trans ((hb.cell k3).symm.trans k1), (hb2.cell k3).trans ((hb.cell k3).symm.trans k2)⟩
            go_wp2
            go_quiet (fail)
            go_wp2
            go_roundw
            case rel => exact ⟨k + 1, acc ++ (s.extract e at').data.toList ++ rep by'.data.toList j, at' + wide, oa2, oc2, by omega, by go_num, Hnext.out, by go_num, by rw [HO2.out.2], HO2.out.1, hb2.trans ⟨rfl, rfl, rfl, Nat.le_refl _, fun _ _ => rfl⟩⟩
            case measure => simp [RowKit.intOf]; omega
    · obtain rfl : k = R.length := by omega
      have hall : R.take R.length = R := List.take_length
      rw [hall] at HA
      have e2 := HA.out
      rw [e2] at HL
      simp only at HL
      have hlen : acc.length + (s.extract e s.size).size ≤ 140737488355328 := by
        have hmul3 : e * by'.size ≤ s.size * by'.size := Nat.mul_le_mul_right _ g1
        rw [ByteArray.size_extract]; omega
      obtain ⟨oa3, oc3, W3, hr3, hO3, hb3⟩ := HO.out.append w1.heap.size hb.size (fun _ h => h) (s.extract e s.size) hlen
      have hbW3 := hb.trans hb3
      have htx := hO3.text
      have HR3 := Lib.hid hr3
      have HO3 := Lib.hid hO3
      clear hr3 hO3 hb3 e2
      generalize acc.length + (s.extract e s.size).size = m3 at *
      generalize acc ++ (s.extract e s.size).data.toList = L3 at *
      go_wp2_with (at_builtin; refine wpList_append_eq rfl rfl rfl rfl HR3.out ?_)
      go_ret
      rw [HL.out]
      exact ⟨rfl, hb1.trans (hbW3.mono hz1)⟩
end Go.Proofs.YtdcpbogabgnooaaDoor
