/- spelt, the point that a text may begin with. -/
import Derived.Test.YtmcmdijfdhlnaaaDoorHb21
import Derived.Lib.PathFns
import Derived.RegionTactic
import Derived.ChangeAlike
import Derived.BigRegion
import Derived.Deep.QuietTactic
import Derived.BigQuiet
import Derived.WalkLawsBesides
namespace Go.Proofs.YtmcmdijfdhlnaaaDoor
open Go Go.RowKit Go.Kt Go.Kt.Rg

/-- strconv's two errors lie. -/
def SVar (w : World) : Prop := (∃ t p, w.cell? ⟨3, 0, none⟩ = some (.iface t p)) ∧ ∃ t p, w.cell? ⟨4, 0, none⟩ = some (.iface t p)
theorem SVar.below {A B : World} (h : SVar A) (hb : Below A.heap.size A B) : SVar B := by
  obtain ⟨⟨t, p, h1⟩, t2, p2, h2⟩ := h
  exact ⟨⟨t, p, (hb.cell (lt_of_cell h1)).trans h1⟩, t2, p2, (hb.cell (lt_of_cell h2)).trans h2⟩
theorem upB_ix : ∀ l : List UInt8, (Lib.indexByte l 125 = -1 ∧ upB l = l) ∨ ∃ o : Nat, Lib.indexByte l 125 = o ∧ o < l.length ∧ upB l = l.take o
  | [] => .inl ⟨rfl, rfl⟩
  | c :: t => by
    by_cases hc : c = 125
    · subst hc
      exact .inr ⟨0, by simp [Lib.indexByte], by simp, by simp [upB]⟩
    · have e : upB (c :: t) = c :: upB t := by simp [upB, hc]
      have hc' : (c == 125) = false := by simpa using hc
      rcases upB_ix t with ⟨h1, h2⟩ | ⟨o, h1, h2, h3⟩
      · exact .inl ⟨by simp [Lib.indexByte, hc', h1], by rw [e, h2]⟩
      · refine .inr ⟨o + 1, ?_, by simp; omega, by rw [e, h3]; rfl⟩
        unfold Lib.indexByte
        rw [hc', h1]
        have : ((o : Int) == -1) = false := by rw [beq_eq_false_iff_ne]; omega
        simp [this]

set_option maxRecDepth 100000 in
set_option maxHeartbeats 2000000 in
theorem cutB_any (s : ByteArray) (w : World) (hs : s.size ≤ 140737488351232) :
    Calls Tryd.prog 64 #[.string s, .string ⟨#[125]⟩] w fun e w' => ∃ (X : ByteArray) (b : Bool), e = .returned (.tuple #[.string ⟨(upB s.data.toList).toArray⟩, .string X, .bool b]) ∧ Below w.heap.size w w' := by
  have hln : s.data.toList.length = s.size := (Lib.size_eq s).symm
  have hsz1 : (⟨#[125]⟩ : ByteArray).size = 1 := rfl
  have C : Hid (Calls Tryd.prog 76 #[.string s, .string ⟨#[125]⟩] w fun e w' => ∃ (X : ByteArray) (b : Bool), e = .returned (.tuple #[.string ⟨(upB s.data.toList).toArray⟩, .string X, .bool b]) ∧ Below w.heap.size w w') := Lib.hid (by
    rcases upB_ix s.data.toList with ⟨h1, h2⟩ | ⟨o, h1, h2, h3⟩
    · have CI := Lib.hid (Tryd.stringslite_Index_one s 125 w)
      rw [h1] at CI
      rw [h2]
      have e : (⟨s.data.toList.toArray⟩ : ByteArray) = s := by cases s; simp
      rw [e]
      clear h1 h2 e hln hsz1
      go_enter Tryd.func76, Tryd.ntmps76
      go_wp2_with fail
      refine CI.out.mono ?_
      rintro e w' ⟨rfl, rfl⟩
      go_wp2
      go_ret3
      exact ⟨_, _, rfl, Below.refl _ _⟩
    · have CI := Lib.hid (Tryd.stringslite_Index_one s 125 w)
      rw [h1] at CI
      rw [h3, ← Lib.Pa.extract_upto]
      have c1 : (0 : Int) ≤ o := by omega
      have c2 : (o : Int) ≤ s.size := by omega
      have c3 : (0 : Int) ≤ (o : Int) + 1 := by omega
      have c4 : (o : Int) + 1 ≤ s.size := by omega
      clear h1 h2 h3 hln
      go_enter Tryd.func76, Tryd.ntmps76
      go_wp2_with fail
      refine CI.out.mono ?_
      rintro e w' ⟨rfl, rfl⟩
      go_wp2
      go_region
      all_goals
        go_wp2
        go_ret3
        exact ⟨_, _, rfl, below_drewN (Below.refl _ _) 1⟩)
  clear hln hsz1 hs
  go_enter Tryd.func64, Tryd.ntmps64
  go_wp2_with fail
  refine C.out.mono ?_
  rintro e w' ⟨X, b, rfl, hb⟩
  have HB := Lib.hid hb
  clear hb
  go_wp2
  go_ret3
  exact ⟨X, b, rfl, HB.out⟩

set_option maxRecDepth 100000 in
set_option maxHeartbeats 2000000 in
theorem pu21_any (s : ByteArray) (w : World) (hs : s.size ≤ 140737488351232) (hV : SVar w) :
    Calls Tryd.prog 65 #[.string s, .int .i64 16, .int .i64 21] w fun e w' => PuOut 136 (fun _ => True) (puV 2097151 s.data.toList) e ∧ Below w.heap.size w w' := by
  have CI := Lib.hid (ipu21_any s w (by omega))
  have HV := Lib.hid hV
  obtain ⟨o, ho⟩ : ∃ o, puV 2097151 s.data.toList = o := ⟨_, rfl⟩
  rw [ho] at CI ⊢
  clear hV ho
  go_enter Tryd.func65, Tryd.ntmps65
  go_wp2_with fail
  refine CI.out.mono ?_
  rintro e w1 ⟨hp, hb⟩
  have HB := Lib.hid hb
  clear hb
  cases o with
  | some n =>
    obtain rfl := hp
    have HF := Lib.hid (PuOut.yes (T := 136) (K := fun _ => True) (o := some n) rfl)
    go_wp2
    go_ret2
    exact ⟨HF.out, HB.out⟩
  | none =>
    obtain ⟨z, k, rfl, hk⟩ := hp
    have HF := Lib.hid (fun v => PuOut.no (T := 136) (K := fun _ => True) (o := none) z (k := v) rfl trivial)
    obtain ⟨⟨t1, p1, v1⟩, t2, p2, v2⟩ := HV.out.below HB.out
    rcases hk with rfl | rfl
    · have CT := Lib.hid (fun fn => Tryd.strconv_toError_range fn s 16 21 _ w1 (by omega) v2 (.inr ⟨_, _, rfl⟩))
      clear v1 v2
      go_wp2_with fail
      refine (CT.out _).mono ?_
      rintro e w2 ⟨N, rfl, _, _, hb2⟩
      have HB2 := Lib.hid (HB.out.trans (hb2.mono HB.out.size))
      clear hb2
      go_wp2
      go_ret2
      exact ⟨HF.out _, HB2.out⟩
    · have CT := Lib.hid (fun fn => Tryd.strconv_toError_syntax fn s 16 21 _ w1 (by omega) v1 (.inr ⟨_, _, rfl⟩))
      clear v1 v2
      go_wp2_with fail
      refine (CT.out _).mono ?_
      rintro e w2 ⟨N, rfl, _, _, hb2⟩
      have HB2 := Lib.hid (HB.out.trans (hb2.mono HB.out.size))
      clear hb2
      go_wp2
      go_ret2
      exact ⟨HF.out _, HB2.out⟩

theorem data_mk (l : List UInt8) : (⟨l.toArray⟩ : ByteArray).data.toList = l := rfl
theorem size_mk (l : List UInt8) : (⟨l.toArray⟩ : ByteArray).size = l.length := by show l.toArray.size = _; simp
theorem upB_len (l : List UInt8) : (upB l).length ≤ l.length := by unfold upB; exact (List.takeWhile_sublist _).length_le

set_option maxRecDepth 100000 in
set_option maxHeartbeats 4000000 in
theorem rspelt_1 (s : ByteArray) (w : World) (hs : s.size ≤ 140737488351232) (hV : SVar w) (h1 : [92, 117, 123].isPrefixOf s.data.toList = true) :
    Calls Tryd.prog 50 #[.string s] w fun e w' => e = .returned (.int .i32 (sptR s.data.toList)) ∧ Below w.heap.size w w' := by
  obtain ⟨l, hl⟩ : ∃ l, s.data.toList = l := ⟨_, rfl⟩
  have hln : l.length = s.size := by rw [← hl]; exact (Lib.size_eq s).symm
  have C1 := Lib.hid (fun V => Tryd.strings_CutPrefix s ⟨#[92, 117, 123]⟩ V)
  have C2 := Lib.hid (fun V => Tryd.strings_CutPrefix s ⟨#[92, 120]⟩ V)
  rw [hl] at C1 C2 h1 ⊢
  have CC := Lib.hid (fun (t : ByteArray) V (h : t.size ≤ 140737488351232) => cutB_any t V h)
  have CP := Lib.hid (fun (t : ByteArray) V (h : t.size ≤ 140737488351232) (hb : Below w.heap.size w V) => pu21_any t V h (hV.below hb))
  have BD := Lib.hid (fun (n : Nat) (q : List UInt8) (h : puV 2097151 q = some n) => puV_bd h)
  have HS : Hid (sptR l = match puV 2097151 (sptD l).2 with | none => -1 | some n => (sptD l).1 + (n : Int)) := Lib.hid rfl
  obtain ⟨R, hR⟩ : ∃ R, sptR l = R := ⟨_, rfl⟩
  rw [hR] at HS ⊢
  have HLN := Lib.hid hln
  have HW : Hid (s.size ≤ 140737488351232) := Lib.hid hs
  clear hV hl hR hln hs
  have hD : sptD l = (0, upB (l.drop 3)) := by unfold sptD; rw [if_pos h1]
  have D1 : Hid (∀ V, Calls Tryd.prog 63 #[.string s, .string ⟨#[92, 117, 123]⟩] V fun e w' => e = .returned (.tuple #[.string ⟨(l.drop 3).toArray⟩, .bool true]) ∧ V = w') := Lib.hid fun V => by
    refine (C1.out V).mono ?_
    rintro e w' ⟨rfl, rfl⟩
    have hp : Lib.hasPrefix l [92, 117, 123] = true := h1
    refine ⟨?_, rfl⟩
    show Ending.returned (.tuple #[.string ⟨(Lib.trimPrefix l [92, 117, 123]).toArray⟩, .bool (Lib.hasPrefix l [92, 117, 123])]) = _
    unfold Lib.trimPrefix
    rw [hp]; rfl
  have hz : (⟨(l.drop 3).toArray⟩ : ByteArray).size ≤ 140737488351232 := by rw [size_mk, List.length_drop]; have := HLN.out; have := HW.out; omega
  have D2 := Lib.hid (fun V => CC.out ⟨(l.drop 3).toArray⟩ V hz)
  rw [hD] at HS
  simp only [data_mk] at D2
  obtain ⟨D, hDD⟩ : ∃ D, upB (l.drop 3) = D := ⟨_, rfl⟩
  have hzd : (⟨D.toArray⟩ : ByteArray).size ≤ 140737488351232 := by rw [size_mk, ← hDD]; have := upB_len (l.drop 3); rw [List.length_drop] at this; have := HLN.out; have := HW.out; omega
  rw [hDD] at HS D2
  have D3 := Lib.hid (fun V => CP.out ⟨D.toArray⟩ V hzd)
  simp only [data_mk] at D3 HS
  generalize (⟨(l.drop 3).toArray⟩ : ByteArray) = RS at *
  generalize (⟨D.toArray⟩ : ByteArray) = DS at *
  clear hD hDD hz hzd h1 C1 C2 CC CP
  go_enter Tryd.func50, Tryd.ntmps50
  go_wp2_with fail
  refine (D1.out _).mono ?_
  rintro e w1 ⟨rfl, rfl⟩
  go_wp2_with fail
  refine (D2.out _).mono ?_
  rintro e w1 ⟨X, b, rfl, hb⟩
  have HB := Lib.hid hb
  clear hb
  go_wp2_with fail
  refine (D3.out _ HB.out).mono ?_
  rintro e w2 ⟨hp, hb2⟩
  have HB2 := Lib.hid (HB.out.trans (hb2.mono HB.out.size))
  clear hb2
  obtain ⟨o, ho⟩ : ∃ o, puV 2097151 D = o := ⟨_, rfl⟩
  have hp2 : PuOut 136 (fun _ => True) o e := by rw [← ho]; exact hp
  clear hp
  rw [ho] at HS
  cases o with
  | some n =>
    obtain rfl := hp2
    have hn : n ≤ 2097151 := BD.out n _ ho
    have HE : Hid (R = (n : Int)) := Lib.hid (by have := HS.out; simp only at this; omega)
    clear HS ho
    go_wp2
    go_ret
    exact ⟨by rw [HE.out]; (first | done | rfl), HB2.out⟩
  | none =>
    obtain ⟨z, k, rfl, _⟩ := hp2
    have HE : Hid (R = -1) := Lib.hid HS.out
    clear HS ho
    go_wp2
    go_ret
    exact ⟨by rw [HE.out]; (first | done | rfl), HB2.out⟩

set_option maxRecDepth 100000 in
set_option maxHeartbeats 4000000 in
theorem rspelt_2 (s : ByteArray) (w : World) (hs : s.size ≤ 140737488351232) (hV : SVar w) (h1 : ¬ [92, 117, 123].isPrefixOf s.data.toList = true) (h2 : [92, 120].isPrefixOf s.data.toList = true) :
    Calls Tryd.prog 50 #[.string s] w fun e w' => e = .returned (.int .i32 (sptR s.data.toList)) ∧ Below w.heap.size w w' := by
  obtain ⟨l, hl⟩ : ∃ l, s.data.toList = l := ⟨_, rfl⟩
  have hln : l.length = s.size := by rw [← hl]; exact (Lib.size_eq s).symm
  have C1 := Lib.hid (fun V => Tryd.strings_CutPrefix s ⟨#[92, 117, 123]⟩ V)
  have C2 := Lib.hid (fun V => Tryd.strings_CutPrefix s ⟨#[92, 120]⟩ V)
  rw [hl] at C1 C2 h1 h2 ⊢
  have CC := Lib.hid (fun (t : ByteArray) V (h : t.size ≤ 140737488351232) => cutB_any t V h)
  have CP := Lib.hid (fun (t : ByteArray) V (h : t.size ≤ 140737488351232) (hb : Below w.heap.size w V) => pu21_any t V h (hV.below hb))
  have BD := Lib.hid (fun (n : Nat) (q : List UInt8) (h : puV 2097151 q = some n) => puV_bd h)
  have HS : Hid (sptR l = match puV 2097151 (sptD l).2 with | none => -1 | some n => (sptD l).1 + (n : Int)) := Lib.hid rfl
  obtain ⟨R, hR⟩ : ∃ R, sptR l = R := ⟨_, rfl⟩
  rw [hR] at HS ⊢
  have HLN := Lib.hid hln
  have HW : Hid (s.size ≤ 140737488351232) := Lib.hid hs
  clear hV hl hR hln hs
  have D1 : Hid (∀ V, Calls Tryd.prog 63 #[.string s, .string ⟨#[92, 117, 123]⟩] V fun e w' => ∃ X, e = .returned (.tuple #[.string X, .bool false]) ∧ V = w') := Lib.hid fun V => by
    refine (C1.out V).mono ?_
    rintro e w' ⟨rfl, rfl⟩
    have hp : Lib.hasPrefix l [92, 117, 123] = false := Bool.eq_false_iff.2 h1
    refine ⟨⟨(Lib.trimPrefix l [92, 117, 123]).toArray⟩, ?_, rfl⟩
    show Ending.returned (.tuple #[.string ⟨(Lib.trimPrefix l [92, 117, 123]).toArray⟩, .bool (Lib.hasPrefix l [92, 117, 123])]) = _
    rw [hp]
  have hD : sptD l = (1114112, (l.drop 2).take 2) := by unfold sptD; rw [if_neg h1, if_pos h2]
  have D2 : Hid (∀ V, Calls Tryd.prog 63 #[.string s, .string ⟨#[92, 120]⟩] V fun e w' => e = .returned (.tuple #[.string ⟨(l.drop 2).toArray⟩, .bool true]) ∧ V = w') := Lib.hid fun V => by
    refine (C2.out V).mono ?_
    rintro e w' ⟨rfl, rfl⟩
    have hp : Lib.hasPrefix l [92, 120] = true := h2
    refine ⟨?_, rfl⟩
    show Ending.returned (.tuple #[.string ⟨(Lib.trimPrefix l [92, 120]).toArray⟩, .bool (Lib.hasPrefix l [92, 120])]) = _
    unfold Lib.trimPrefix
    rw [hp]; rfl
  obtain ⟨RS, hRS⟩ : ∃ RS : ByteArray, (⟨(l.drop 2).toArray⟩ : ByteArray) = RS := ⟨_, rfl⟩
  have hrl : RS.data.toList = l.drop 2 := by rw [← hRS]
  have hz : RS.size ≤ 140737488351232 := by rw [← hRS, size_mk, List.length_drop]; have := HLN.out; have := HW.out; omega
  rw [hRS] at D2
  rw [hD, ← hrl] at HS
  simp only at HS
  clear hD h1 h2 C1 C2 CC hRS hrl
  have hM : RS.data.toList.take (min 2 (RS.size : Int)).toNat = RS.data.toList.take 2 := by
    have hn : RS.data.toList.length = RS.size := (Lib.size_eq RS).symm
    by_cases h : 2 ≤ RS.size
    · rw [show (min 2 (RS.size : Int)).toNat = 2 by omega]
    · rw [show (min 2 (RS.size : Int)).toNat = RS.size by omega, List.take_of_length_le (by omega), List.take_of_length_le (by omega)]
  have D3 : Hid (∀ V, Below w.heap.size w V → Calls Tryd.prog 65 #[.string (RS.extract 0 (min 2 (RS.size : Int)).toNat), .int .i64 16, .int .i64 21] V fun e w' => PuOut 136 (fun _ => True) (puV 2097151 (RS.data.toList.take 2)) e ∧ Below V.heap.size V w') := Lib.hid fun V hb => by
    have := CP.out (RS.extract 0 (min 2 (RS.size : Int)).toNat) V (by rw [ByteArray.size_extract]; omega) hb
    rw [Lib.Pa.extract_upto_list, hM] at this
    exact this
  have hm0 : (0 : Int) ≤ min 2 (RS.size : Int) := by omega
  have hm1 : min 2 (RS.size : Int) ≤ RS.size := by omega
  clear CP hM
  go_enter Tryd.func50, Tryd.ntmps50
  go_wp2_with fail
  refine (D1.out _).mono ?_
  rintro e w1 ⟨X, rfl, rfl⟩
  go_wp2_with fail
  refine (D2.out _).mono ?_
  rintro e w1 ⟨rfl, rfl⟩
  go_wp2_with fail
  go_region
  all_goals
    go_wp2_with fail
    refine (D3.out _ (Below.refl _ _).drew).mono ?_
    rintro e w2 ⟨hp, hb2⟩
    have HB2 := Lib.hid ((Below.refl w.heap.size w).drew.trans (hb2.mono (Below.refl w.heap.size w).drew.size))
    clear hb2
    obtain ⟨o, ho⟩ : ∃ o, puV 2097151 (RS.data.toList.take 2) = o := ⟨_, rfl⟩
    have hp2 : PuOut 136 (fun _ => True) o e := by rw [← ho]; exact hp
    clear hp
    rw [ho] at HS
    cases o with
    | some n =>
      obtain rfl := hp2
      have hn : n ≤ 2097151 := BD.out n _ ho
      have HE : Hid (R = 1114112 + (n : Int)) := Lib.hid (by have := HS.out; simp only at this; omega)
      clear HS ho
      go_wp2
      go_ret
      exact ⟨by rw [HE.out]; (first | done | rfl), HB2.out⟩
    | none =>
      obtain ⟨z, k, rfl, _⟩ := hp2
      have HE : Hid (R = -1) := Lib.hid HS.out
      clear HS ho
      go_wp2
      go_ret
      exact ⟨by rw [HE.out]; (first | done | rfl), HB2.out⟩

set_option maxRecDepth 100000 in
set_option maxHeartbeats 4000000 in
theorem rspelt_3 (s : ByteArray) (w : World) (hs : s.size ≤ 140737488351232) (hV : SVar w) (h1 : ¬ [92, 117, 123].isPrefixOf s.data.toList = true) (h2 : ¬ [92, 120].isPrefixOf s.data.toList = true) :
    Calls Tryd.prog 50 #[.string s] w fun e w' => e = .returned (.int .i32 (sptR s.data.toList)) ∧ Below w.heap.size w w' := by
  obtain ⟨l, hl⟩ : ∃ l, s.data.toList = l := ⟨_, rfl⟩
  have hln : l.length = s.size := by rw [← hl]; exact (Lib.size_eq s).symm
  have C1 := Lib.hid (fun V => Tryd.strings_CutPrefix s ⟨#[92, 117, 123]⟩ V)
  have C2 := Lib.hid (fun V => Tryd.strings_CutPrefix s ⟨#[92, 120]⟩ V)
  rw [hl] at C1 C2 h1 h2 ⊢
  have CC := Lib.hid (fun (t : ByteArray) V (h : t.size ≤ 140737488351232) => cutB_any t V h)
  have CP := Lib.hid (fun (t : ByteArray) V (h : t.size ≤ 140737488351232) (hb : Below w.heap.size w V) => pu21_any t V h (hV.below hb))
  have BD := Lib.hid (fun (n : Nat) (q : List UInt8) (h : puV 2097151 q = some n) => puV_bd h)
  have HS : Hid (sptR l = match puV 2097151 (sptD l).2 with | none => -1 | some n => (sptD l).1 + (n : Int)) := Lib.hid rfl
  obtain ⟨R, hR⟩ : ∃ R, sptR l = R := ⟨_, rfl⟩
  rw [hR] at HS ⊢
  have HLN := Lib.hid hln
  have HW : Hid (s.size ≤ 140737488351232) := Lib.hid hs
  clear hV hl hR hln hs
  have D1 : Hid (∀ V, Calls Tryd.prog 63 #[.string s, .string ⟨#[92, 117, 123]⟩] V fun e w' => ∃ X, e = .returned (.tuple #[.string X, .bool false]) ∧ V = w') := Lib.hid fun V => by
    refine (C1.out V).mono ?_
    rintro e w' ⟨rfl, rfl⟩
    have hp : Lib.hasPrefix l [92, 117, 123] = false := Bool.eq_false_iff.2 h1
    refine ⟨⟨(Lib.trimPrefix l [92, 117, 123]).toArray⟩, ?_, rfl⟩
    show Ending.returned (.tuple #[.string ⟨(Lib.trimPrefix l [92, 117, 123]).toArray⟩, .bool (Lib.hasPrefix l [92, 117, 123])]) = _
    rw [hp]
  have hD : sptD l = (0, []) := by unfold sptD; rw [if_neg h1, if_neg h2]
  have D2 : Hid (∀ V, Calls Tryd.prog 63 #[.string s, .string ⟨#[92, 120]⟩] V fun e w' => ∃ X, e = .returned (.tuple #[.string X, .bool false]) ∧ V = w') := Lib.hid fun V => by
    refine (C2.out V).mono ?_
    rintro e w' ⟨rfl, rfl⟩
    have hp : Lib.hasPrefix l [92, 120] = false := Bool.eq_false_iff.2 h2
    refine ⟨⟨(Lib.trimPrefix l [92, 120]).toArray⟩, ?_, rfl⟩
    show Ending.returned (.tuple #[.string ⟨(Lib.trimPrefix l [92, 120]).toArray⟩, .bool (Lib.hasPrefix l [92, 120])]) = _
    rw [hp]
  have D3 := Lib.hid (fun V => CP.out ⟨#[]⟩ V (by show 0 ≤ _; omega))
  rw [hD] at HS
  simp only at HS
  clear hD h1 h2 C1 C2 CC CP
  go_enter Tryd.func50, Tryd.ntmps50
  go_wp2_with fail
  refine (D1.out _).mono ?_
  rintro e w1 ⟨X, rfl, rfl⟩
  go_wp2_with fail
  refine (D2.out _).mono ?_
  rintro e w1 ⟨X2, rfl, rfl⟩
  go_wp2_with fail
  refine (D3.out _ (Below.refl _ _)).mono ?_
  rintro e w2 ⟨hp, hb2⟩
  have HB2 := Lib.hid ((Below.refl w.heap.size w).trans (hb2.mono (Below.refl w.heap.size w).size))
  clear hb2
  obtain ⟨o, ho⟩ : ∃ o, puV 2097151 [] = o := ⟨_, rfl⟩
  have hp2 : PuOut 136 (fun _ => True) o e := by rw [← ho]; exact hp
  clear hp
  rw [ho] at HS
  cases o with
  | some n =>
    obtain rfl := hp2
    have hn : n ≤ 2097151 := BD.out n _ ho
    have HE : Hid (R = (n : Int)) := Lib.hid (by have := HS.out; simp only at this; omega)
    clear HS ho
    go_wp2
    go_ret
    exact ⟨by rw [HE.out]; (first | done | rfl), HB2.out⟩
  | none =>
    obtain ⟨z, k, rfl, _⟩ := hp2
    have HE : Hid (R = -1) := Lib.hid HS.out
    clear HS ho
    go_wp2
    go_ret
    exact ⟨by rw [HE.out]; (first | done | rfl), HB2.out⟩

theorem rspelt_any (s : ByteArray) (w : World) (hs : s.size ≤ 140737488351232) (hV : SVar w) :
    Calls Tryd.prog 50 #[.string s] w fun e w' => e = .returned (.int .i32 (sptR s.data.toList)) ∧ Below w.heap.size w w' := by
  by_cases h1 : [92, 117, 123].isPrefixOf s.data.toList = true
  · exact rspelt_1 s w hs hV h1
  · by_cases h2 : [92, 120].isPrefixOf s.data.toList = true
    · exact rspelt_2 s w hs hV h1 h2
    · exact rspelt_3 s w hs hV h1 h2
end Go.Proofs.YtmcmdijfdhlnaaaDoor
