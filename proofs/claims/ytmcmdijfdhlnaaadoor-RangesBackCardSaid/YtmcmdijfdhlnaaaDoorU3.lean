/- Parts of the proof of what the last text says. -/
import Derived.Test.YtmcmdijfdhlnaaaDoorU2
import Derived.Lib.PathFns
import Derived.RegionTactic
import Derived.ChangeAlike
import Derived.BigRegion
import Derived.Deep.QuietTactic
import Derived.BigQuiet
import Derived.WalkLawsBesides
import Derived.Deep.RegionWith
import Derived.Test.YtmcmdijfdhlnaaaDoorU1
import Derived.Deep.SlicePairs
import Derived.ChangeArms
import Derived.Carry
/- spelt, the point that a text may begin with. -/
namespace Go.Proofs.YtmcmdijfdhlnaaaDoor
open Go Go.RowKit Go.Kt Go.Kt.Rg

/-- strconv's two errors lie. -/
def SVar (w : World) : Prop := (∃ t p, w.cell? ⟨3, 0, none⟩ = some (.iface t p)) ∧ ∃ t p, w.cell? ⟨4, 0, none⟩ = some (.iface t p)
theorem SVar.below {A B : World} (h : SVar A) (hb : Below A.heap.size A B) : SVar B := by
  obtain ⟨⟨t, p, h1⟩, t2, p2, h2⟩ := h
  exact ⟨⟨t, p, (hb.cell (lt_of_cell h1)).trans h1⟩, t2, p2, (hb.cell (lt_of_cell h2)).trans h2⟩
theorem upB_ix : ∀ l : List UInt8, (Lib.indexByte l 125 = -1 ∧ upB l = l) ∨ ∃ o : Nat, Lib.indexByte l 125 = o ∧ o < l.length ∧ upB l = l.take o
  | [] => .inl ⟨rfl, rfl⟩
  | c :: t => by
    by_cases hc : c = 125
    · subst hc
      exact .inr ⟨0, by simp [Lib.indexByte], by simp, by simp [upB]⟩
    · have e : upB (c :: t) = c :: upB t := by simp [upB, hc]
      have hc' : (c == 125) = false := by simpa using hc
      rcases upB_ix t with ⟨h1, h2⟩ | ⟨o, h1, h2, h3⟩
      · exact .inl ⟨by simp [Lib.indexByte, hc', h1], by rw [e, h2]⟩
      · refine .inr ⟨o + 1, ?_, by simp; omega, by rw [e, h3]; rfl⟩
        unfold Lib.indexByte
        rw [hc', h1]
        have : ((o : Int) == -1) = false := by rw [beq_eq_false_iff_ne]; omega
        simp [this]

set_option maxRecDepth 100000 in
set_option maxHeartbeats 2000000 in
theorem cutB_any (s : ByteArray) (w : World) (hs : s.size ≤ 140737488351232) :
    Calls Tryd.prog 64 #[.string s, .string ⟨#[125]⟩] w fun e w' => ∃ (X : ByteArray) (b : Bool), e = .returned (.tuple #[.string ⟨(upB s.data.toList).toArray⟩, .string X, .bool b]) ∧ Below w.heap.size w w' := by
  have hln : s.data.toList.length = s.size := (Lib.size_eq s).symm
  have hsz1 : (⟨#[125]⟩ : ByteArray).size = 1 := rfl
  have C : Hid (Calls Tryd.prog 76 #[.string s, .string ⟨#[125]⟩] w fun e w' => ∃ (X : ByteArray) (b : Bool), e = .returned (.tuple #[.string ⟨(upB s.data.toList).toArray⟩, .string X, .bool b]) ∧ Below w.heap.size w w') := Lib.hid (by
    rcases upB_ix s.data.toList with ⟨h1, h2⟩ | ⟨o, h1, h2, h3⟩
    · have CI := Lib.hid (Tryd.stringslite_Index_one s 125 w)
      rw [h1] at CI
      rw [h2]
      have e : (⟨s.data.toList.toArray⟩ : ByteArray) = s := by cases s; simp
      rw [e]
      clear h1 h2 e hln hsz1
      go_enter Tryd.func76, Tryd.ntmps76
      go_wp2_with fail
      refine CI.out.mono ?_
      rintro e w' ⟨rfl, rfl⟩
      go_wp2
      go_ret3
      exact ⟨_, _, rfl, Below.refl _ _⟩
    · have CI := Lib.hid (Tryd.stringslite_Index_one s 125 w)
      rw [h1] at CI
      rw [h3, ← Lib.Pa.extract_upto]
      have c1 : (0 : Int) ≤ o := by omega
      have c2 : (o : Int) ≤ s.size := by omega
      have c3 : (0 : Int) ≤ (o : Int) + 1 := by omega
      have c4 : (o : Int) + 1 ≤ s.size := by omega
      clear h1 h2 h3 hln
      go_enter Tryd.func76, Tryd.ntmps76
      go_wp2_with fail
      refine CI.out.mono ?_
      rintro e w' ⟨rfl, rfl⟩
      go_wp2
      go_region
      all_goals
        go_wp2
        go_ret3
        exact ⟨_, _, rfl, below_drewN (Below.refl _ _) 1⟩)
  clear hln hsz1 hs
  go_enter Tryd.func64, Tryd.ntmps64
  go_wp2_with fail
  refine C.out.mono ?_
  rintro e w' ⟨X, b, rfl, hb⟩
  have HB := Lib.hid hb
  clear hb
  go_wp2
  go_ret3
  exact ⟨X, b, rfl, HB.out⟩

set_option maxRecDepth 100000 in
set_option maxHeartbeats 2000000 in
theorem pu21_any (s : ByteArray) (w : World) (hs : s.size ≤ 140737488351232) (hV : SVar w) :
    Calls Tryd.prog 65 #[.string s, .int .i64 16, .int .i64 21] w fun e w' => PuOut 136 (fun _ => True) (puV 2097151 s.data.toList) e ∧ Below w.heap.size w w' := by
  have CI := Lib.hid (ipu21_any s w (by omega))
  have HV := Lib.hid hV
  obtain ⟨o, ho⟩ : ∃ o, puV 2097151 s.data.toList = o := ⟨_, rfl⟩
  rw [ho] at CI ⊢
  clear hV ho
  go_enter Tryd.func65, Tryd.ntmps65
  go_wp2_with fail
  refine CI.out.mono ?_
  rintro e w1 ⟨hp, hb⟩
  have HB := Lib.hid hb
  clear hb
  cases o with
  | some n =>
    obtain rfl := hp
    have HF := Lib.hid (PuOut.yes (T := 136) (K := fun _ => True) (o := some n) rfl)
    go_wp2
    go_ret2
    exact ⟨HF.out, HB.out⟩
  | none =>
    obtain ⟨z, k, rfl, hk⟩ := hp
    have HF := Lib.hid (fun v => PuOut.no (T := 136) (K := fun _ => True) (o := none) z (k := v) rfl trivial)
    obtain ⟨⟨t1, p1, v1⟩, t2, p2, v2⟩ := HV.out.below HB.out
    rcases hk with rfl | rfl
    · have CT := Lib.hid (fun fn => Tryd.strconv_toError_range fn s 16 21 _ w1 (by omega) v2 (.inr ⟨_, _, rfl⟩))
      clear v1 v2
      go_wp2_with fail
      refine (CT.out _).mono ?_
      rintro e w2 ⟨N, rfl, _, _, hb2⟩
      have HB2 := Lib.hid (HB.out.trans (hb2.mono HB.out.size))
      clear hb2
      go_wp2
      go_ret2
      exact ⟨HF.out _, HB2.out⟩
    · have CT := Lib.hid (fun fn => Tryd.strconv_toError_syntax fn s 16 21 _ w1 (by omega) v1 (.inr ⟨_, _, rfl⟩))
      clear v1 v2
      go_wp2_with fail
      refine (CT.out _).mono ?_
      rintro e w2 ⟨N, rfl, _, _, hb2⟩
      have HB2 := Lib.hid (HB.out.trans (hb2.mono HB.out.size))
      clear hb2
      go_wp2
      go_ret2
      exact ⟨HF.out _, HB2.out⟩

theorem data_mk (l : List UInt8) : (⟨l.toArray⟩ : ByteArray).data.toList = l := rfl
theorem size_mk (l : List UInt8) : (⟨l.toArray⟩ : ByteArray).size = l.length := by show l.toArray.size = _; simp
theorem upB_len (l : List UInt8) : (upB l).length ≤ l.length := by unfold upB; exact (List.takeWhile_sublist _).length_le

set_option maxRecDepth 100000 in
set_option maxHeartbeats 4000000 in
theorem rspelt_1 (s : ByteArray) (w : World) (hs : s.size ≤ 140737488351232) (hV : SVar w) (h1 : [92, 117, 123].isPrefixOf s.data.toList = true) :
    Calls Tryd.prog 50 #[.string s] w fun e w' => e = .returned (.int .i32 (sptR s.data.toList)) ∧ Below w.heap.size w w' := by
  obtain ⟨l, hl⟩ : ∃ l, s.data.toList = l := ⟨_, rfl⟩
  have hln : l.length = s.size := by rw [← hl]; exact (Lib.size_eq s).symm
  have C1 := Lib.hid (fun V => Tryd.strings_CutPrefix s ⟨#[92, 117, 123]⟩ V)
  have C2 := Lib.hid (fun V => Tryd.strings_CutPrefix s ⟨#[92, 120]⟩ V)
  rw [hl] at C1 C2 h1 ⊢
  have CC := Lib.hid (fun (t : ByteArray) V (h : t.size ≤ 140737488351232) => cutB_any t V h)
  have CP := Lib.hid (fun (t : ByteArray) V (h : t.size ≤ 140737488351232) (hb : Below w.heap.size w V) => pu21_any t V h (hV.below hb))
  have BD := Lib.hid (fun (n : Nat) (q : List UInt8) (h : puV 2097151 q = some n) => puV_bd h)
  have HS : Hid (sptR l = match puV 2097151 (sptD l).2 with | none => -1 | some n => (sptD l).1 + (n : Int)) := Lib.hid rfl
  obtain ⟨R, hR⟩ : ∃ R, sptR l = R := ⟨_, rfl⟩
  rw [hR] at HS ⊢
  have HLN := Lib.hid hln
  have HW : Hid (s.size ≤ 140737488351232) := Lib.hid hs
  clear hV hl hR hln hs
  have hD : sptD l = (0, upB (l.drop 3)) := by unfold sptD; rw [if_pos h1]
  have D1 : Hid (∀ V, Calls Tryd.prog 63 #[.string s, .string ⟨#[92, 117, 123]⟩] V fun e w' => e = .returned (.tuple #[.string ⟨(l.drop 3).toArray⟩, .bool true]) ∧ V = w') := Lib.hid fun V => by
    refine (C1.out V).mono ?_
    rintro e w' ⟨rfl, rfl⟩
    have hp : Lib.hasPrefix l [92, 117, 123] = true := h1
    refine ⟨?_, rfl⟩
    show Ending.returned (.tuple #[.string ⟨(Lib.trimPrefix l [92, 117, 123]).toArray⟩, .bool (Lib.hasPrefix l [92, 117, 123])]) = _
    unfold Lib.trimPrefix
    rw [hp]; rfl
  have hz : (⟨(l.drop 3).toArray⟩ : ByteArray).size ≤ 140737488351232 := by rw [size_mk, List.length_drop]; have := HLN.out; have := HW.out; omega
  have D2 := Lib.hid (fun V => CC.out ⟨(l.drop 3).toArray⟩ V hz)
  rw [hD] at HS
  simp only [data_mk] at D2
  obtain ⟨D, hDD⟩ : ∃ D, upB (l.drop 3) = D := ⟨_, rfl⟩
  have hzd : (⟨D.toArray⟩ : ByteArray).size ≤ 140737488351232 := by rw [size_mk, ← hDD]; have := upB_len (l.drop 3); rw [List.length_drop] at this; have := HLN.out; have := HW.out; omega
  rw [hDD] at HS D2
  have D3 := Lib.hid (fun V => CP.out ⟨D.toArray⟩ V hzd)
  simp only [data_mk] at D3 HS
  generalize (⟨(l.drop 3).toArray⟩ : ByteArray) = RS at *
  generalize (⟨D.toArray⟩ : ByteArray) = DS at *
  clear hD hDD hz hzd h1 C1 C2 CC CP
  go_enter Tryd.func50, Tryd.ntmps50
  go_wp2_with fail
  refine (D1.out _).mono ?_
  rintro e w1 ⟨rfl, rfl⟩
  go_wp2_with fail
  refine (D2.out _).mono ?_
  rintro e w1 ⟨X, b, rfl, hb⟩
  have HB := Lib.hid hb
  clear hb
  go_wp2_with fail
  refine (D3.out _ HB.out).mono ?_
  rintro e w2 ⟨hp, hb2⟩
  have HB2 := Lib.hid (HB.out.trans (hb2.mono HB.out.size))
  clear hb2
  obtain ⟨o, ho⟩ : ∃ o, puV 2097151 D = o := ⟨_, rfl⟩
  have hp2 : PuOut 136 (fun _ => True) o e := by rw [← ho]; exact hp
  clear hp
  rw [ho] at HS
  cases o with
  | some n =>
    obtain rfl := hp2
    have hn : n ≤ 2097151 := BD.out n _ ho
    have HE : Hid (R = (n : Int)) := Lib.hid (by have := HS.out; simp only at this; omega)
    clear HS ho
    go_wp2
    go_ret
    exact ⟨by rw [HE.out]; (first | done | rfl), HB2.out⟩
  | none =>
    obtain ⟨z, k, rfl, _⟩ := hp2
    have HE : Hid (R = -1) := Lib.hid HS.out
    clear HS ho
    go_wp2
    go_ret
    exact ⟨by rw [HE.out]; (first | done | rfl), HB2.out⟩

set_option maxRecDepth 100000 in
set_option maxHeartbeats 4000000 in
theorem rspelt_2 (s : ByteArray) (w : World) (hs : s.size ≤ 140737488351232) (hV : SVar w) (h1 : ¬ [92, 117, 123].isPrefixOf s.data.toList = true) (h2 : [92, 120].isPrefixOf s.data.toList = true) :
    Calls Tryd.prog 50 #[.string s] w fun e w' => e = .returned (.int .i32 (sptR s.data.toList)) ∧ Below w.heap.size w w' := by
  obtain ⟨l, hl⟩ : ∃ l, s.data.toList = l := ⟨_, rfl⟩
  have hln : l.length = s.size := by rw [← hl]; exact (Lib.size_eq s).symm
  have C1 := Lib.hid (fun V => Tryd.strings_CutPrefix s ⟨#[92, 117, 123]⟩ V)
  have C2 := Lib.hid (fun V => Tryd.strings_CutPrefix s ⟨#[92, 120]⟩ V)
  rw [hl] at C1 C2 h1 h2 ⊢
  have CC := Lib.hid (fun (t : ByteArray) V (h : t.size ≤ 140737488351232) => cutB_any t V h)
  have CP := Lib.hid (fun (t : ByteArray) V (h : t.size ≤ 140737488351232) (hb : Below w.heap.size w V) => pu21_any t V h (hV.below hb))
  have BD := Lib.hid (fun (n : Nat) (q : List UInt8) (h : puV 2097151 q = some n) => puV_bd h)
  have HS : Hid (sptR l = match puV 2097151 (sptD l).2 with | none => -1 | some n => (sptD l).1 + (n : Int)) := Lib.hid rfl
  obtain ⟨R, hR⟩ : ∃ R, sptR l = R := ⟨_, rfl⟩
  rw [hR] at HS ⊢
  have HLN := Lib.hid hln
  have HW : Hid (s.size ≤ 140737488351232) := Lib.hid hs
  clear hV hl hR hln hs
  have D1 : Hid (∀ V, Calls Tryd.prog 63 #[.string s, .string ⟨#[92, 117, 123]⟩] V fun e w' => ∃ X, e = .returned (.tuple #[.string X, .bool false]) ∧ V = w') := Lib.hid fun V => by
    refine (C1.out V).mono ?_
    rintro e w' ⟨rfl, rfl⟩
    have hp : Lib.hasPrefix l [92, 117, 123] = false := Bool.eq_false_iff.2 h1
    refine ⟨⟨(Lib.trimPrefix l [92, 117, 123]).toArray⟩, ?_, rfl⟩
    show Ending.returned (.tuple #[.string ⟨(Lib.trimPrefix l [92, 117, 123]).toArray⟩, .bool (Lib.hasPrefix l [92, 117, 123])]) = _
    rw [hp]
  have hD : sptD l = (1114112, (l.drop 2).take 2) := by unfold sptD; rw [if_neg h1, if_pos h2]
  have D2 : Hid (∀ V, Calls Tryd.prog 63 #[.string s, .string ⟨#[92, 120]⟩] V fun e w' => e = .returned (.tuple #[.string ⟨(l.drop 2).toArray⟩, .bool true]) ∧ V = w') := Lib.hid fun V => by
    refine (C2.out V).mono ?_
    rintro e w' ⟨rfl, rfl⟩
    have hp : Lib.hasPrefix l [92, 120] = true := h2
    refine ⟨?_, rfl⟩
    show Ending.returned (.tuple #[.string ⟨(Lib.trimPrefix l [92, 120]).toArray⟩, .bool (Lib.hasPrefix l [92, 120])]) = _
    unfold Lib.trimPrefix
    rw [hp]; rfl
  obtain ⟨RS, hRS⟩ : ∃ RS : ByteArray, (⟨(l.drop 2).toArray⟩ : ByteArray) = RS := ⟨_, rfl⟩
  have hrl : RS.data.toList = l.drop 2 := by rw [← hRS]
  have hz : RS.size ≤ 140737488351232 := by rw [← hRS, size_mk, List.length_drop]; have := HLN.out; have := HW.out; omega
  rw [hRS] at D2
  rw [hD, ← hrl] at HS
  simp only at HS
  clear hD h1 h2 C1 C2 CC hRS hrl
  have hM : RS.data.toList.take (min 2 (RS.size : Int)).toNat = RS.data.toList.take 2 := by
    have hn : RS.data.toList.length = RS.size := (Lib.size_eq RS).symm
    by_cases h : 2 ≤ RS.size
    · rw [show (min 2 (RS.size : Int)).toNat = 2 by omega]
    · rw [show (min 2 (RS.size : Int)).toNat = RS.size by omega, List.take_of_length_le (by omega), List.take_of_length_le (by omega)]
  have D3 : Hid (∀ V, Below w.heap.size w V → Calls Tryd.prog 65 #[.string (RS.extract 0 (min 2 (RS.size : Int)).toNat), .int .i64 16, .int .i64 21] V fun e w' => PuOut 136 (fun _ => True) (puV 2097151 (RS.data.toList.take 2)) e ∧ Below V.heap.size V w') := Lib.hid fun V hb => by
    have := CP.out (RS.extract 0 (min 2 (RS.size : Int)).toNat) V (by rw [ByteArray.size_extract]; omega) hb
    rw [Lib.Pa.extract_upto_list, hM] at this
    exact this
  have hm0 : (0 : Int) ≤ min 2 (RS.size : Int) := by omega
  have hm1 : min 2 (RS.size : Int) ≤ RS.size := by omega
  clear CP hM
  go_enter Tryd.func50, Tryd.ntmps50
  go_wp2_with fail
  refine (D1.out _).mono ?_
  rintro e w1 ⟨X, rfl, rfl⟩
  go_wp2_with fail
  refine (D2.out _).mono ?_
  rintro e w1 ⟨rfl, rfl⟩
  go_wp2_with fail
  go_region
  all_goals
    go_wp2_with fail
    refine (D3.out _ (Below.refl _ _).drew).mono ?_
    rintro e w2 ⟨hp, hb2⟩
    have HB2 := Lib.hid ((Below.refl w.heap.size w).drew.trans (hb2.mono (Below.refl w.heap.size w).drew.size))
    clear hb2
    obtain ⟨o, ho⟩ : ∃ o, puV 2097151 (RS.data.toList.take 2) = o := ⟨_, rfl⟩
    have hp2 : PuOut 136 (fun _ => True) o e := by rw [← ho]; exact hp
    clear hp
    rw [ho] at HS
    cases o with
    | some n =>
      obtain rfl := hp2
      have hn : n ≤ 2097151 := BD.out n _ ho
      have HE : Hid (R = 1114112 + (n : Int)) := Lib.hid (by have := HS.out; simp only at this; omega)
      clear HS ho
      go_wp2
      go_ret
      exact ⟨by rw [HE.out]; (first | done | rfl), HB2.out⟩
    | none =>
      obtain ⟨z, k, rfl, _⟩ := hp2
      have HE : Hid (R = -1) := Lib.hid HS.out
      clear HS ho
      go_wp2
      go_ret
      exact ⟨by rw [HE.out]; (first | done | rfl), HB2.out⟩

set_option maxRecDepth 100000 in
set_option maxHeartbeats 4000000 in
theorem rspelt_3 (s : ByteArray) (w : World) (hs : s.size ≤ 140737488351232) (hV : SVar w) (h1 : ¬ [92, 117, 123].isPrefixOf s.data.toList = true) (h2 : ¬ [92, 120].isPrefixOf s.data.toList = true) :
    Calls Tryd.prog 50 #[.string s] w fun e w' => e = .returned (.int .i32 (sptR s.data.toList)) ∧ Below w.heap.size w w' := by
  obtain ⟨l, hl⟩ : ∃ l, s.data.toList = l := ⟨_, rfl⟩
  have hln : l.length = s.size := by rw [← hl]; exact (Lib.size_eq s).symm
  have C1 := Lib.hid (fun V => Tryd.strings_CutPrefix s ⟨#[92, 117, 123]⟩ V)
  have C2 := Lib.hid (fun V => Tryd.strings_CutPrefix s ⟨#[92, 120]⟩ V)
  rw [hl] at C1 C2 h1 h2 ⊢
  have CC := Lib.hid (fun (t : ByteArray) V (h : t.size ≤ 140737488351232) => cutB_any t V h)
  have CP := Lib.hid (fun (t : ByteArray) V (h : t.size ≤ 140737488351232) (hb : Below w.heap.size w V) => pu21_any t V h (hV.below hb))
  have BD := Lib.hid (fun (n : Nat) (q : List UInt8) (h : puV 2097151 q = some n) => puV_bd h)
  have HS : Hid (sptR l = match puV 2097151 (sptD l).2 with | none => -1 | some n => (sptD l).1 + (n : Int)) := Lib.hid rfl
  obtain ⟨R, hR⟩ : ∃ R, sptR l = R := ⟨_, rfl⟩
  rw [hR] at HS ⊢
  have HLN := Lib.hid hln
  have HW : Hid (s.size ≤ 140737488351232) := Lib.hid hs
  clear hV hl hR hln hs
  have D1 : Hid (∀ V, Calls Tryd.prog 63 #[.string s, .string ⟨#[92, 117, 123]⟩] V fun e w' => ∃ X, e = .returned (.tuple #[.string X, .bool false]) ∧ V = w') := Lib.hid fun V => by
    refine (C1.out V).mono ?_
    rintro e w' ⟨rfl, rfl⟩
    have hp : Lib.hasPrefix l [92, 117, 123] = false := Bool.eq_false_iff.2 h1
    refine ⟨⟨(Lib.trimPrefix l [92, 117, 123]).toArray⟩, ?_, rfl⟩
    show Ending.returned (.tuple #[.string ⟨(Lib.trimPrefix l [92, 117, 123]).toArray⟩, .bool (Lib.hasPrefix l [92, 117, 123])]) = _
    rw [hp]
  have hD : sptD l = (0, []) := by unfold sptD; rw [if_neg h1, if_neg h2]
  have D2 : Hid (∀ V, Calls Tryd.prog 63 #[.string s, .string ⟨#[92, 120]⟩] V fun e w' => ∃ X, e = .returned (.tuple #[.string X, .bool false]) ∧ V = w') := Lib.hid fun V => by
    refine (C2.out V).mono ?_
    rintro e w' ⟨rfl, rfl⟩
    have hp : Lib.hasPrefix l [92, 120] = false := Bool.eq_false_iff.2 h2
    refine ⟨⟨(Lib.trimPrefix l [92, 120]).toArray⟩, ?_, rfl⟩
    show Ending.returned (.tuple #[.string ⟨(Lib.trimPrefix l [92, 120]).toArray⟩, .bool (Lib.hasPrefix l [92, 120])]) = _
    rw [hp]
  have D3 := Lib.hid (fun V => CP.out ⟨#[]⟩ V (by show 0 ≤ _; omega))
  rw [hD] at HS
  simp only at HS
  clear hD h1 h2 C1 C2 CC CP
  go_enter Tryd.func50, Tryd.ntmps50
  go_wp2_with fail
  refine (D1.out _).mono ?_
  rintro e w1 ⟨X, rfl, rfl⟩
  go_wp2_with fail
  refine (D2.out _).mono ?_
  rintro e w1 ⟨X2, rfl, rfl⟩
  go_wp2_with fail
  refine (D3.out _ (Below.refl _ _)).mono ?_
  rintro e w2 ⟨hp, hb2⟩
  have HB2 := Lib.hid ((Below.refl w.heap.size w).trans (hb2.mono (Below.refl w.heap.size w).size))
  clear hb2
  obtain ⟨o, ho⟩ : ∃ o, puV 2097151 [] = o := ⟨_, rfl⟩
  have hp2 : PuOut 136 (fun _ => True) o e := by rw [← ho]; exact hp
  clear hp
  rw [ho] at HS
  cases o with
  | some n =>
    obtain rfl := hp2
    have hn : n ≤ 2097151 := BD.out n _ ho
    have HE : Hid (R = (n : Int)) := Lib.hid (by have := HS.out; simp only at this; omega)
    clear HS ho
    go_wp2
    go_ret
    exact ⟨by rw [HE.out]; (first | done | rfl), HB2.out⟩
  | none =>
    obtain ⟨z, k, rfl, _⟩ := hp2
    have HE : Hid (R = -1) := Lib.hid HS.out
    clear HS ho
    go_wp2
    go_ret
    exact ⟨by rw [HE.out]; (first | done | rfl), HB2.out⟩

theorem rspelt_any (s : ByteArray) (w : World) (hs : s.size ≤ 140737488351232) (hV : SVar w) :
    Calls Tryd.prog 50 #[.string s] w fun e w' => e = .returned (.int .i32 (sptR s.data.toList)) ∧ Below w.heap.size w w' := by
  by_cases h1 : [92, 117, 123].isPrefixOf s.data.toList = true
  · exact rspelt_1 s w hs hV h1
  · by_cases h2 : [92, 120].isPrefixOf s.data.toList = true
    · exact rspelt_2 s w hs hV h1 h2
    · exact rspelt_3 s w hs hV h1 h2
end Go.Proofs.YtmcmdijfdhlnaaaDoor
/- parsedPoint: the point that is written at a byte. -/
namespace Go.Proofs.YtmcmdijfdhlnaaaDoor
open Go Go.RowKit Go.Kt Go.Kt.Rg

/-- What Parse reads besides its text. -/
def PEnv (w : World) : Prop := REnv w ∧ SVar w
theorem PEnv.below {A B : World} (h : PEnv A) (hb : Below A.heap.size A B) : PEnv B := ⟨h.1.below hb, h.2.below hb⟩
abbrev faultV (no at_ : Int) : Value := .iface 62 (.agg #[.int .i64 no, .int .i64 0, .int .i64 at_])
/-- The answer of parsedPoint. -/
def PtOut (l : List UInt8) (p : Nat) (e : Ending) : Prop :=
  match ptAt (l.drop p) with
  | some (n, k) => e = .returned (.tuple #[.int .i64 n, .int .i64 ((p + k : Nat) : Int), .nilIface])
  | none => e = .returned (.tuple #[.int .i64 0, .int .i64 0, faultV 9 (p : Nat)])

set_option maxRecDepth 100000 in
set_option maxHeartbeats 2000000 in
theorem rpp_any (s : ByteArray) (p : Nat) (w : World) (hp : p ≤ s.size) (hs : s.size ≤ 140737488351232) (hE : PEnv w) :
    Calls Tryd.prog 43 #[.string s, .int .i64 p] w fun e w' => PtOut s.data.toList p e ∧ Below w.heap.size w w' := by
  have hd : (s.extract p s.size).data.toList = s.data.toList.drop p := by rw [Lib.Pa.extract_from]
  have hz : (s.extract p s.size).size ≤ 140737488351232 := by rw [ByteArray.size_extract]; omega
  have CS := Lib.hid (rspelt_any (s.extract p s.size) w hz hE.2)
  have CH := Lib.hid (fun (t : ByteArray) V => Tryd.strings_HasPrefix (s.extract p s.size) t V)
  obtain ⟨l, hl⟩ : ∃ l, s.data.toList.drop p = l := ⟨_, rfl⟩
  rw [hd, hl] at CS
  simp only [hd, hl] at CH
  have HO : Hid (∀ e, PtOut s.data.toList p e ↔ match ptAt l with
    | some (n, k) => e = .returned (.tuple #[.int .i64 n, .int .i64 ((p + k : Nat) : Int), .nilIface])
    | none => e = .returned (.tuple #[.int .i64 0, .int .i64 0, faultV 9 (p : Nat)])) := Lib.hid fun e => by rw [← hl]; rfl
  obtain ⟨r, hr⟩ : ∃ r, sptR l = r := ⟨_, rfl⟩
  have hrb := sptR_bd l
  rw [hr] at CS hrb
  have CN := Lib.hid (fun V (hb : Below w.heap.size w V) => rnumber_any r V (hE.1.1.next hb) ⟨by omega, by omega⟩)
  obtain ⟨n, t, hn⟩ : ∃ n t, numB r = (n, t) := ⟨_, _, rfl⟩
  have HP : Hid (ptAt l = if t && (printP r).isPrefixOf l then some (n, (printP r).length) else none) := Lib.hid (by unfold ptAt; rw [hr, hn])
  rw [hn] at CN
  simp only at CN
  have hpl : (p : Int) ≤ s.size := by omega
  have hp0 : (0 : Int) ≤ p := by omega
  have hp1 : (p : Int) ≤ 140737488351232 := by omega
  cases t with
  | false =>
    have HF : Hid (PtOut s.data.toList p (.returned (.tuple #[.int .i64 0, .int .i64 0, faultV 9 (p : Nat)]))) := Lib.hid (by rw [HO.out, HP.out]; simp)
    clear hd hz hl hr hE hn hs hp HO HP CH
    go_enter Tryd.func43, Tryd.ntmps43
    go_wp2_with fail
    refine CS.out.mono ?_
    rintro e w1 ⟨rfl, hb⟩
    have HB := Lib.hid hb
    clear hb
    go_wp2_with fail
    refine (CN.out _ HB.out).mono ?_
    rintro e w2 ⟨rfl, hb2⟩
    have HB2 := Lib.hid (HB.out.trans (hb2.mono HB.out.size))
    clear hb2
    go_wp2_with fail
    go_quiet (fail)
    go_wp2
    go_ret3
    exact ⟨HF.out, below_drewN HB2.out _⟩
  | true =>
    have hnt := num_true (r := r) (by rw [hn])
    have CR := Lib.hid (fun V (hb : Below w.heap.size w V) => rprinted_any r V (hE.1.below hb).2.1 ⟨hnt.2.1, hnt.2.2.1⟩)
    have hpr := printP_len r
    obtain ⟨S, hS⟩ : ∃ S : ByteArray, (⟨(printP r).toArray⟩ : ByteArray) = S := ⟨_, rfl⟩
    have hSd : S.data.toList = printP r := by rw [← hS]
    have hSz : S.size = (printP r).length := by rw [← hS]; exact size_mk _
    rw [hS] at CR
    have CH2 := Lib.hid (fun V => CH.out S V)
    simp only [hSd] at CH2
    obtain ⟨b, hbb⟩ : ∃ b, Lib.hasPrefix l (printP r) = b := ⟨_, rfl⟩
    simp only [hbb] at CH2
    obtain ⟨m, hm⟩ : ∃ m, (printP r).length = m := ⟨_, rfl⟩
    rw [hm] at hSz hpr
    have HP2 : Hid (ptAt l = if b then some (n, m) else none) := Lib.hid (by rw [HP.out, Bool.true_and]; rw [show (printP r).isPrefixOf l = b from hbb, hm])
    have HZ : Hid (S.size = m) := Lib.hid hSz
    have hSz2 : S.size ≤ 13 := by omega
    cases b with
    | false =>
      have HF : Hid (PtOut s.data.toList p (.returned (.tuple #[.int .i64 0, .int .i64 0, faultV 9 (p : Nat)]))) := Lib.hid (by rw [HO.out, HP2.out]; simp)
      clear hd hz hl hr hE hn hs hp HO HP HP2 CH hnt hS hSd hbb hm hSz
      go_enter Tryd.func43, Tryd.ntmps43
      go_wp2_with fail
      refine CS.out.mono ?_
      rintro e w1 ⟨rfl, hb⟩
      have HB := Lib.hid hb
      clear hb
      go_wp2_with fail
      refine (CN.out _ HB.out).mono ?_
      rintro e w2 ⟨rfl, hb2⟩
      have HB2 := Lib.hid (HB.out.trans (hb2.mono HB.out.size))
      clear hb2
      go_wp2_with fail
      go_region_with (first
        | (go_at_call 32; refine (CR.out _ HB2.out.drew).mono ?_; rintro e w3 ⟨rfl, hb3⟩; have HB3 := Lib.hid (HB2.out.drew.trans (hb3.mono HB2.out.drew.size)); clear hb3)
        | (go_at_call 27; refine (CH2.out _).mono ?_; rintro e w4 ⟨rfl, rfl⟩))
      all_goals
        go_wp2
        go_ret3
        exact ⟨HF.out, HB3.out⟩
    | true =>
      have HF : Hid (PtOut s.data.toList p (.returned (.tuple #[.int .i64 n, .int .i64 ((p : Int) + (S.size : Nat)), .nilIface]))) := Lib.hid (by rw [HO.out, HP2.out]; simp only [if_true]; rw [HZ.out]; simp)
      clear hd hz hl hr hE hn hs hp HO HP HP2 CH hnt hS hSd hbb hm hSz
      go_enter Tryd.func43, Tryd.ntmps43
      go_wp2_with fail
      refine CS.out.mono ?_
      rintro e w1 ⟨rfl, hb⟩
      have HB := Lib.hid hb
      clear hb
      go_wp2_with fail
      refine (CN.out _ HB.out).mono ?_
      rintro e w2 ⟨rfl, hb2⟩
      have HB2 := Lib.hid (HB.out.trans (hb2.mono HB.out.size))
      clear hb2
      go_wp2_with fail
      go_region_with (first
        | (go_at_call 32; refine (CR.out _ HB2.out.drew).mono ?_; rintro e w3 ⟨rfl, hb3⟩; have HB3 := Lib.hid (HB2.out.drew.trans (hb3.mono HB2.out.drew.size)); clear hb3)
        | (go_at_call 27; refine (CH2.out _).mono ?_; rintro e w4 ⟨rfl, rfl⟩))
      all_goals
        go_wp2_with fail
        refine (CR.out _ HB3.out).mono ?_
        rintro e w5 ⟨rfl, hb5⟩
        have HB5 := Lib.hid (HB3.out.trans (hb5.mono HB3.out.size))
        clear hb5
        go_wp2
        go_ret3
        exact ⟨HF.out, HB5.out⟩
end Go.Proofs.YtmcmdijfdhlnaaaDoor
/- What the listed variables of RangesForms' and RangesBack's rows give the walks, and the world that their witnesses start in. -/
namespace Go.Proofs.YtmcmdijfdhlnaaaDoor
open Go.Lib Go.Shelf Go.Kt.Bits
set_option maxRecDepth 100000

noncomputable def theLaid6 : List (String × DataW Unit) := [("math/bits.deBruijn32tab", Rows.laid_math_bits_deBruijn32tab), ("math/bits.deBruijn64tab", Rows.laid_math_bits_deBruijn64tab), ("internal/strconv.uint64pow10", Rows.laid_internal_strconv_uint64pow10), ("strconv.ErrRange", Rows.laid_strconv_ErrRange), ("strconv.ErrSyntax", Rows.laid_strconv_ErrSyntax), ("glossary/ranges.parts", Rows.laid_glossary_ranges_parts)]

theorem trod_iface {H : Type} {enc : TypeId × Value → H} {P : Program} {w : World} {base : Nat} {sp : Nat → Bool} {held : Bool} {fuel : Nat} {t : TypeId} {cs : List Value} {T : String} {D : DataW H} {q : List MemPlace} {ms : Array (String × TypeId)}
    (ht : P.underlying t = some (.interface ms)) (h : DataW.trod enc P w base sp held fuel t cs = some (.iface T D, q)) : ∃ u v, cs = [.iface u v] := by
  cases fuel with
  | zero => simp [DataW.trod] at h
  | succ n =>
    unfold DataW.trod at h
    rw [ht] at h
    split at h <;> simp_all
theorem iface_of_reads {W : World} {nm : String} {g : Nat} {T : String} {D : DataW Unit} (hn : Tryd.prog.globalNamed nm = some g) (ht : (Tryd.prog.globals[g]?).map (·.type) = some 33) (h : VarReads Tryd.prog W nm (.iface T D)) : ∃ t p, W.cell? ⟨g, 0, none⟩ = some (.iface t p) := by
  obtain ⟨g', t, cs, fuel, p, hg, hty, hvar, hd⟩ := h
  obtain rfl := Option.some.inj (hn.symm.trans hg)
  obtain rfl := Option.some.inj (ht.symm.trans hty)
  obtain ⟨u, v, e⟩ := trod_iface Tryd.underlying33 hd
  refine ⟨u, v, ?_⟩
  rw [World.var?_cell hg hvar 0, ← Array.getElem?_toList, e]
  rfl
theorem of_laid6 {W : World} (h : laidMetH Tryd.prog theLaid6 W) : PEnv W := by
  have h' : laidMet Tryd.prog theLaid6 W := by rw [MakeChecks.laidMetH_plain _ _ _ (by kernel_rfl)] at h; exact h
  have hb := btab_of_reads (bruijn_eq ▸ laidMet.reads h' (.tail _ (.head _)))
  have hp := ptab_of_reads (parts_eq ▸ laidMet.reads h' (.tail _ (.tail _ (.tail _ (.tail _ (.tail _ (.head _)))))))
  have e1 := laidMet.reads h' (.tail _ (.tail _ (.tail _ (.head _))))
  have e2 := laidMet.reads h' (.tail _ (.tail _ (.tail _ (.tail _ (.head _)))))
  exact ⟨⟨hp, hb, Go.Kt.lt_of_cell (hb 0 (by decide))⟩, iface_of_reads (by kernel_rfl) (by kernel_rfl) e2, iface_of_reads (by kernel_rfl) (by kernel_rfl) e1⟩

/-- The witness's world. -/
noncomputable def world6 (os : Os) : World := World.laidAll Tryd.prog os theLaid6
theorem world6_os (os : Os) : (world6 os).os = os := World.laidAll_os _ _ _
theorem laid_met6 (os : Os) (args : Array Value) : laidMetH Tryd.prog theLaid6 ((world6 os).forCall (fun _ _ => 0) ⟨#[], args, []⟩).memory := by
  rw [MakeChecks.laidMetH_plain _ _ _ (by kernel_rfl)]
  exact laidMet_laidAll _ (by kernel_rfl) (by kernel_rfl)
end Go.Proofs.YtmcmdijfdhlnaaaDoor
/- ranges.Of. -/
namespace Go.Proofs.YtmcmdijfdhlnaaaDoor
open Go Go.RowKit Go.Kt Go.Kt.Rg

/-- The memory of n empty runs. -/
theorem mk_zeros (W : World) (n : Nat) (hn : 16 * n ≤ 281474976710656) :
    ∃ w2, (Instr.makeSlice 47 (.int .i64 (n : Int)) (.int .i64 (n : Int))).run Tryd.prog W = .ok (.slice (some ⟨W.heap.size, 0, none⟩) n n) w2 ∧
      OwnS (fun b => W.heap.size ≤ b) 51 2 (.slice (some ⟨W.heap.size, 0, none⟩) n n) n (encR (List.replicate n (0, 0))) w2 ∧ Below W.heap.size W w2 := by
  obtain ⟨i, hi, hz, hs1, hbb1⟩ := info_parts tinfoRun
  have hr := run_make (P := Tryd.prog) W 47 51 i _ Tryd.underlying47 hi hz .i64 .i64 n n (by omega) (Int.le_refl _) (by rw [hbb1]; omega) (by omega)
  simp only [Int.toNat_natCast] at hr
  rw [hs1] at hr
  refine ⟨_, hr, ⟨⟨by rw [encR_len, List.length_replicate], .inr ⟨W.heap.size, n, _, rfl, Nat.zero_le _, heap_alloc_new W _, Nat.le_refl _, by unfold maxLen; omega, by simp [madeCells], ?_⟩⟩, fun g hg => by cases hg; exact Nat.le_refl _⟩, (Below.refl _ W).alloc (Nat.le_refl _) _⟩
  apply List.ext_getElem?
  intro j
  have hz2 : ∀ (m : Nat), (encR (List.replicate m (0, 0)))[j]? = if j < m * 2 then some (.int .i64 0) else none := by
    intro m
    split
    · rename_i h
      have e := encR_get (List.replicate m (0, 0)) (j / 2) (0, 0) (by rw [List.getElem?_replicate, if_pos (by omega)])
      rcases (by omega : j % 2 = 0 ∨ j % 2 = 1) with k | k
      · rw [show j / 2 * 2 = j by omega] at e; exact e.1
      · rw [show j / 2 * 2 + 1 = j by omega] at e; exact e.2
    · rename_i h
      exact List.getElem?_eq_none (by rw [encR_len, List.length_replicate]; omega)
  rw [hz2]
  by_cases hj : j < n * 2
  · rw [if_pos hj, List.getElem?_take, if_pos hj]
    simp only [madeCells, Value.cells]
    rw [Array.getElem?_toList]
    simp [hj]
    rcases (by omega : j % 2 = 0 ∨ j % 2 = 1) with k | k <;> simp [k]
  · rw [if_neg hj, List.getElem?_take, if_neg hj]

theorem encR_put (l : List Run) (x y : Run) (t : List Run) : ((encR (l ++ x :: t)).set (l.length * 2) (.int .i64 y.1)).set (l.length * 2 + 1) (.int .i64 y.2) = encR (l ++ y :: t) := by
  rw [encR_append, encR_append, List.set_append_right _ _ (by rw [encR_len]; omega), encR_len, Nat.sub_self, List.set_append_right _ _ (by rw [encR_len]; omega), encR_len]
  rw [show l.length * 2 + 1 - l.length * 2 = 1 by omega]
  rfl

/-- The answer of Of. -/
def OfOut (l : List (Int × Int)) (w : World) (e : Ending) (w' : World) : Prop :=
  ((∃ k x, l[k]? = some x ∧ badR x ≠ 0 ∧ (∀ j y, j < k → l[j]? = some y → badR y = 0) ∧ e = .returned (.tuple #[.pointer none, .iface 62 (.agg #[.int .i64 (badR x), .int .i64 0, .int .i64 (k : Nat)])])) ∨
   ((∀ x ∈ l, badR x = 0) ∧ ∃ b, e = .returned (.tuple #[ptrV b, .nilIface]) ∧ SetAt (canonOf (numsR l)) b w')) ∧ Below w.heap.size w w'
theorem good_fit {l : List (Int × Int)} (h : ∀ x ∈ l, badR x = 0) : Fit (numsR l) := by
  intro y hy
  simp only [numsR, List.mem_map] at hy
  obtain ⟨x, hx, rfl⟩ := hy
  have h1 := h x hx
  have b1 := numB_bd x.1
  have b2 := numB_bd x.2
  unfold badR at h1
  split at h1
  · omega
  · split at h1
    · omega
    · simp only; omega

set_option maxRecDepth 100000 in
set_option maxHeartbeats 2000000 in
theorem rof_any (l : List (Int × Int)) (v : Value) (w : World) (h : SpG w v l) (hT : PTab w) (hl : l.length ≤ 2199023255552) (hw : ∀ x ∈ l, (-2147483648 ≤ x.1 ∧ x.1 ≤ 2147483647) ∧ (-2147483648 ≤ x.2 ∧ x.2 ≤ 2147483647)) :
    Calls Tryd.prog 18 #[v] w (OfOut l w) := by
  have H := Lib.hid h
  obtain ⟨ao, cap, rfl, h2⟩ := h
  have H2 := Lib.hid h2
  have HT := Lib.hid hT
  have HW := Lib.hid hw
  obtain ⟨n, hn⟩ : ∃ n, l.length = n := ⟨_, rfl⟩
  rw [hn] at hl H ⊢
  have HN := Lib.hid hn
  obtain ⟨w1, hrun, hown1, hb1⟩ := mk_zeros w n (by omega)
  have CN := Lib.hid (fun (r : Int) (V : World) (hr : -2147483648 ≤ r ∧ r ≤ 2147483647) (hb : Below w.heap.size w V) => rnumber_any r V (HT.out.next hb) hr)
  have O1 := Lib.hid (And.intro hown1 hb1)
  have FT : Hid (∀ (x : Int × Int) (k : Nat) (V : World), l[k]? = some x → badR x ≠ 0 → (∀ j y, j < k → l[j]? = some y → badR y = 0) → Below w.heap.size w V → OfOut l w (.returned (.tuple #[.pointer none, .iface 62 (.agg #[.int .i64 (badR x), .int .i64 0, .int .i64 (k : Nat)])])) V) :=
    Lib.hid fun x k V h1 h2 h3 h4 => ⟨.inl ⟨k, x, h1, h2, h3, rfl⟩, h4⟩
  clear h2 hT hw hn hown1 hb1
  go_enter Tryd.func18, Tryd.ntmps18
  go_wp2
  go_loopw [16] (fun x wr => ∃ k : Nat, x = .int .i64 k ∧ k ≤ n ∧ (∀ j y, j < k → l[j]? = some y → badR y = 0) ∧ OwnS (fun b => w.heap.size ≤ b) 51 2 (.slice (some ⟨w.heap.size, 0, none⟩) n n) n (encR (numsR (l.take k) ++ List.replicate (n - k) (0, 0))) wr ∧ Below w.heap.size w wr) (fun x _ => n - (RowKit.intOf x).toNat)
  case atStart => exact ⟨0, rfl, by omega, fun j y hj => by omega, by have := O1.out.1; simpa [numsR] using this, O1.out.2⟩
  case round =>
    obtain ⟨k, rfl, hk, hgood, hown, hb⟩ := hrel
    have HI := Lib.hid (And.intro hgood (And.intro hown hb))
    have hbs := hb.size
    clear hgood hown hb hrun
    by_cases hlt : k < n
    · have hlt' : (k : Int) < n := by omega
      obtain ⟨x, hx⟩ : ∃ x, l[k]? = some x := ⟨_, List.getElem?_eq_getElem (by rw [HN.out]; exact hlt)⟩
      obtain ⟨g, off, rfl, r1, r2⟩ : ∃ g off, ao = some ⟨g, off, none⟩ ∧ wr.cell? ⟨g, off + k * 2, none⟩ = some (.int .i32 x.1) ∧ wr.cell? ⟨g, off + k * 2 + 1, none⟩ = some (.int .i32 x.2) := by
        rcases H2.out with h | ⟨g, off, e, h⟩
        · subst h; simp at hx
        · exact ⟨g, off, e, (HI.out.2.2.cell (lt_of_cell (h k x hx).1)).trans (h k x hx).1, (HI.out.2.2.cell (lt_of_cell (h k x hx).2)).trans (h k x hx).2⟩
      have hxw := HW.out x (List.mem_of_getElem? hx)
      have HX := Lib.hid hx
      have F := Lib.hid (fun V => FT.out x k V hx)
      have hbad : Hid (badR x = if (numB x.1).2 = false ∨ (numB x.2).2 = false then 8 else if (numB x.2).1 < (numB x.1).1 then 1 else 0) := Lib.hid rfl
      have hnx : Hid (numsR (l.take (k + 1)) = numsR (l.take k) ++ [((numB x.1).1, (numB x.2).1 + 1)]) := Lib.hid (by
        rw [List.take_add_one, hx]; simp [numsR])
      obtain ⟨x1, x2⟩ := x
      simp only at r1 r2 hxw hbad hnx
      have C1 := Lib.hid (fun V => CN.out x1 V hxw.1)
      have C2 := Lib.hid (fun V => CN.out x2 V hxw.2)
      have q1 := numB_bd x1
      have q2 := numB_bd x2
      generalize numB x1 = R1 at *
      generalize numB x2 = R2 at *
      obtain ⟨m1, t1⟩ := R1
      obtain ⟨m2, t2⟩ := R2
      simp only at hbad hnx q1 q2 C1 C2
      unfold allN at q1 q2
      have HA : Hid (Below w.heap.size w (wr.alloc (.cells #[.int .i32 x1, .int .i32 x2] 40))) := Lib.hid (HI.out.2.2.alloc hbs _)
      clear hx hxw
      go_wp2_with fail
      refine (C1.out _ HA.out).mono ?_
      rintro e v1 ⟨rfl, hb1⟩
      have k1 := (hb1.cell (by simp)).trans (Lib.cell_of_heap (World.alloc_heap_new wr (.cells #[.int .i32 x1, .int .i32 x2] 40)) 1)
      simp at k1
      have hr1 : Below wr.heap.size wr v1 := ((Below.refl _ wr).alloc (Nat.le_refl _) _).trans (hb1.mono (by simp))
      have hk1 : wr.heap.size < v1.heap.size := by have := hb1.size; simp at this; omega
      have HB1 := Lib.hid hr1
      clear hb1 hr1
      go_wp2_with fail
      refine (C2.out _ (HI.out.2.2.trans (HB1.out.mono hbs))).mono ?_
      rintro e v2 ⟨rfl, hb2⟩
      have hr2 : Below wr.heap.size wr v2 := HB1.out.trans (hb2.mono HB1.out.size)
      have hB2 := HI.out.2.2.trans (hr2.mono hbs)
      have hown2 : OwnS (fun b => w.heap.size ≤ b) 51 2 (.slice (some ⟨w.heap.size, 0, none⟩) n n) n (encR (numsR (l.take k) ++ List.replicate (n - k) (0, 0))) v2 :=
        HI.out.2.1.keep (X := fun _ => False) (.of_all hr2) (fun _ h => h.elim)
      have HB2 := Lib.hid (And.intro hB2 hown2)
      clear hb2 hr2 hB2 hown2 k1
      cases t1 with
      | false =>
        have F8 := Lib.hid (F.out v2 (by rw [hbad.out]; simp) HI.out.1 HB2.out.1)
        rw [show badR (x1, x2) = 8 by rw [hbad.out]; simp] at F8
        go_wp2_with fail
        go_ret2
        exact F8.out
      | true =>
        cases t2 with
        | false =>
          have F8 := Lib.hid (F.out v2 (by rw [hbad.out]; simp) HI.out.1 HB2.out.1)
          rw [show badR (x1, x2) = 8 by rw [hbad.out]; simp] at F8
          go_wp2_with fail
          go_ret2
          exact F8.out
        | true =>
          by_cases hlo : m2 < m1
          · have e1 : badR (x1, x2) = 1 := by rw [hbad.out]; simp [hlo]
            have F8 := Lib.hid (F.out v2 (by rw [e1]; decide) HI.out.1 HB2.out.1)
            rw [e1] at F8
            clear e1
            go_wp2_with fail
            go_ret2
            exact F8.out
          · have e0 : Hid (badR (x1, x2) = 0) := Lib.hid (by rw [hbad.out]; simp [hlo])
            have hf1 : v2.frozen? ⟨w.heap.size, k * 2, none⟩ = false := HB2.out.2.1.frozenAt _
            have hf2 : v2.frozen? ⟨w.heap.size, k * 2 + 1, none⟩ = false := HB2.out.2.1.frozenAt _
            have htk : (numsR (l.take k)).length = k := by simp [numsR, HN.out]; omega
            have hrep : List.replicate (n - k) ((0 : Int), (0 : Int)) = (0, 0) :: List.replicate (n - (k + 1)) (0, 0) := by
              rw [show n - k = (n - (k + 1)) + 1 by omega, List.replicate_succ]
            have hpt := encR_put (numsR (l.take k)) (0, 0) (m1, m2 + 1) (List.replicate (n - (k + 1)) (0, 0))
            rw [htk, ← hrep] at hpt
            have hS2 := slr_of_own HB2.out.2 (by rw [List.length_append, htk, List.length_replicate]; omega)
            obtain ⟨g', eg, cc1, cc2⟩ := hS2.at_ (i := k) (x := (0, 0)) (by rw [List.getElem?_append_right (by rw [htk]; exact Nat.le_refl _), htk, Nat.sub_self, hrep]; rfl)
            obtain rfl : w.heap.size = g' := by injection eg with eg; injection eg
            simp only at cc1 cc2
            clear eg hS2
            have st1 := HB2.out.2.1.stored (k * 2) (.int .i64 m1)
            have st2 := st1.1.stored (k * 2 + 1) (.int .i64 (m2 + 1))
            rw [hpt] at st2
            have HS : Hid (OwnS (fun b => w.heap.size ≤ b) 51 2 (.slice (some ⟨w.heap.size, 0, none⟩) n n) n (encR (numsR (l.take (k + 1)) ++ List.replicate (n - (k + 1)) (0, 0))) ((v2.setCell ⟨w.heap.size, k * 2, none⟩ (.int .i64 m1)).setCell ⟨w.heap.size, k * 2 + 1, none⟩ (.int .i64 (m2 + 1)))) :=
              Lib.hid ⟨by rw [hnx.out, List.append_assoc]; exact st2.1, HB2.out.2.2⟩
            have HB3 := Lib.hid ((HB2.out.1.setCell (p := ⟨w.heap.size, k * 2, none⟩) (Nat.le_refl _) (.int .i64 m1)).setCell (p := ⟨w.heap.size, k * 2 + 1, none⟩) (Nat.le_refl _) (.int .i64 (m2 + 1)))
            clear st1 st2 hpt htk hrep
            go_wp2_with fail
            go_roundw
            case rel => exact ⟨k + 1, by go_num, by omega, fun j y hj hy => by
              rcases Nat.lt_or_ge j k with h | h
              · exact HI.out.1 j y h hy
              · obtain rfl : j = k := by omega
                rw [HX.out] at hy; cases hy; exact e0.out, HS.out, HB3.out⟩
            case measure => simp [RowKit.intOf]; omega
    · have hlt' : ¬ (k : Int) < n := by omega
      obtain rfl : k = n := by omega
      have hall : ∀ x ∈ l, badR x = 0 := fun x hx => by
        obtain ⟨j, hj⟩ := List.mem_iff_getElem?.1 hx
        exact HI.out.1 j x (by have := (List.getElem?_eq_some_iff.1 hj).1; rw [HN.out] at this; exact this) hj
      have ho : OwnS (fun b => w.heap.size ≤ b) 51 2 (.slice (some ⟨w.heap.size, 0, none⟩) k k) k (encR (numsR l)) wr := by
        have := HI.out.2.1
        rw [Nat.sub_self, List.replicate_zero, List.append_nil, ← HN.out, List.take_length] at this
        rw [← HN.out]; exact this
      have CM := Lib.hid (rmelted_any (numsR l) (some ⟨w.heap.size, 0, none⟩) k k wr ho (by simp [numsR, HN.out]) (by omega) (good_fit hall))
      have HO := Lib.hid (And.intro hall ho)
      clear hall ho
      go_wp2_with fail
      refine CM.out.mono ?_
      rintro e v1 ⟨ap, m, cp, rfl, hm, hown, hkp⟩
      have hS := slr_of_own hown hm
      have hbb := HI.out.2.2.trans (hkp.below hbs fun b h => HO.out.2.2 b h)
      have HF : Hid (OfOut l w (.returned (.tuple #[.pointer (some ⟨v1.heap.size, 0, none⟩), .nilIface])) (v1.alloc (.cells #[.slice ap m cp] 53))) := Lib.hid ⟨.inr ⟨HO.out.1, v1.heap.size, rfl, set_box hS⟩, hbb.alloc hbb.size _⟩
      clear hS hbb hm hown hkp
      go_wp2_with fail
      go_ret2
      exact HF.out
end Go.Proofs.YtmcmdijfdhlnaaaDoor
/- The law's own: some. -/
namespace Go.Proofs.YtmcmdijfdhlnaaaDoor
open Go Go.RowKit Go.Kt Go.Kt.Rg

/-- The spans' bounds are runes. -/
def Runy (l : List (Int × Int)) : Prop := ∀ x ∈ l, (-2147483648 ≤ x.1 ∧ x.1 ≤ 2147483647) ∧ (-2147483648 ≤ x.2 ∧ x.2 ≤ 2147483647)

/-- A slice of spans, wherever it lies. -/
def SpA (W : World) (v : Value) (l : List (Int × Int)) : Prop :=
  ∃ ao cap, v = .slice ao l.length cap ∧ (l = [] ∨ ∃ a : Addr, ao = some a ∧ ∀ (i : Nat) (x : Int × Int), l[i]? = some x → W.cell? (a.add (i * 2)) = some (.int .i32 x.1) ∧ W.cell? (a.add (i * 2 + 1)) = some (.int .i32 x.2))
theorem SpA.below {A B : World} {v : Value} {l : List (Int × Int)} (h : SpA A v l) (hb : Below A.heap.size A B) : SpA B v l := by
  obtain ⟨ao, cap, rfl, h⟩ := h
  refine ⟨ao, cap, rfl, ?_⟩
  rcases h with h | ⟨a, rfl, h⟩
  · exact .inl h
  · exact .inr ⟨a, rfl, fun i x hx => ⟨(hb.cell (lt_of_cell (h i x hx).1)).trans (h i x hx).1, (hb.cell (lt_of_cell (h i x hx).2)).trans (h i x hx).2⟩⟩
theorem add_one_more (a : Addr) (i : Nat) : (a.add i).add 1 = a.add (i + 1) := by
  unfold Addr.add
  by_cases h : i = 0
  · subst h; simp
  · rw [if_neg h, if_neg (by omega), if_neg (by omega)]; simp [Nat.add_assoc]

set_option maxRecDepth 100000 in
set_option maxHeartbeats 2000000 in
theorem some_any (l : List (Int × Int)) (v : Value) (w : World) (h : SpA w v l) (hT : PTab w) (hl : l.length ≤ 9223372036854775807) (hr : Runy l) :
    Calls Tryd.prog 6 #[v] w fun e w' => ∃ s b, e = .returned (ptrV b) ∧ SetAt s b w' ∧ Canon s ∧ Below w.heap.size w w' := by
  obtain ⟨a1, c1, rfl, h1⟩ := h
  obtain ⟨n, hn⟩ : ∃ n, l.length = n := ⟨_, rfl⟩
  rw [hn] at hl
  have HN := Lib.hid hn
  have H1 := Lib.hid h1
  have HT := Lib.hid hT
  have C0 : Hid (Calls Tryd.prog 18 #[.slice none 0 0] w fun e w' => ∃ b, e = .returned (.tuple #[ptrV b, .nilIface]) ∧ SetAt (canonOf []) b w' ∧ Below w.heap.size w w') := Lib.hid <| by
    refine (rof_any [] (.slice none 0 0) w ⟨none, 0, rfl, .inl rfl⟩ hT (by simp) (by simp)).mono ?_
    rintro e w' ⟨(⟨k, x, hx, _⟩ | ⟨_, b, he, hs⟩), hb⟩
    · simp at hx
    · exact ⟨b, he, hs, hb⟩
  have CO : Hid (∀ (V : World) (x : Int × Int), x ∈ l → Below w.heap.size w V → Calls Tryd.prog 18 #[.slice (some ⟨V.heap.size, 0, none⟩) 1 1] (V.alloc (.cells #[.int .i32 x.1, .int .i32 x.2] 40)) fun e w' =>
      ((∃ f, e = .returned (.tuple #[.pointer none, .iface 62 f])) ∨ (∃ s b, e = .returned (.tuple #[ptrV b, .nilIface]) ∧ SetAt s b w' ∧ Canon s)) ∧ Below V.heap.size V w') := Lib.hid fun V x hx hV => by
    have hal : Below V.heap.size V (V.alloc (.cells #[.int .i32 x.1, .int .i32 x.2] 40)) := (Below.refl _ _).alloc (Nat.le_refl _) _
    have hsp : SpG (V.alloc (.cells #[.int .i32 x.1, .int .i32 x.2] 40)) (.slice (some ⟨V.heap.size, 0, none⟩) 1 1) [x] := ⟨_, 1, rfl, .inr ⟨V.heap.size, 0, rfl, fun i y hy => by
      cases i with
      | zero => simp at hy; subst hy; exact ⟨by rw [Lib.cell_of_heap (alloc_at rfl)]; rfl, by rw [Lib.cell_of_heap (alloc_at rfl)]; rfl⟩
      | succ i => simp at hy⟩⟩
    refine (rof_any [x] _ _ hsp ((hT.next hV).next hal) (by simp) (by simpa using hr x hx)).mono ?_
    rintro e w' ⟨hh, hb⟩
    refine ⟨?_, hal.trans (hb.mono hal.size)⟩
    rcases hh with ⟨k, y, _, _, _, he⟩ | ⟨hg, b, he, hs⟩
    · exact .inl ⟨_, he⟩
    · exact .inr ⟨_, b, he, hs, canonOf_canon _ (good_fit hg)⟩
  clear hn h1 hT
  rw [HN.out]
  go_enter Tryd.func6, Tryd.ntmps6
  go_wp2_with fail
  refine C0.out.mono ?_
  rintro e w1 ⟨b0, rfl, hs0, hb0⟩
  have HS0 := Lib.hid (And.intro hs0 hb0)
  clear hs0 hb0
  go_wp2_with fail
  go_loopw [3, 5] (fun x i wr => ∃ (k b : Nat) (s : List Run), x = ptrV b ∧ i = .int .i64 k ∧ k ≤ n ∧ SetAt s b wr ∧ Canon s ∧ Below w.heap.size w wr) (fun _ v _ => n - (RowKit.intOf v).toNat)
  case atStart => exact ⟨0, b0, _, rfl, rfl, by omega, HS0.out.1, canonOf_canon _ (by intro x hx; simp at hx), HS0.out.2⟩
  case round =>
    obtain ⟨k, b, s, rfl, rfl, hk, hs, hc, hb⟩ := hrel
    have HS := Lib.hid (And.intro hs (And.intro hc hb))
    clear hs hc hb
    by_cases hlt : k < n
    · have hlt' : (k : Int) < n := by omega
      by_cases hlt2 : k < 200
      · have hlt3 : (k : Int) < 200 := by omega
        obtain ⟨x, e1⟩ : ∃ x, l[k]? = some x := ⟨_, List.getElem?_eq_getElem (by rw [HN.out]; exact hlt)⟩
        obtain ⟨a2, rfl, k1⟩ : ∃ a : Addr, a1 = some a ∧ ∀ (i : Nat) (x : Int × Int), l[i]? = some x → w.cell? (a.add (i * 2)) = some (.int .i32 x.1) ∧ w.cell? (a.add (i * 2 + 1)) = some (.int .i32 x.2) := by
          rcases H1.out with h | h
          · subst h; simp at e1
          · exact h
        have q0 := k1 k x e1
        have q1 : wr.cell? (a2.add (k * 2)) = some (.int .i32 x.1) := (HS.out.2.2.cell (lt_of_cell q0.1)).trans q0.1
        have q2 : wr.cell? ⟨(a2.add (k * 2)).block, (a2.add (k * 2)).off + 1, none⟩ = some (.int .i32 x.2) := by
          rw [show (⟨(a2.add (k * 2)).block, (a2.add (k * 2)).off + 1, none⟩ : Addr) = (a2.add (k * 2)).add 1 from rfl, add_one_more]
          exact (HS.out.2.2.cell (lt_of_cell q0.2)).trans q0.2
        have CX := Lib.hid (CO.out wr x (List.mem_of_getElem? e1) HS.out.2.2)
        clear k1 q0 e1
        go_wp2_with fail
        refine CX.out.mono ?_
        rintro e w2 ⟨(⟨f, rfl⟩ | ⟨t, bt, rfl, hst, hct⟩), hb2⟩
        · have hbx := HS.out.2.2.trans (hb2.mono HS.out.2.2.size)
          have HF := Lib.hid (And.intro (HS.out.1.below hb2) hbx)
          clear hb2 hbx q1 q2
          go_wp2_with fail
          go_roundw
          case rel => exact ⟨k + 1, b, s, rfl, by go_num, by omega, HF.out.1, HS.out.2.1, HF.out.2⟩
          case measure => simp [RowKit.intOf]; omega
        · have hbx := HS.out.2.2.trans (hb2.mono HS.out.2.2.size)
          have CJ := Lib.hid (rjoin_any s t b bt w2 (HS.out.1.below hb2) hst HS.out.2.1 hct)
          have HF := Lib.hid (And.intro hbx hct)
          clear hb2 hbx q1 q2 hst hct
          go_wp2_with fail
          refine CJ.out.mono ?_
          rintro e w3 ⟨b3, rfl, hs3, hb3⟩
          have HG := Lib.hid (And.intro hs3 (HF.out.1.trans (hb3.mono HF.out.1.size)))
          clear hs3 hb3
          go_wp2_with fail
          go_roundw
          case rel => exact ⟨k + 1, b3, _, rfl, by go_num, by omega, HG.out.1, join_canon HS.out.2.1 HF.out.2, HG.out.2⟩
          case measure => simp [RowKit.intOf]; omega
      · have hlt3 : ¬ (k : Int) < 200 := by omega
        go_wp2
        go_ret
        exact ⟨s, b, rfl, HS.out.1, HS.out.2.1, HS.out.2.2⟩
    · have hlt' : ¬ (k : Int) < n := by omega
      go_wp2
      go_ret
      exact ⟨s, b, rfl, HS.out.1, HS.out.2.1, HS.out.2.2⟩
end Go.Proofs.YtmcmdijfdhlnaaaDoor
/- A row's argument that is a slice of spans, opened; the walk in the row's order of arguments. -/
namespace Go.Proofs.YtmcmdijfdhlnaaaDoor
open Go.ChangeShapes Go.WideShapes Go.ChangeAt Go.RowKit Go.Kt Go.Deep
set_option maxRecDepth 100000

theorem cells_span : Tryd.prog.cellsOf 40 = 2 := by kernel_rfl
theorem cells_i32 : Tryd.prog.cellsOf 21 = 1 := by kernel_rfl
theorem open_spans {H : Type} {enc : TypeId × Value → H} {W : World} {base : Nat} {spare : Nat → Bool} {held : Bool} {fuel : Nat} {ad : Option Addr} {len cap : Nat} {cs : List Value} {x : DataW H × List MemPlace}
    (h : DataW.trod enc Tryd.prog W base spare held fuel 22 cs = some x) (hcs : cs = [.slice ad len cap]) :
    ∃ l : List (Int × Int), SpA W (.slice ad len cap) l ∧ Runy l ∧ l.length ≤ 9223372036854775807 ∧ l.length = len := by
  subst hcs
  rcases open_slice_pairs Tryd.underlying22 Tryd.underlying40 cells_span rfl rfl cells_i32 cells_i32 h with ⟨hcs, hx⟩ | ⟨a, len', cap', m, n, V0, V1, D0, D1, P0, P1, hcs, _, hl, hm, hmm, hx, hi⟩
  · simp at hcs
    obtain ⟨rfl, rfl, rfl⟩ := hcs
    exact ⟨[], ⟨none, 0, rfl, .inl rfl⟩, by intro x hx; simp at hx, by simp, rfl⟩
  · simp at hcs
    obtain ⟨rfl, rfl, rfl⟩ := hcs
    have hlm : len ≤ m := by rw [hmm]; split <;> omega
    have each : ∀ i, i < m → W.cell? (a.add (i * 2)) = some (.int .i32 (RowKit.intOf (V0 i))) ∧ W.cell? (a.add (i * 2 + 1)) = some (.int .i32 (RowKit.intOf (V1 i))) ∧ (-2147483648 ≤ RowKit.intOf (V0 i) ∧ RowKit.intOf (V0 i) ≤ 2147483647) ∧ (-2147483648 ≤ RowKit.intOf (V1 i) ∧ RowKit.intOf (V1 i) ≤ 2147483647) := by
      intro i him
      obtain ⟨h0, h1, t0, t1⟩ := hi i him
      obtain ⟨z0, e0, _, w0⟩ := DataW.trod_int Tryd.underlying21 t0
      obtain ⟨z1, e1, _, w1⟩ := DataW.trod_int Tryd.underlying21 t1
      have e0 : V0 i = .int .i32 z0 := by simpa using e0
      have e1 : V1 i = .int .i32 z1 := by simpa using e1
      rw [e0] at h0 ⊢
      rw [e1] at h1 ⊢
      exact ⟨h0, h1, by simpa [RowKit.intOf, Lit.wf, IntKind.min, IntKind.max, IntKind.signed, IntKind.bits] using w0, by simpa [RowKit.intOf, Lit.wf, IntKind.min, IntKind.max, IntKind.signed, IntKind.bits] using w1⟩
    have hll : ((List.range len).map fun i => (RowKit.intOf (V0 i), RowKit.intOf (V1 i))).length = len := by simp
    refine ⟨(List.range len).map fun i => (RowKit.intOf (V0 i), RowKit.intOf (V1 i)), ⟨some a, cap, by rw [hll], .inr ⟨a, rfl, fun i x hx => ?_⟩⟩, fun x hx => ?_, by rw [hll]; unfold maxLen at hm; omega, hll⟩
    · have hil : i < len := by have := (List.getElem?_eq_some_iff.1 hx).1; rw [hll] at this; exact this
      simp [hil] at hx
      subst hx
      exact ⟨(each i (by omega)).1, (each i (by omega)).2.1⟩
    · obtain ⟨i, hi2, rfl⟩ := List.mem_map.1 hx
      exact (each i (by have := List.mem_range.1 hi2; omega)).2.2
end Go.Proofs.YtmcmdijfdhlnaaaDoor
/- What is the same of any program: an iterator that lays memory of its own between rounds, and the loop over it. -/
namespace Go.Kt
open Go Go.RowKit
variable {P : Program}

/-- What speaks of no block to come. -/
def Slim {β : Type} (J : β → (Nat → Prop) → World → Prop) : Prop := ∀ s Y W, J s Y W → J s (fun b => Y b ∧ b < W.heap.size) W
/-- **AN ITERATOR THAT HANDS OUT JUST THE LIST L**, as Iter; what its rounds keep speaks of no block to come: so it may lay memory of its own between them. -/
def Iter2 {α : Type} (P : Program) (gf : Nat) (lb : Array Value) (encs : α → Array Value) (L : List α) (Nd : Nat → Prop) (w0 : World) : Prop :=
  ∀ (l : Nat) (X : Nat → Prop) (J Jx : List α → (Nat → Prop) → World → Prop) (W : World),
    (∀ b, Nd b → ¬ X b) → (∀ b, X b → b < W.heap.size) → (∀ b, Nd b → W.heap[b]? = w0.heap[b]?) → w0.heap.size ≤ W.heap.size →
    Low W.heap.size J → Low W.heap.size Jx → Slim J →
    (∀ pre x Y W1, pre ++ [x] <+: L → J pre Y W1 → W.heap.size ≤ W1.heap.size → (∀ b, Y b → W.heap.size ≤ b) → YieldAt Fence.wide 0 P l (encs x) W1 fun e W' =>
      ∃ Y', Keep (fun b => X b ∨ Y b) W1 W' ∧ (∀ b, Y' b → Y b ∨ W1.heap.size ≤ b) ∧ ((e = .returned (.bool true) ∧ J (pre ++ [x]) Y' W') ∨ (e = .returned (.bool false) ∧ Jx (pre ++ [x]) Y' W'))) →
    J [] (fun _ => False) W →
    Calls P gf (#[.func (.yield l) #[] #[]] ++ lb) W fun e W' => (∃ v, e = .returned v) ∧ Keep X W W' ∧ ((∃ Y, (∀ b, Y b → W.heap.size ≤ b) ∧ J L Y W') ∨ ∃ pre Y, pre <+: L ∧ (∀ b, Y b → W.heap.size ≤ b) ∧ Jx pre Y W')

theorem loop_core2 {α : Type} {F : Fence} {ps : Array Tmp} {assign body : Code} {Q : Exit → Act → World → Prop} {a a' : Act} {w W1 : World}
    {gf : Nat} {lb : Array Value} {encs : α → Array Value} {L : List α} {Nd X : Nat → Prop} {w0 : World} (hit : Iter2 P gf lb encs L Nd w0)
    (hps : ∀ x, (encs x).size = ps.size) (l : Nat) (rec : LoopState → Option Code → Loop) (fn : FuncId) (D : Nat)
    (hrec : ∀ st pe, rec st pe = { state := st, pending := pe, fn, tmps := a.tmps, params := ps, assign, body, defers := D })
    (hX : ∀ b, X b → b < w.heap.size) (hNd : ∀ b, Nd b → ¬ X b ∧ b < w.heap.size) (hNdw : ∀ b, Nd b → w.heap[b]? = w0.heap[b]?) (hw0 : w0.heap.size ≤ w.heap.size)
    (hl : w.heap.size ≤ l) (hL1 : W1.heap[l]? = some (.loop (rec .ready none))) (hbw : Below w.heap.size w W1)
    (I : List α → (Nat → Prop) → World → Prop) (Ix : Code → List α → (Nat → Prop) → World → Prop) (hI : Low w.heap.size I) (hSI : Slim I) (hIx : ∀ c, Low w.heap.size (Ix c)) (h0 : I [] (fun _ => False) w)
    (hround : Round P ps assign body a.tmps encs L X I Ix w l)
    (hdone : ∀ Y W, I L Y W → (∀ b, Y b → W1.heap.size ≤ b) → Keep X w W → Keep (fun b => X b ∨ b = l) W1 W → Q .normal a' W)
    (hstop : ∀ c pre Y W, pre <+: L → Ix c pre Y W → (∀ b, Y b → W1.heap.size ≤ b) → Keep X w W → Keep (fun b => X b ∨ b = l) W1 W → c.wpIn F 0 P Q a' W) :
    Calls P gf (#[.func (.yield l) #[] #[]] ++ lb) W1 (rangePost F 0 P l Q a') := by
  have hlt1 : l < W1.heap.size := (Array.getElem?_eq_some_iff.1 hL1).1
  have hB1 : w.heap.size ≤ W1.heap.size := hbw.size
  have hkw : Keep X w W1 := .of_all hbw
  -- a step that touches nothing below W1's heap's end but what is not of Y
  have low1 : ∀ {Y : Nat → Prop} {A B : World}, Keep (fun b => W1.heap.size ≤ b ∧ ¬ Y b) A B → Keep (fun b => w.heap.size ≤ b ∧ ¬ Y b) A B := fun h => h.weaken fun _ _ hb => ⟨Nat.le_trans hB1 hb.1, hb.2⟩
  have lowX : ∀ {Y : Nat → Prop} {A B : World}, Keep (fun b => W1.heap.size ≤ b ∧ ¬ Y b) A B → Keep X w A → Keep X w B := fun h k =>
    ⟨h.os.trans k.os, h.tape.trans k.tape, h.output.trans k.output, Nat.le_trans k.size h.size, fun b hb hx => (h.same b (Nat.lt_of_lt_of_le hb k.size) (fun hy => by have := hy.1; omega)).trans (k.same b hb hx)⟩
  have lowl : ∀ {Y : Nat → Prop} {A B : World} {o : Obj}, Keep (fun b => W1.heap.size ≤ b ∧ ¬ Y b) A B → A.heap[l]? = some o → B.heap[l]? = some o := fun h ho => h.heap ho (fun hy => by have := hy.1; omega)
  -- the law's own turn of its record
  have turn : ∀ {Y : Nat → Prop} (W : World) (o : Obj), (∀ b, Y b → W1.heap.size ≤ b) → Keep (fun b => w.heap.size ≤ b ∧ ¬ Y b) W (W.putObj l o) := fun W o hY => (Keep.refl _ W).putObj (.inl ⟨hl, fun hy => by have := hY l hy; omega⟩) o
  refine (hit l (fun b => X b ∨ b = l) (fun pre Y W => (∀ b, Y b → W1.heap.size ≤ b) ∧ I pre Y W ∧ Keep X w W ∧ W.heap[l]? = some (.loop (rec .ready none)))
    (fun pre Y W => (∀ b, Y b → W1.heap.size ≤ b) ∧ ∃ c, Ix c pre Y W ∧ Keep X w W ∧ W.heap[l]? = some (.loop (rec .done (some c)))) W1
    (fun b hb => by have := hNd b hb; rintro (h | h); exact this.1 h; omega)
    (fun b hb => by rcases hb with hb | hb; have := hX b hb; omega; omega)
    (fun b hb => (hkw.same b (hNd b hb).2 (hNd b hb).1).trans (hNdw b hb)) (by omega)
    (fun s Y A B hb ⟨hY, h1, h2, h3⟩ => ⟨hY, hI s Y A B (low1 hb) h1, lowX hb h2, lowl hb h3⟩)
    (fun s Y A B hb ⟨hY, c, h1, h2, h3⟩ => ⟨hY, c, hIx c s Y A B (low1 hb) h1, lowX hb h2, lowl hb h3⟩)
    (fun s Y A ⟨hY, h1, h2, h3⟩ => ⟨fun b hb => hY b hb.1, hSI s Y A h1, h2, h3⟩)
    ?_ ⟨fun _ h => h.elim, hI _ _ _ _ (.of_all hbw) h0, hkw, hL1⟩).mono ?_
  · rintro pre x Y W hpre ⟨hY, hi, hk, hl3⟩ hsz _
    have hlt : l < W.heap.size := (Array.getElem?_eq_some_iff.1 hl3).1
    have hYl : ∀ b, Y b → w.heap.size ≤ b ∧ b ≠ l := fun b hb => by have := hY b hb; omega
    have hy := run_yield (P := P) (args := encs x) hl3 (by rw [hrec]; exact hps x)
    rw [hrec] at hy
    refine ⟨fn, _, assign, body, hy, roundIn_of_wpIn trivial (wpIn_mono (hround pre x Y W hpre hi hk hYl hlt ⟨_, hl3⟩) ?_)⟩
    intro e a₁ w₁ h
    cases e with
    | normal =>
      obtain ⟨hk1, hb1⟩ := h
      have hl4 : w₁.heap[l]? = some (.loop (rec .ready none)) := hk1.heap hl3 (fun hx => hx)
      refine ⟨_, run_beginRound hl4 (by rw [hrec]), ?_⟩
      have hlt4 : l < w₁.heap.size := (Array.getElem?_eq_some_iff.1 hl4).1
      have hi1 : I pre Y w₁ := hI _ _ _ _ (hk1.weaken (fun _ _ h => h.elim)) hi
      have hi2 := hI _ _ _ _ (turn (Y := Y) w₁ (.loop { rec .ready none with state := .busy }) hY) hi1
      have hkw1 : Keep X w (w₁.putObj l (.loop { rec .ready none with state := .busy })) := (hk.trans (hk1.weaken fun _ _ h => h.elim)).putObj (.inr hl) _
      have hl5 : (w₁.putObj l (.loop { rec .ready none with state := .busy })).heap[l]? = some (.loop { rec .ready none with state := .busy }) := World.putObj_heap_same hlt4
      refine wpIn_mono (hb1 _ ((Keep.refl (fun b => b = l) w₁).putObj (.inl rfl) _) hkw1 hi2 ⟨_, hl5⟩) ?_
      have hX2 : Keep (fun b => (X b ∨ b = l) ∨ Y b) W (w₁.putObj l (.loop { rec .ready none with state := .busy })) := (hk1.weaken (fun _ _ h => h.elim)).putObj (.inl (.inl (.inr rfl))) _
      have hsz2 : W.heap.size ≤ (w₁.putObj l (.loop { rec .ready none with state := .busy })).heap.size := hX2.size
      have fin : ∀ (jump : Option Code) (W3 : World) (I' : List α → (Nat → Prop) → World → Prop), Low w.heap.size I' → Left X Y I' (pre ++ [x]) (w₁.putObj l (.loop { rec .ready none with state := .busy })) W3 →
          (Instr.endRound l jump).run P W3 = .ok (.bool jump.isNone) (W3.putObj l (.loop (rec (if jump.isNone then .ready else .done) jump))) ∧
          (W3.putObj l (.loop (rec (if jump.isNone then .ready else .done) jump))).heap[l]? = some (.loop (rec (if jump.isNone then .ready else .done) jump)) ∧
          ∃ Y', (∀ b, Y' b → W1.heap.size ≤ b) ∧ (∀ b, Y' b → Y b ∨ W.heap.size ≤ b) ∧ I' (pre ++ [x]) Y' (W3.putObj l (.loop (rec (if jump.isNone then .ready else .done) jump))) ∧
          Keep X w (W3.putObj l (.loop (rec (if jump.isNone then .ready else .done) jump))) ∧
          Keep (fun b => (X b ∨ b = l) ∨ Y b) W (W3.putObj l (.loop (rec (if jump.isNone then .ready else .done) jump))) := fun jump W3 I' hI' ⟨Y', hk3, hY', hi3⟩ => by
        have hl6 := hk3.heap hl5 (fun hx => by rcases hx with hx | hx; have := hX l hx; omega; have := hY l hx; omega)
        have hr := run_endRound (P := P) jump hl6
        have er : ({ ({ rec .ready none with state := .busy } : Loop) with state := if jump.isNone then .ready else .done, pending := jump } : Loop) = rec (if jump.isNone then .ready else .done) jump := by
          rw [hrec, hrec]
        rw [er] at hr
        have hY1 : ∀ b, Y' b → W1.heap.size ≤ b := fun b hb => by rcases hY' b hb with h | h; exact hY b h; omega
        refine ⟨hr, World.putObj_heap_same (Array.getElem?_eq_some_iff.1 hl6).1, Y', hY1, fun b hb => by rcases hY' b hb with h | h; exact .inl h; exact .inr (by omega), hI' _ _ _ _ (turn W3 _ hY1) hi3, ?_, ?_⟩
        · refine Keep.putObj ?_ (.inr hl) _
          exact ⟨hk3.os.trans hkw1.os, hk3.tape.trans hkw1.tape, hk3.output.trans hkw1.output, Nat.le_trans hkw1.size hk3.size, fun b hb hx => (hk3.same b (Nat.lt_of_lt_of_le hb hkw1.size) (fun h => by rcases h with h | h; exact hx h; have := hY b h; omega)).trans (hkw1.same b hb hx)⟩
        · exact (hX2.trans (hk3.weaken (fun _ _ h => by rcases h with h | h; exact .inl (.inl h); exact .inr h))).putObj (.inl (.inl (.inr rfl))) _
      rintro e a3 W3 hp
      cases e with
      | normal =>
        obtain ⟨hr, hl7, Y', q1, q2, q3, q4, q5⟩ := fin none W3 I hI hp
        exact ⟨_, _, hr, Y', q5, q2, .inl ⟨rfl, q1, q3, q4, hl7⟩⟩
      | ret =>
        obtain ⟨hr, hl7, Y', q1, q2, q3, q4, q5⟩ := fin (some .ret) W3 _ (hIx _) hp
        exact ⟨_, _, hr, Y', q5, q2, .inr ⟨rfl, q1, .ret, q3, q4, hl7⟩⟩
      | exit id =>
        obtain ⟨hr, hl7, Y', q1, q2, q3, q4, q5⟩ := fin (some (.exit id)) W3 _ (hIx _) hp
        exact ⟨_, _, hr, Y', q5, q2, .inr ⟨rfl, q1, .exit id, q3, q4, hl7⟩⟩
      | goto t =>
        obtain ⟨hr, hl7, Y', q1, q2, q3, q4, q5⟩ := fin (some (.goto t)) W3 _ (hIx _) hp
        exact ⟨_, _, hr, Y', q5, q2, .inr ⟨rfl, q1, .goto t, q3, q4, hl7⟩⟩
      | panic ch => exact hp.elim
      | outgrown => exact hp.elim
    | ret => exact h.elim
    | exit id => exact h.elim
    | goto t => exact h.elim
    | panic ch => exact h.elim
    | outgrown => exact h.elim
  · rintro e W2 ⟨⟨v, rfl⟩, hk2, (⟨Y, _, hY, hi, hk, hl2⟩ | ⟨pre, Y, hpre, _, hY, c, hi, hk, hl2⟩)⟩
    · have hr := run_endLoop (P := P) hl2 (by rw [hrec]; simp)
      have e1 : (rec .ready none).pending = none := by rw [hrec]
      rw [e1] at hr
      exact ⟨none, _, hr, hdone Y _ (hI _ _ _ _ (turn W2 _ hY) hi) hY (hk.putObj (.inr hl) _) (hk2.putObj (.inl (.inr rfl)) _)⟩
    · have hr := run_endLoop (P := P) hl2 (by rw [hrec]; simp)
      have e1 : (rec .done (some c)).pending = some c := by rw [hrec]
      rw [e1] at hr
      exact ⟨some c, _, hr, hstop c pre Y _ hpre (hIx c _ _ _ _ (turn W2 _ hY) hi) hY (hk.putObj (.inr hl) _) (hk2.putObj (.inl (.inr rfl)) _)⟩

/-- THE LOOP, OUTERMOST: behind it the activation bears one mark more. -/
theorem loop_out2 {α : Type} {g : Operand} {ps : Array Tmp} {assign body : Code} {Q : Exit → Act → World → Prop} {a : Act} {w : World}
    {gf : Nat} {lb : Array Value} (hg : a.eval g = .func (.func gf) #[] lb) (eg : ∀ args w, (callFunc gf args).run P w = .ok (.enter gf args) w)
    {encs : α → Array Value} {L : List α} {Nd X : Nat → Prop} {w0 : World} (hit : Iter2 P gf lb encs L Nd w0) (hps : ∀ x, (encs x).size = ps.size)
    (hX : ∀ b, X b → b < w.heap.size) (hNd : ∀ b, Nd b → ¬ X b ∧ b < w.heap.size) (hNdw : ∀ b, Nd b → w.heap[b]? = w0.heap[b]?) (hw0 : w0.heap.size ≤ w.heap.size)
    (I : List α → (Nat → Prop) → World → Prop) (Ix : Code → List α → (Nat → Prop) → World → Prop) (hI : Low w.heap.size I) (hSI : Slim I) (hIx : ∀ c, Low w.heap.size (Ix c)) (h0 : I [] (fun _ => False) w)
    (hround : ∀ l, w.heap.size ≤ l → Round P ps assign body a.tmps encs L X I Ix w l)
    (hdone : ∀ D Y W, w.heap.size ≤ D → W.heap[D]? = some (.deferred (some [])) → I L Y W → (∀ b, Y b → w.heap.size ≤ b ∧ b ≠ D) → Keep X w W → Q .normal { a with defers := { target := .collected D, args := #[] } :: a.defers } W)
    (hstop : ∀ D c pre Y W, w.heap.size ≤ D → W.heap[D]? = some (.deferred (some [])) → pre <+: L → Ix c pre Y W → (∀ b, Y b → w.heap.size ≤ b ∧ b ≠ D) → Keep X w W → c.wpIn Fence.wide 0 P Q { a with defers := { target := .collected D, args := #[] } :: a.defers } W) :
    (Code.rangeFunc g ps assign body).wpIn Fence.wide 0 P Q a w := by
  refine wpIn_rangeFunc ?_
  intro fn _
  obtain ⟨rec, hrec⟩ : ∃ rec : LoopState → Option Code → Loop, rec = fun st pe => { state := st, pending := pe, fn, tmps := a.tmps, params := ps, assign, body, defers := w.heap.size } := ⟨_, rfl⟩
  obtain ⟨W1, hW1⟩ : ∃ W1, (w.alloc (.deferred (some []))).alloc (.loop (rec .ready none)) = W1 := ⟨_, rfl⟩
  have hL1 : W1.heap[w.heap.size + 1]? = some (.loop (rec .ready none)) := by
    rw [← hW1]; have := World.alloc_heap_new (w.alloc (.deferred (some []))) (.loop (rec .ready none)); rwa [World.size_alloc] at this
  have hD1 : W1.heap[w.heap.size]? = some (.deferred (some [])) := by
    rw [← hW1]; exact (Below.heap_alloc _ _ _ (by simp)).trans (World.alloc_heap_new w _)
  have hbw : Below w.heap.size w W1 := by
    rw [← hW1]; exact ((Below.refl _ w).alloc (Nat.le_refl _) _).alloc (by simp) _
  have hltD : w.heap.size < W1.heap.size := (Array.getElem?_eq_some_iff.1 hD1).1
  have hD : ∀ W, Keep (fun b => X b ∨ b = w.heap.size + 1) W1 W → W.heap[w.heap.size]? = some (.deferred (some [])) := fun W hk =>
    hk.heap hD1 (fun h => by rcases h with h | h; have := hX _ h; omega; omega)
  refine ⟨w.heap.size + 1, [{ target := .collected w.heap.size, args := #[] }], W1, { target := .fn (.func gf) lb, args := #[.func (.yield (w.heap.size + 1)) #[] #[]] }, W1, gf,
    #[.func (.yield (w.heap.size + 1)) #[] #[]] ++ lb, W1, ?_, ?_, ?_, ?_, (fun h => by cases h), ?_⟩
  · rw [← hW1, hrec]; exact run_enterLoop_outer _ _ _ _ _
  · simp only [resolve, hg]
    simp [go_sem]
  · intro _ _; trivial
  · simp [invoke, go_sem, eg]
  · exact callsIn_wide.2 (loop_core2 hit hps (w.heap.size + 1) rec fn w.heap.size (by intro st pe; rw [hrec]) hX hNd hNdw hw0 (by omega) hL1 hbw I Ix hI hSI hIx h0
      (hround _ (by omega))
      (fun Y W hi hY hk hk1 => hdone _ Y W (Nat.le_refl _) (hD W hk1) hi (fun b hb => by have := hY b hb; omega) hk)
      (fun c pre Y W hp hi hY hk hk1 => hstop _ c pre Y W (Nat.le_refl _) (hD W hk1) hp hi (fun b hb => by have := hY b hb; omega) hk))
end Go.Kt
