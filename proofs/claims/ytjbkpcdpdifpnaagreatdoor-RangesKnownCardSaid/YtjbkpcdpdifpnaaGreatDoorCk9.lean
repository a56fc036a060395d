/- Parts of the proof of what the last text says. -/
import Derived.Test.YtjbkpcdpdifpnaaGreatDoorCk8
import Derived.Lib.PathFns
import Derived.RegionTactic
import Derived.ChangeAlike
import Derived.BigRegion
import Derived.Deep.QuietTactic
import Derived.BigQuiet
import Derived.WalkLawsBesides
import Derived.Test.YtjbkpcdpdifpnaaGreatDoorCk7
import Derived.Deep.RegionWith
import Derived.Test.YtjbkpcdpdifpnaaGreatDoorCk2
import Derived.Test.YtjbkpcdpdifpnaaGreatDoorCk1
import Derived.LaidHandle
/- spelt, the point that a text may begin with. -/
namespace Go.Proofs.YtjbkpcdpdifpnaaGreatDoor
open Go Go.RowKit Go.Kt Go.Kt.Rg

def SVar (w : World) : Prop := (∃ t p, w.cell? ⟨4, 0, none⟩ = some (.iface t p)) ∧ ∃ t p, w.cell? ⟨5, 0, none⟩ = some (.iface t p)
theorem SVar.below {A B : World} (h : SVar A) (hb : Below A.heap.size A B) : SVar B := by
  obtain ⟨⟨t, p, h1⟩, t2, p2, h2⟩ := h
  exact ⟨⟨t, p, (hb.cell (lt_of_cell h1)).trans h1⟩, t2, p2, (hb.cell (lt_of_cell h2)).trans h2⟩
theorem upB_ix : ∀ l : List UInt8, (Lib.indexByte l 125 = -1 ∧ upB l = l) ∨ ∃ o : Nat, Lib.indexByte l 125 = o ∧ o < l.length ∧ upB l = l.take o
  | [] => .inl ⟨rfl, rfl⟩
  | c :: t => by
    by_cases hc : c = 125
    · subst hc
      exact .inr ⟨0, by simp [Lib.indexByte], by simp, by simp [upB]⟩
    · have e : upB (c :: t) = c :: upB t := by simp [upB, hc]
      have hc' : (c == 125) = false := by simpa using hc
      rcases upB_ix t with ⟨h1, h2⟩ | ⟨o, h1, h2, h3⟩
      · exact .inl ⟨by simp [Lib.indexByte, hc', h1], by rw [e, h2]⟩
      · refine .inr ⟨o + 1, ?_, by simp; omega, by rw [e, h3]; rfl⟩
        unfold Lib.indexByte
        rw [hc', h1]
        have : ((o : Int) == -1) = false := by rw [beq_eq_false_iff_ne]; omega
        simp [this]

set_option maxRecDepth 100000 in
set_option maxHeartbeats 2000000 in
theorem cutB_any (s : ByteArray) (w : World) (hs : s.size ≤ 140737488351232) :
    Calls Tryz.prog 160 #[.string s, .string ⟨#[125]⟩] w fun e w' => ∃ (X : ByteArray) (b : Bool), e = .returned (.tuple #[.string ⟨(upB s.data.toList).toArray⟩, .string X, .bool b]) ∧ Below w.heap.size w w' := by
  have hln : s.data.toList.length = s.size := (Lib.size_eq s).symm
  have hsz1 : (⟨#[125]⟩ : ByteArray).size = 1 := rfl
  have C : Hid (Calls Tryz.prog 174 #[.string s, .string ⟨#[125]⟩] w fun e w' => ∃ (X : ByteArray) (b : Bool), e = .returned (.tuple #[.string ⟨(upB s.data.toList).toArray⟩, .string X, .bool b]) ∧ Below w.heap.size w w') := Lib.hid (by
    rcases upB_ix s.data.toList with ⟨h1, h2⟩ | ⟨o, h1, h2, h3⟩
    · have CI := Lib.hid (Tryz.stringslite_Index_one s 125 w)
      rw [h1] at CI
      rw [h2]
      have e : (⟨s.data.toList.toArray⟩ : ByteArray) = s := by cases s; simp
      rw [e]
      clear h1 h2 e hln hsz1
      go_enter Tryz.func174, Tryz.ntmps174
      go_wp2_with fail
      refine CI.out.mono ?_
      rintro e w' ⟨rfl, rfl⟩
      go_wp2
      go_ret3
      exact ⟨_, _, rfl, Below.refl _ _⟩
    · have CI := Lib.hid (Tryz.stringslite_Index_one s 125 w)
      rw [h1] at CI
      rw [h3, ← Lib.Pa.extract_upto]
      have c1 : (0 : Int) ≤ o := by omega
      have c2 : (o : Int) ≤ s.size := by omega
      have c3 : (0 : Int) ≤ (o : Int) + 1 := by omega
      have c4 : (o : Int) + 1 ≤ s.size := by omega
      clear h1 h2 h3 hln
      go_enter Tryz.func174, Tryz.ntmps174
      go_wp2_with fail
      refine CI.out.mono ?_
      rintro e w' ⟨rfl, rfl⟩
      go_wp2
      go_region
      all_goals
        go_wp2
        go_ret3
        exact ⟨_, _, rfl, below_drewN (Below.refl _ _) 1⟩)
  clear hln hsz1 hs
  go_enter Tryz.func160, Tryz.ntmps160
  go_wp2_with fail
  refine C.out.mono ?_
  rintro e w' ⟨X, b, rfl, hb⟩
  have HB := Lib.hid hb
  clear hb
  go_wp2
  go_ret3
  exact ⟨X, b, rfl, HB.out⟩

set_option maxRecDepth 100000 in
set_option maxHeartbeats 2000000 in
theorem pu21_any (s : ByteArray) (w : World) (hs : s.size ≤ 140737488351232) (hV : SVar w) :
    Calls Tryz.prog 161 #[.string s, .int .i64 16, .int .i64 21] w fun e w' => PuOut 325 (fun _ => True) (puV 2097151 s.data.toList) e ∧ Below w.heap.size w w' := by
  have CI := Lib.hid (ipu21_any s w (by omega))
  have HV := Lib.hid hV
  obtain ⟨o, ho⟩ : ∃ o, puV 2097151 s.data.toList = o := ⟨_, rfl⟩
  rw [ho] at CI ⊢
  clear hV ho
  go_enter Tryz.func161, Tryz.ntmps161
  go_wp2_with fail
  refine CI.out.mono ?_
  rintro e w1 ⟨hp, hb⟩
  have HB := Lib.hid hb
  clear hb
  cases o with
  | some n =>
    obtain rfl := hp
    have HF := Lib.hid (PuOut.yes (T := 325) (K := fun _ => True) (o := some n) rfl)
    go_wp2
    go_ret2
    exact ⟨HF.out, HB.out⟩
  | none =>
    obtain ⟨z, k, rfl, hk⟩ := hp
    have HF := Lib.hid (fun v => PuOut.no (T := 325) (K := fun _ => True) (o := none) z (k := v) rfl trivial)
    obtain ⟨⟨t1, p1, v1⟩, t2, p2, v2⟩ := HV.out.below HB.out
    rcases hk with rfl | rfl
    · have CT := Lib.hid (fun fn => Tryz.strconv_toError_range fn s 16 21 _ w1 (by omega) v2 (.inr ⟨_, _, rfl⟩))
      clear v1 v2
      go_wp2_with fail
      refine (CT.out _).mono ?_
      rintro e w2 ⟨N, rfl, _, _, hb2⟩
      have HB2 := Lib.hid (HB.out.trans (hb2.mono HB.out.size))
      clear hb2
      go_wp2
      go_ret2
      exact ⟨HF.out _, HB2.out⟩
    · have CT := Lib.hid (fun fn => Tryz.strconv_toError_syntax fn s 16 21 _ w1 (by omega) v1 (.inr ⟨_, _, rfl⟩))
      clear v1 v2
      go_wp2_with fail
      refine (CT.out _).mono ?_
      rintro e w2 ⟨N, rfl, _, _, hb2⟩
      have HB2 := Lib.hid (HB.out.trans (hb2.mono HB.out.size))
      clear hb2
      go_wp2
      go_ret2
      exact ⟨HF.out _, HB2.out⟩

theorem size_mk (l : List UInt8) : (⟨l.toArray⟩ : ByteArray).size = l.length := by show l.toArray.size = _; simp
theorem upB_len (l : List UInt8) : (upB l).length ≤ l.length := by unfold upB; exact (List.takeWhile_sublist _).length_le

set_option maxRecDepth 100000 in
set_option maxHeartbeats 4000000 in
theorem rspelt_1 (s : ByteArray) (w : World) (hs : s.size ≤ 140737488351232) (hV : SVar w) (h1 : [92, 117, 123].isPrefixOf s.data.toList = true) :
    Calls Tryz.prog 140 #[.string s] w fun e w' => e = .returned (.int .i32 (sptR s.data.toList)) ∧ Below w.heap.size w w' := by
  obtain ⟨l, hl⟩ : ∃ l, s.data.toList = l := ⟨_, rfl⟩
  have hln : l.length = s.size := by rw [← hl]; exact (Lib.size_eq s).symm
  have C1 := Lib.hid (fun V => Tryz.strings_CutPrefix s ⟨#[92, 117, 123]⟩ V)
  have C2 := Lib.hid (fun V => Tryz.strings_CutPrefix s ⟨#[92, 120]⟩ V)
  rw [hl] at C1 C2 h1 ⊢
  have CC := Lib.hid (fun (t : ByteArray) V (h : t.size ≤ 140737488351232) => cutB_any t V h)
  have CP := Lib.hid (fun (t : ByteArray) V (h : t.size ≤ 140737488351232) (hb : Below w.heap.size w V) => pu21_any t V h (hV.below hb))
  have BD := Lib.hid (fun (n : Nat) (q : List UInt8) (h : puV 2097151 q = some n) => puV_bd h)
  have HS : Hid (sptR l = match puV 2097151 (sptD l).2 with | none => -1 | some n => (sptD l).1 + (n : Int)) := Lib.hid rfl
  obtain ⟨R, hR⟩ : ∃ R, sptR l = R := ⟨_, rfl⟩
  rw [hR] at HS ⊢
  have HLN := Lib.hid hln
  have HW : Hid (s.size ≤ 140737488351232) := Lib.hid hs
  clear hV hl hR hln hs
  have hD : sptD l = (0, upB (l.drop 3)) := by unfold sptD; rw [if_pos h1]
  have D1 : Hid (∀ V, Calls Tryz.prog 159 #[.string s, .string ⟨#[92, 117, 123]⟩] V fun e w' => e = .returned (.tuple #[.string ⟨(l.drop 3).toArray⟩, .bool true]) ∧ V = w') := Lib.hid fun V => by
    refine (C1.out V).mono ?_
    rintro e w' ⟨rfl, rfl⟩
    have hp : Lib.hasPrefix l [92, 117, 123] = true := h1
    refine ⟨?_, rfl⟩
    show Ending.returned (.tuple #[.string ⟨(Lib.trimPrefix l [92, 117, 123]).toArray⟩, .bool (Lib.hasPrefix l [92, 117, 123])]) = _
    unfold Lib.trimPrefix
    rw [hp]; rfl
  have hz : (⟨(l.drop 3).toArray⟩ : ByteArray).size ≤ 140737488351232 := by rw [size_mk, List.length_drop]; have := HLN.out; have := HW.out; omega
  have D2 := Lib.hid (fun V => CC.out ⟨(l.drop 3).toArray⟩ V hz)
  rw [hD] at HS
  try simp only at D2
  obtain ⟨D, hDD⟩ : ∃ D, upB (l.drop 3) = D := ⟨_, rfl⟩
  have hzd : (⟨D.toArray⟩ : ByteArray).size ≤ 140737488351232 := by rw [size_mk, ← hDD]; have := upB_len (l.drop 3); rw [List.length_drop] at this; have := HLN.out; have := HW.out; omega
  rw [hDD] at HS D2
  have D3 := Lib.hid (fun V => CP.out ⟨D.toArray⟩ V hzd)
  try simp only at D3 HS
  generalize (⟨(l.drop 3).toArray⟩ : ByteArray) = RS at *
  generalize (⟨D.toArray⟩ : ByteArray) = DS at *
  clear hD hDD hz hzd h1 C1 C2 CC CP
  go_enter Tryz.func140, Tryz.ntmps140
  go_wp2_with fail
  refine (D1.out _).mono ?_
  rintro e w1 ⟨rfl, rfl⟩
  go_wp2_with fail
  refine (D2.out _).mono ?_
  rintro e w1 ⟨X, b, rfl, hb⟩
  have HB := Lib.hid hb
  clear hb
  go_wp2_with fail
  refine (D3.out _ HB.out).mono ?_
  rintro e w2 ⟨hp, hb2⟩
  have HB2 := Lib.hid (HB.out.trans (hb2.mono HB.out.size))
  clear hb2
  obtain ⟨o, ho⟩ : ∃ o, puV 2097151 D = o := ⟨_, rfl⟩
  have hp2 : PuOut 325 (fun _ => True) o e := by rw [← ho]; exact hp
  clear hp
  rw [ho] at HS
  cases o with
  | some n =>
    obtain rfl := hp2
    have hn : n ≤ 2097151 := BD.out n _ ho
    have HE : Hid (R = (n : Int)) := Lib.hid (by have := HS.out; simp only at this; omega)
    clear HS ho
    go_wp2
    go_ret
    exact ⟨by rw [HE.out]; (first | done | rfl), HB2.out⟩
  | none =>
    obtain ⟨z, k, rfl, _⟩ := hp2
    have HE : Hid (R = -1) := Lib.hid HS.out
    clear HS ho
    go_wp2
    go_ret
    exact ⟨by rw [HE.out]; (first | done | rfl), HB2.out⟩

set_option maxRecDepth 100000 in
set_option maxHeartbeats 4000000 in
theorem rspelt_2 (s : ByteArray) (w : World) (hs : s.size ≤ 140737488351232) (hV : SVar w) (h1 : ¬ [92, 117, 123].isPrefixOf s.data.toList = true) (h2 : [92, 120].isPrefixOf s.data.toList = true) :
    Calls Tryz.prog 140 #[.string s] w fun e w' => e = .returned (.int .i32 (sptR s.data.toList)) ∧ Below w.heap.size w w' := by
  obtain ⟨l, hl⟩ : ∃ l, s.data.toList = l := ⟨_, rfl⟩
  have hln : l.length = s.size := by rw [← hl]; exact (Lib.size_eq s).symm
  have C1 := Lib.hid (fun V => Tryz.strings_CutPrefix s ⟨#[92, 117, 123]⟩ V)
  have C2 := Lib.hid (fun V => Tryz.strings_CutPrefix s ⟨#[92, 120]⟩ V)
  rw [hl] at C1 C2 h1 h2 ⊢
  have CC := Lib.hid (fun (t : ByteArray) V (h : t.size ≤ 140737488351232) => cutB_any t V h)
  have CP := Lib.hid (fun (t : ByteArray) V (h : t.size ≤ 140737488351232) (hb : Below w.heap.size w V) => pu21_any t V h (hV.below hb))
  have BD := Lib.hid (fun (n : Nat) (q : List UInt8) (h : puV 2097151 q = some n) => puV_bd h)
  have HS : Hid (sptR l = match puV 2097151 (sptD l).2 with | none => -1 | some n => (sptD l).1 + (n : Int)) := Lib.hid rfl
  obtain ⟨R, hR⟩ : ∃ R, sptR l = R := ⟨_, rfl⟩
  rw [hR] at HS ⊢
  have HLN := Lib.hid hln
  have HW : Hid (s.size ≤ 140737488351232) := Lib.hid hs
  clear hV hl hR hln hs
  have D1 : Hid (∀ V, Calls Tryz.prog 159 #[.string s, .string ⟨#[92, 117, 123]⟩] V fun e w' => ∃ X, e = .returned (.tuple #[.string X, .bool false]) ∧ V = w') := Lib.hid fun V => by
    refine (C1.out V).mono ?_
    rintro e w' ⟨rfl, rfl⟩
    have hp : Lib.hasPrefix l [92, 117, 123] = false := Bool.eq_false_iff.2 h1
    refine ⟨⟨(Lib.trimPrefix l [92, 117, 123]).toArray⟩, ?_, rfl⟩
    show Ending.returned (.tuple #[.string ⟨(Lib.trimPrefix l [92, 117, 123]).toArray⟩, .bool (Lib.hasPrefix l [92, 117, 123])]) = _
    rw [hp]
  have hD : sptD l = (1114112, (l.drop 2).take 2) := by unfold sptD; rw [if_neg h1, if_pos h2]
  have D2 : Hid (∀ V, Calls Tryz.prog 159 #[.string s, .string ⟨#[92, 120]⟩] V fun e w' => e = .returned (.tuple #[.string ⟨(l.drop 2).toArray⟩, .bool true]) ∧ V = w') := Lib.hid fun V => by
    refine (C2.out V).mono ?_
    rintro e w' ⟨rfl, rfl⟩
    have hp : Lib.hasPrefix l [92, 120] = true := h2
    refine ⟨?_, rfl⟩
    show Ending.returned (.tuple #[.string ⟨(Lib.trimPrefix l [92, 120]).toArray⟩, .bool (Lib.hasPrefix l [92, 120])]) = _
    unfold Lib.trimPrefix
    rw [hp]; rfl
  obtain ⟨RS, hRS⟩ : ∃ RS : ByteArray, (⟨(l.drop 2).toArray⟩ : ByteArray) = RS := ⟨_, rfl⟩
  have hrl : RS.data.toList = l.drop 2 := by rw [← hRS]
  have hz : RS.size ≤ 140737488351232 := by rw [← hRS, size_mk, List.length_drop]; have := HLN.out; have := HW.out; omega
  rw [hRS] at D2
  rw [hD, ← hrl] at HS
  simp only at HS
  clear hD h1 h2 C1 C2 CC hRS hrl
  have hM : RS.data.toList.take (min 2 (RS.size : Int)).toNat = RS.data.toList.take 2 := by
    have hn : RS.data.toList.length = RS.size := (Lib.size_eq RS).symm
    by_cases h : 2 ≤ RS.size
    · rw [show (min 2 (RS.size : Int)).toNat = 2 by omega]
    · rw [show (min 2 (RS.size : Int)).toNat = RS.size by omega, List.take_of_length_le (by omega), List.take_of_length_le (by omega)]
  have D3 : Hid (∀ V, Below w.heap.size w V → Calls Tryz.prog 161 #[.string (RS.extract 0 (min 2 (RS.size : Int)).toNat), .int .i64 16, .int .i64 21] V fun e w' => PuOut 325 (fun _ => True) (puV 2097151 (RS.data.toList.take 2)) e ∧ Below V.heap.size V w') := Lib.hid fun V hb => by
    have := CP.out (RS.extract 0 (min 2 (RS.size : Int)).toNat) V (by rw [ByteArray.size_extract]; omega) hb
    rw [Lib.Pa.extract_upto_list, hM] at this
    exact this
  have hm0 : (0 : Int) ≤ min 2 (RS.size : Int) := by omega
  have hm1 : min 2 (RS.size : Int) ≤ RS.size := by omega
  clear CP hM
  go_enter Tryz.func140, Tryz.ntmps140
  go_wp2_with fail
  refine (D1.out _).mono ?_
  rintro e w1 ⟨X, rfl, rfl⟩
  go_wp2_with fail
  refine (D2.out _).mono ?_
  rintro e w1 ⟨rfl, rfl⟩
  go_wp2_with fail
  go_region
  all_goals
    go_wp2_with fail
    refine (D3.out _ (Below.refl _ _).drew).mono ?_
    rintro e w2 ⟨hp, hb2⟩
    have HB2 := Lib.hid ((Below.refl w.heap.size w).drew.trans (hb2.mono (Below.refl w.heap.size w).drew.size))
    clear hb2
    obtain ⟨o, ho⟩ : ∃ o, puV 2097151 (RS.data.toList.take 2) = o := ⟨_, rfl⟩
    have hp2 : PuOut 325 (fun _ => True) o e := by rw [← ho]; exact hp
    clear hp
    rw [ho] at HS
    cases o with
    | some n =>
      obtain rfl := hp2
      have hn : n ≤ 2097151 := BD.out n _ ho
      have HE : Hid (R = 1114112 + (n : Int)) := Lib.hid (by have := HS.out; simp only at this; omega)
      clear HS ho
      go_wp2
      go_ret
      exact ⟨by rw [HE.out]; (first | done | rfl), HB2.out⟩
    | none =>
      obtain ⟨z, k, rfl, _⟩ := hp2
      have HE : Hid (R = -1) := Lib.hid HS.out
      clear HS ho
      go_wp2
      go_ret
      exact ⟨by rw [HE.out]; (first | done | rfl), HB2.out⟩

set_option maxRecDepth 100000 in
set_option maxHeartbeats 4000000 in
theorem rspelt_3 (s : ByteArray) (w : World) (hs : s.size ≤ 140737488351232) (hV : SVar w) (h1 : ¬ [92, 117, 123].isPrefixOf s.data.toList = true) (h2 : ¬ [92, 120].isPrefixOf s.data.toList = true) :
    Calls Tryz.prog 140 #[.string s] w fun e w' => e = .returned (.int .i32 (sptR s.data.toList)) ∧ Below w.heap.size w w' := by
  obtain ⟨l, hl⟩ : ∃ l, s.data.toList = l := ⟨_, rfl⟩
  have hln : l.length = s.size := by rw [← hl]; exact (Lib.size_eq s).symm
  have C1 := Lib.hid (fun V => Tryz.strings_CutPrefix s ⟨#[92, 117, 123]⟩ V)
  have C2 := Lib.hid (fun V => Tryz.strings_CutPrefix s ⟨#[92, 120]⟩ V)
  rw [hl] at C1 C2 h1 h2 ⊢
  have CC := Lib.hid (fun (t : ByteArray) V (h : t.size ≤ 140737488351232) => cutB_any t V h)
  have CP := Lib.hid (fun (t : ByteArray) V (h : t.size ≤ 140737488351232) (hb : Below w.heap.size w V) => pu21_any t V h (hV.below hb))
  have BD := Lib.hid (fun (n : Nat) (q : List UInt8) (h : puV 2097151 q = some n) => puV_bd h)
  have HS : Hid (sptR l = match puV 2097151 (sptD l).2 with | none => -1 | some n => (sptD l).1 + (n : Int)) := Lib.hid rfl
  obtain ⟨R, hR⟩ : ∃ R, sptR l = R := ⟨_, rfl⟩
  rw [hR] at HS ⊢
  have HLN := Lib.hid hln
  have HW : Hid (s.size ≤ 140737488351232) := Lib.hid hs
  clear hV hl hR hln hs
  have D1 : Hid (∀ V, Calls Tryz.prog 159 #[.string s, .string ⟨#[92, 117, 123]⟩] V fun e w' => ∃ X, e = .returned (.tuple #[.string X, .bool false]) ∧ V = w') := Lib.hid fun V => by
    refine (C1.out V).mono ?_
    rintro e w' ⟨rfl, rfl⟩
    have hp : Lib.hasPrefix l [92, 117, 123] = false := Bool.eq_false_iff.2 h1
    refine ⟨⟨(Lib.trimPrefix l [92, 117, 123]).toArray⟩, ?_, rfl⟩
    show Ending.returned (.tuple #[.string ⟨(Lib.trimPrefix l [92, 117, 123]).toArray⟩, .bool (Lib.hasPrefix l [92, 117, 123])]) = _
    rw [hp]
  have hD : sptD l = (0, []) := by unfold sptD; rw [if_neg h1, if_neg h2]
  have D2 : Hid (∀ V, Calls Tryz.prog 159 #[.string s, .string ⟨#[92, 120]⟩] V fun e w' => ∃ X, e = .returned (.tuple #[.string X, .bool false]) ∧ V = w') := Lib.hid fun V => by
    refine (C2.out V).mono ?_
    rintro e w' ⟨rfl, rfl⟩
    have hp : Lib.hasPrefix l [92, 120] = false := Bool.eq_false_iff.2 h2
    refine ⟨⟨(Lib.trimPrefix l [92, 120]).toArray⟩, ?_, rfl⟩
    show Ending.returned (.tuple #[.string ⟨(Lib.trimPrefix l [92, 120]).toArray⟩, .bool (Lib.hasPrefix l [92, 120])]) = _
    rw [hp]
  have D3 := Lib.hid (fun V => CP.out ⟨#[]⟩ V (by show 0 ≤ _; omega))
  rw [hD] at HS
  simp only at HS
  clear hD h1 h2 C1 C2 CC CP
  go_enter Tryz.func140, Tryz.ntmps140
  go_wp2_with fail
  refine (D1.out _).mono ?_
  rintro e w1 ⟨X, rfl, rfl⟩
  go_wp2_with fail
  refine (D2.out _).mono ?_
  rintro e w1 ⟨X2, rfl, rfl⟩
  go_wp2_with fail
  refine (D3.out _ (Below.refl _ _)).mono ?_
  rintro e w2 ⟨hp, hb2⟩
  have HB2 := Lib.hid ((Below.refl w.heap.size w).trans (hb2.mono (Below.refl w.heap.size w).size))
  clear hb2
  obtain ⟨o, ho⟩ : ∃ o, puV 2097151 [] = o := ⟨_, rfl⟩
  have hp2 : PuOut 325 (fun _ => True) o e := by rw [← ho]; exact hp
  clear hp
  rw [ho] at HS
  cases o with
  | some n =>
    obtain rfl := hp2
    have hn : n ≤ 2097151 := BD.out n _ ho
    have HE : Hid (R = (n : Int)) := Lib.hid (by have := HS.out; simp only at this; omega)
    clear HS ho
    go_wp2
    go_ret
    exact ⟨by rw [HE.out]; (first | done | rfl), HB2.out⟩
  | none =>
    obtain ⟨z, k, rfl, _⟩ := hp2
    have HE : Hid (R = -1) := Lib.hid HS.out
    clear HS ho
    go_wp2
    go_ret
    exact ⟨by rw [HE.out]; (first | done | rfl), HB2.out⟩

theorem rspelt_any (s : ByteArray) (w : World) (hs : s.size ≤ 140737488351232) (hV : SVar w) :
    Calls Tryz.prog 140 #[.string s] w fun e w' => e = .returned (.int .i32 (sptR s.data.toList)) ∧ Below w.heap.size w w' := by
  by_cases h1 : [92, 117, 123].isPrefixOf s.data.toList = true
  · exact rspelt_1 s w hs hV h1
  · by_cases h2 : [92, 120].isPrefixOf s.data.toList = true
    · exact rspelt_2 s w hs hV h1 h2
    · exact rspelt_3 s w hs hV h1 h2
end Go.Proofs.YtjbkpcdpdifpnaaGreatDoor
/- parsedPoint: the point that is written at a byte. -/
namespace Go.Proofs.YtjbkpcdpdifpnaaGreatDoor
open Go Go.RowKit Go.Kt Go.Kt.Rg

def PEnv (w : World) : Prop := REnv w ∧ SVar w
theorem PEnv.below {A B : World} (h : PEnv A) (hb : Below A.heap.size A B) : PEnv B := ⟨h.1.below hb, h.2.below hb⟩
abbrev faultV (no at_ : Int) : Value := .iface 96 (.agg #[.int .i64 no, .int .i64 0, .int .i64 at_])
def PtOut (l : List UInt8) (p : Nat) (e : Ending) : Prop :=
  match ptAt (l.drop p) with
  | some (n, k) => e = .returned (.tuple #[.int .i64 n, .int .i64 ((p + k : Nat) : Int), .nilIface])
  | none => e = .returned (.tuple #[.int .i64 0, .int .i64 0, faultV 9 (p : Nat)])

set_option maxRecDepth 100000 in
set_option maxHeartbeats 2000000 in
theorem rpp_any (s : ByteArray) (p : Nat) (w : World) (hp : p ≤ s.size) (hs : s.size ≤ 140737488351232) (hE : PEnv w) :
    Calls Tryz.prog 127 #[.string s, .int .i64 p] w fun e w' => PtOut s.data.toList p e ∧ Below w.heap.size w w' := by
  have hd : (s.extract p s.size).data.toList = s.data.toList.drop p := by rw [Lib.Pa.extract_from]
  have hz : (s.extract p s.size).size ≤ 140737488351232 := by rw [ByteArray.size_extract]; omega
  have CS := Lib.hid (rspelt_any (s.extract p s.size) w hz hE.2)
  have CH := Lib.hid (fun (t : ByteArray) V => Tryz.strings_HasPrefix (s.extract p s.size) t V)
  obtain ⟨l, hl⟩ : ∃ l, s.data.toList.drop p = l := ⟨_, rfl⟩
  rw [hd, hl] at CS
  simp only [hd, hl] at CH
  have HO : Hid (∀ e, PtOut s.data.toList p e ↔ match ptAt l with
    | some (n, k) => e = .returned (.tuple #[.int .i64 n, .int .i64 ((p + k : Nat) : Int), .nilIface])
    | none => e = .returned (.tuple #[.int .i64 0, .int .i64 0, faultV 9 (p : Nat)])) := Lib.hid fun e => by rw [← hl]; rfl
  obtain ⟨r, hr⟩ : ∃ r, sptR l = r := ⟨_, rfl⟩
  have hrb := sptR_bd l
  rw [hr] at CS hrb
  have CN := Lib.hid (fun V (hb : Below w.heap.size w V) => rnumber_any r V (hE.1.1.next hb) ⟨by omega, by omega⟩)
  obtain ⟨n, t, hn⟩ : ∃ n t, numB r = (n, t) := ⟨_, _, rfl⟩
  have HP : Hid (ptAt l = if t && (printP r).isPrefixOf l then some (n, (printP r).length) else none) := Lib.hid (by unfold ptAt; rw [hr, hn])
  rw [hn] at CN
  simp only at CN
  have hpl : (p : Int) ≤ s.size := by omega
  have hp0 : (0 : Int) ≤ p := by omega
  have hp1 : (p : Int) ≤ 140737488351232 := by omega
  cases t with
  | false =>
    have HF : Hid (PtOut s.data.toList p (.returned (.tuple #[.int .i64 0, .int .i64 0, faultV 9 (p : Nat)]))) := Lib.hid (by rw [HO.out, HP.out]; simp)
    clear hd hz hl hr hE hn hs hp HO HP CH
    go_enter Tryz.func127, Tryz.ntmps127
    go_wp2_with fail
    refine CS.out.mono ?_
    rintro e w1 ⟨rfl, hb⟩
    have HB := Lib.hid hb
    clear hb
    go_wp2_with fail
    refine (CN.out _ HB.out).mono ?_
    rintro e w2 ⟨rfl, hb2⟩
    have HB2 := Lib.hid (HB.out.trans (hb2.mono HB.out.size))
    clear hb2
    go_wp2_with fail
    go_quiet (fail)
    go_wp2
    go_ret3
    exact ⟨HF.out, below_drewN HB2.out _⟩
  | true =>
    have hnt := num_true (r := r) (by rw [hn])
    have CR := Lib.hid (fun V (hb : Below w.heap.size w V) => rprinted_any r V (hE.1.below hb).2.1 ⟨hnt.2.1, hnt.2.2.1⟩)
    have hpr := printP_len r
    obtain ⟨S, hS⟩ : ∃ S : ByteArray, (⟨(printP r).toArray⟩ : ByteArray) = S := ⟨_, rfl⟩
    have hSd : S.data.toList = printP r := by rw [← hS]
    have hSz : S.size = (printP r).length := by rw [← hS]; exact size_mk _
    rw [hS] at CR
    have CH2 := Lib.hid (fun V => CH.out S V)
    simp only [hSd] at CH2
    obtain ⟨b, hbb⟩ : ∃ b, Lib.hasPrefix l (printP r) = b := ⟨_, rfl⟩
    simp only [hbb] at CH2
    obtain ⟨m, hm⟩ : ∃ m, (printP r).length = m := ⟨_, rfl⟩
    rw [hm] at hSz hpr
    have HP2 : Hid (ptAt l = if b then some (n, m) else none) := Lib.hid (by rw [HP.out, Bool.true_and]; rw [show (printP r).isPrefixOf l = b from hbb, hm])
    have HZ : Hid (S.size = m) := Lib.hid hSz
    have hSz2 : S.size ≤ 13 := by omega
    cases b with
    | false =>
      have HF : Hid (PtOut s.data.toList p (.returned (.tuple #[.int .i64 0, .int .i64 0, faultV 9 (p : Nat)]))) := Lib.hid (by rw [HO.out, HP2.out]; simp)
      clear hd hz hl hr hE hn hs hp HO HP HP2 CH hnt hS hSd hbb hm hSz
      go_enter Tryz.func127, Tryz.ntmps127
      go_wp2_with fail
      refine CS.out.mono ?_
      rintro e w1 ⟨rfl, hb⟩
      have HB := Lib.hid hb
      clear hb
      go_wp2_with fail
      refine (CN.out _ HB.out).mono ?_
      rintro e w2 ⟨rfl, hb2⟩
      have HB2 := Lib.hid (HB.out.trans (hb2.mono HB.out.size))
      clear hb2
      go_wp2_with fail
      go_region_with (first
        | (go_at_call 84; refine (CR.out _ HB2.out.drew).mono ?_; rintro e w3 ⟨rfl, hb3⟩; have HB3 := Lib.hid (HB2.out.drew.trans (hb3.mono HB2.out.drew.size)); clear hb3)
        | (go_at_call 80; refine (CH2.out _).mono ?_; rintro e w4 ⟨rfl, rfl⟩))
      all_goals
        go_wp2
        go_ret3
        exact ⟨HF.out, HB3.out⟩
    | true =>
      have HF : Hid (PtOut s.data.toList p (.returned (.tuple #[.int .i64 n, .int .i64 ((p : Int) + (S.size : Nat)), .nilIface]))) := Lib.hid (by rw [HO.out, HP2.out]; simp only [if_true]; rw [HZ.out]; simp)
      clear hd hz hl hr hE hn hs hp HO HP HP2 CH hnt hS hSd hbb hm hSz
      go_enter Tryz.func127, Tryz.ntmps127
      go_wp2_with fail
      refine CS.out.mono ?_
      rintro e w1 ⟨rfl, hb⟩
      have HB := Lib.hid hb
      clear hb
      go_wp2_with fail
      refine (CN.out _ HB.out).mono ?_
      rintro e w2 ⟨rfl, hb2⟩
      have HB2 := Lib.hid (HB.out.trans (hb2.mono HB.out.size))
      clear hb2
      go_wp2_with fail
      go_region_with (first
        | (go_at_call 84; refine (CR.out _ HB2.out.drew).mono ?_; rintro e w3 ⟨rfl, hb3⟩; have HB3 := Lib.hid (HB2.out.drew.trans (hb3.mono HB2.out.drew.size)); clear hb3)
        | (go_at_call 80; refine (CH2.out _).mono ?_; rintro e w4 ⟨rfl, rfl⟩))
      all_goals
        go_wp2_with fail
        refine (CR.out _ HB3.out).mono ?_
        rintro e w5 ⟨rfl, hb5⟩
        have HB5 := Lib.hid (HB3.out.trans (hb5.mono HB3.out.size))
        clear hb5
        go_wp2
        go_ret3
        exact ⟨HF.out, HB5.out⟩
end Go.Proofs.YtjbkpcdpdifpnaaGreatDoor
/- What the listed variables of RangesForms' and RangesBack's rows give the walks, and the world that their witnesses start in. -/
namespace Go.Proofs.YtjbkpcdpdifpnaaGreatDoor
open Go.Lib Go.Shelf Go.Kt.Bits
set_option maxRecDepth 100000

noncomputable def theLaid6 : List (String × DataW Unit) := [("math/bits.deBruijn32tab", Rows.laid_math_bits_deBruijn32tab), ("math/bits.deBruijn64tab", Rows.laid_math_bits_deBruijn64tab), ("internal/strconv.uint64pow10", Rows.laid_internal_strconv_uint64pow10), ("strconv.ErrRange", Rows.laid_strconv_ErrRange), ("strconv.ErrSyntax", Rows.laid_strconv_ErrSyntax), ("glossary/ranges.parts", Rows.laid_glossary_ranges_parts)]

theorem trod_iface {H : Type} {enc : TypeId × Value → H} {P : Program} {w : World} {base : Nat} {sp : Nat → Bool} {held : Bool} {fuel : Nat} {t : TypeId} {cs : List Value} {T : String} {D : DataW H} {q : List MemPlace} {ms : Array (String × TypeId)}
    (ht : P.underlying t = some (.interface ms)) (h : DataW.trod enc P w base sp held fuel t cs = some (.iface T D, q)) : ∃ u v, cs = [.iface u v] := by
  cases fuel with
  | zero => simp [DataW.trod] at h
  | succ n =>
    unfold DataW.trod at h
    rw [ht] at h
    split at h <;> simp_all
theorem iface_of_reads {W : World} {nm : String} {g : Nat} {T : String} {D : DataW Unit} (hn : Tryz.prog.globalNamed nm = some g) (ht : (Tryz.prog.globals[g]?).map (·.type) = some 38) (h : VarReads Tryz.prog W nm (.iface T D)) : ∃ t p, W.cell? ⟨g, 0, none⟩ = some (.iface t p) := by
  obtain ⟨g', t, cs, fuel, p, hg, hty, hvar, hd⟩ := h
  obtain rfl := Option.some.inj (hn.symm.trans hg)
  obtain rfl := Option.some.inj (ht.symm.trans hty)
  obtain ⟨u, v, e⟩ := trod_iface Tryz.underlying38 hd
  refine ⟨u, v, ?_⟩
  rw [World.var?_cell hg hvar 0, ← Array.getElem?_toList, e]
  rfl
noncomputable def world6 (os : Os) : World := World.laidAll Tryz.prog os theLaid6
end Go.Proofs.YtjbkpcdpdifpnaaGreatDoor
/- What the walks of layer 3's laws ask of the world. -/
namespace Go.Proofs.YtjbkpcdpdifpnaaGreatDoor
open Go Go.RowKit Go.Kt Go.Kt.Rg

def FEnv (w : World) : Prop := REnv w ∧ ErrT w
theorem FEnv.below {A B : World} (h : FEnv A) (hb : Below A.heap.size A B) : FEnv B := ⟨h.1.below hb, h.2.below (lt_of_cell h.2) hb⟩
end Go.Proofs.YtjbkpcdpdifpnaaGreatDoor
/- What the listed variables of RangesReads', RangesMade's, RangesOf's rows give the walks, and the worlds that their witnesses start in. -/
namespace Go.Proofs.YtjbkpcdpdifpnaaGreatDoor
open Go.Lib Go.Shelf Go.Kt.Bits
set_option maxRecDepth 100000

noncomputable def theLaid9 : List (String × DataW Unit) := [("math/bits.deBruijn32tab", Rows.laid_math_bits_deBruijn32tab), ("math/bits.deBruijn64tab", Rows.laid_math_bits_deBruijn64tab), ("internal/strconv.uint64pow10", Rows.laid_internal_strconv_uint64pow10), ("errors.errorType", Rows.laid_errors_errorType), ("strconv.ErrRange", Rows.laid_strconv_ErrRange), ("strconv.ErrSyntax", Rows.laid_strconv_ErrSyntax), ("glossary/ranges.parts", Rows.laid_glossary_ranges_parts)]
noncomputable def theLaid9b : List (String × DataW Unit) := [("math/bits.deBruijn32tab", Rows.laid_math_bits_deBruijn32tab), ("math/bits.deBruijn64tab", Rows.laid_math_bits_deBruijn64tab), ("internal/strconv.uint64pow10", Rows.laid_internal_strconv_uint64pow10), ("strconv.ErrRange", Rows.laid_strconv_ErrRange), ("strconv.ErrSyntax", Rows.laid_strconv_ErrSyntax), ("glossary/ranges.parts", Rows.laid_glossary_ranges_parts)]
noncomputable def theLaid10 : List (String × DataW Unit) := [("math/bits.deBruijn32tab", Rows.laid_math_bits_deBruijn32tab), ("math/bits.deBruijn64tab", Rows.laid_math_bits_deBruijn64tab), ("internal/strconv.uint64pow10", Rows.laid_internal_strconv_uint64pow10), ("errors.errorType", Rows.laid_errors_errorType), ("glossary/ranges.parts", Rows.laid_glossary_ranges_parts)]
noncomputable def theLaid10b : List (String × DataW Unit) := [("math/bits.deBruijn32tab", Rows.laid_math_bits_deBruijn32tab), ("math/bits.deBruijn64tab", Rows.laid_math_bits_deBruijn64tab), ("internal/strconv.uint64pow10", Rows.laid_internal_strconv_uint64pow10), ("glossary/ranges.parts", Rows.laid_glossary_ranges_parts)]

theorem errIx9 : Tryz.prog.globalNamed "errors.errorType" = some 1 := by kernel_rfl
theorem rtypeIx9 : (Tryz.prog.cutTypes.find? (·.1 == "internal/reflectlite.rtype")).map (·.2) = some 300 := by kernel_rfl
theorem typesN9 : Tryz.prog.types.size = 366 := by kernel_rfl
theorem errRow9 : ((List.range 366).filter fun t => Tryz.prog.rowNamed t [101, 114, 114, 111, 114]) = [38] := by kernel_rfl
theorem errT_of_handles9 {W : World} (h : handlesMet Tryz.prog [("errors.errorType", Rows.laid_errors_errorType)] W) : ErrT W := by
  obtain ⟨name, u, ty, e1, e2, e3, e4, e5⟩ := h _ (List.mem_singleton.2 rfl)
  have en : name = [101, 114, 114, 111, 114] := (Option.some.inj e1).symm
  subst en
  obtain rfl := Option.some.inj (rtypeIx9.symm.trans e2)
  have hm : ty ∈ (List.range 366).filter fun t => Tryz.prog.rowNamed t [101, 114, 114, 111, 114] := List.mem_filter.2 ⟨List.mem_range.2 (by rw [← typesN9]; exact e3), e4⟩
  rw [errRow9] at hm
  obtain rfl := List.mem_singleton.1 hm
  have hh : typeHandle Tryz.prog 38 = tyH 38 := by kernel_rfl
  rw [hh] at e5
  simpa using World.var?_cell errIx9 e5 0


theorem of_laid9 {W : World} (h : laidMetH Tryz.prog theLaid9 W) : PEnv W ∧ FEnv W := by
  have h' : laidMet Tryz.prog theLaid9b W ∧ handlesMet Tryz.prog [("errors.errorType", Rows.laid_errors_errorType)] W := h
  have hb := btab_of_reads (bruijn_eq ▸ laidMet.reads h'.1 (.tail _ (.head _)))
  have hp := ptab_of_reads (parts_eq ▸ laidMet.reads h'.1 (.tail _ (.tail _ (.tail _ (.tail _ (.tail _ (.head _)))))))
  have e1 := laidMet.reads h'.1 (.tail _ (.tail _ (.tail _ (.head _))))
  have e2 := laidMet.reads h'.1 (.tail _ (.tail _ (.tail _ (.tail _ (.head _)))))
  have hR : REnv W := ⟨hp, hb, Go.Kt.lt_of_cell (hb 0 (by decide))⟩
  exact ⟨⟨hR, iface_of_reads (by kernel_rfl) (by kernel_rfl) e2, iface_of_reads (by kernel_rfl) (by kernel_rfl) e1⟩, hR, errT_of_handles9 h'.2⟩
noncomputable def errWorld9 (os : Os) : World :=
  let w0 := World.holding Tryz.prog os ⟨#[], #[], []⟩
  { w0 with heap := w0.heap.modify 1 fun
      | .cells _ t frozen => .cells #[.iface 300 (.agg #[tyH 38])] t frozen
      | o => o }
theorem laidMet_on9 {P : Program} {w0 : World} {laid : List (String × DataW Unit)} (args : Array Value) (hf : w0.layFits P laid [] = true) (hi : w0.layIfaces P laid (w0.layVars P laid) = true) :
    laidMet P laid ((w0.layVars P laid).forCall (fun _ _ => 0) ⟨#[], args, []⟩).memory := by
  have e1 : (laid.filter fun x => (laid.map (·.1)).contains x.1) = laid := List.filter_eq_self.2 fun x hx => List.contains_iff_mem.2 (List.mem_map.2 ⟨x, hx, rfl⟩)
  have e2 : (laid.filter fun x => !(laid.map (·.1)).contains x.1) = [] := List.filter_eq_nil_iff.2 fun x hx => by rw [List.contains_iff_mem.2 (List.mem_map.2 ⟨x, hx, rfl⟩)]; simp
  have h : laidMet P laid (w0.layVars P laid) := laidMet_layVars (w0 := w0) (laid.map (·.1)) [] (by rw [e1]) (by rw [e1]; exact hf) (by rw [e1]; exact hi) (by rw [e2]; exact LaidIn.none)
  exact h.of_heap (by simp [World.memory, World.forCall, Input.heap])


noncomputable def world9 (os : Os) : World := (errWorld9 os).layVars Tryz.prog theLaid9b
theorem world9_os (os : Os) : (world9 os).os = os := World.layVars_os _ _ _
theorem laid_met9 (os : Os) (args : Array Value) : laidMetH Tryz.prog theLaid9 ((world9 os).forCall (fun _ _ => 0) ⟨#[], args, []⟩).memory :=
  laidMetH_of_parts (show laidMet Tryz.prog theLaid9b _ from laidMet_on9 args (by kernel_rfl) (by kernel_rfl)) (by kernel_rfl)
noncomputable def world10 (os : Os) : World := (errWorld9 os).layVars Tryz.prog theLaid10b
end Go.Proofs.YtjbkpcdpdifpnaaGreatDoor
/- A point that is read as the document's own reading has it: the mathematics (for RangesReads). -/
namespace Go.Proofs.YtjbkpcdpdifpnaaGreatDoor
open Go Go.RowKit Go.Kt Go.Kt.Rg

def valB (b : UInt8) : Int := if 48 ≤ b.toNat ∧ b.toNat ≤ 57 then (b.toNat : Int) - 48 else if 97 ≤ b.toNat ∧ b.toNat ≤ 102 then (b.toNat : Int) - 87 else -1
def sumF : Int → List UInt8 → Int
  | n, [] => n
  | n, c :: t => sumF (16 * n + valB c) t
theorem sumF_append : ∀ (a b : List UInt8) (n : Int), sumF n (a ++ b) = sumF (sumF n a) b
  | [], _, _ => rfl
  | _c :: t, b, _n => sumF_append t b _
def dNum (r : Int) : Int := if 0 ≤ r ∧ r < 55296 then r else if 57344 ≤ r ∧ r ≤ 1114111 then r - 2048 else if 1114240 ≤ r ∧ r ≤ 1114367 then r - 2176 else -1
theorem dNum_numB (r : Int) : dNum r = if (numB r).2 = true then (numB r).1 else -1 := by
  unfold dNum numB
  by_cases c1 : r < 0
  · rw [if_neg (by omega), if_neg (by omega), if_neg (by omega), if_pos c1]; rfl
  rw [if_neg c1]
  by_cases c2 : r ≤ 55295
  · rw [if_pos (by omega), if_pos c2]; rfl
  rw [if_neg (show ¬ (0 ≤ r ∧ r < 55296) by omega), if_neg c2]
  by_cases c3 : r < 57344
  · rw [if_neg (by omega), if_neg (by omega), if_pos c3]; rfl
  rw [if_neg c3]
  by_cases c4 : r ≤ 1114111
  · rw [if_pos (by omega), if_pos c4]; rfl
  rw [if_neg (show ¬ (57344 ≤ r ∧ r ≤ 1114111) by omega), if_neg c4]
  by_cases c5 : r < 1114240
  · rw [if_neg (by omega), if_pos c5]; rfl
  rw [if_neg c5]
  by_cases c6 : r ≤ 1114367
  · rw [if_pos (by omega), if_pos c6]; rfl
  rw [if_neg (by omega), if_neg c6]; rfl
theorem dNum_ok {r : Int} (h : 0 ≤ dNum r) : (numB r).2 = true ∧ (numB r).1 = dNum r := by
  have e := dNum_numB r
  split at e
  · rename_i h2
    exact ⟨h2, e.symm⟩
  · omega
def dOne (r : Int) : List UInt8 := if 1114240 ≤ r then [92, 120] ++ hexL (r - 1114112).toNat else [92, 117, 123] ++ hexL r.toNat ++ [125]
theorem dOne_print {r : Int} (h : 0 ≤ dNum r) : dOne r = printP r := by
  unfold dOne printP
  by_cases h1 : 1114240 ≤ r
  · rw [if_pos h1, if_pos (by omega)]
  · have h2 : ¬ 1114111 < r := by
      intro h3
      unfold dNum at h
      rw [if_neg (by omega), if_neg (by omega), if_neg (by omega)] at h
      omega
    rw [if_neg h1, if_neg h2]
theorem valB_hex : ∀ d, d < 16 → valB (hexD d) = (d : Int) := by decide
theorem valB_fin : ∀ k : Fin 256, 0 ≤ valB (UInt8.ofNat k.val) → hexD (valB (UInt8.ofNat k.val)).toNat = UInt8.ofNat k.val ∧ valB (UInt8.ofNat k.val) < 16 := by decide +kernel
theorem valB_back {c : UInt8} (h : 0 ≤ valB c) : hexD (valB c).toNat = c ∧ valB c < 16 := by
  have e : UInt8.ofNat c.toNat = c := by simp
  have := valB_fin ⟨c.toNat, c.toNat_lt⟩
  simp only [e] at this
  exact this h
theorem hex_pair : ∀ u, u < 256 → 16 ≤ u → hexL u = [hexD (u / 16), hexD (u % 16)] := by decide +kernel
theorem sumF_hexF : ∀ (f u : Nat), u < 16 ^ (f + 1) → sumF 0 (hexF f u) = (u : Int)
  | 0, u, h => by
    have hu : u < 16 := by simpa using h
    simp only [hexF, sumF, Nat.mod_eq_of_lt hu, valB_hex u hu]
    omega
  | f + 1, u, h => by
    unfold hexF
    by_cases h16 : u < 16
    · rw [if_pos h16]
      simp only [sumF, valB_hex u h16]
      omega
    · have hd : u / 16 < 16 ^ (f + 1) := by
        have : u < 16 ^ (f + 1) * 16 := by rw [← Nat.pow_succ]; exact h
        omega
      have h2 := valB_hex (u % 16) (Nat.mod_lt _ (by decide))
      rw [if_neg h16, sumF_append, sumF_hexF f (u / 16) hd]
      simp only [sumF, h2]
      omega
theorem okB_hexF : ∀ (f u : Nat), ∀ c ∈ hexF f u, 0 ≤ valB c
  | 0, u, c, h => by
    simp only [hexF, List.mem_singleton] at h
    rw [h, valB_hex _ (Nat.mod_lt _ (by decide))]; omega
  | f + 1, u, c, h => by
    unfold hexF at h
    split at h
    · rename_i h16
      rw [List.mem_singleton] at h
      rw [h, valB_hex _ h16]; omega
    · rcases List.mem_append.1 h with h | h
      · exact okB_hexF f _ c h
      · rw [List.mem_singleton] at h
        rw [h, valB_hex _ (Nat.mod_lt _ (by decide))]; omega

def rdV (l : List UInt8) : Int × Nat := match ptAt l with | none => (-1, 0) | some x => x
theorem rdV_print {r : Int} (h : 0 ≤ dNum r) (rest : List UInt8) : rdV (dOne r ++ rest) = (dNum r, (dOne r).length) := by
  obtain ⟨h1, h2⟩ := dNum_ok h
  have hb := numB_bd r
  have e := (num_true h1).1
  have := ptAt_print hb.1 hb.2 rest
  rw [e, h2, ← dOne_print h] at this
  unfold rdV
  rw [this]
theorem rdV_some {l : List UInt8} (h : rdV l ≠ (-1, 0)) : ∃ r rest, 0 ≤ dNum r ∧ l = dOne r ++ rest := by
  unfold rdV at h
  cases hp : ptAt l with
  | none => rw [hp] at h; exact absurd rfl h
  | some x =>
    obtain ⟨n, k⟩ := x
    obtain ⟨h0, h1, _, rest, e⟩ := ptAt_sound hp
    have hn := num_pnt h0 h1
    have hd : dNum (pntI n) = n := by rw [dNum_numB, hn]; rfl
    exact ⟨pntI n, rest, by omega, by rw [dOne_print (by omega)]; exact e⟩
theorem rd_x {c d : UInt8} {t : List UInt8} (ha : 8 ≤ valB c) (hb : 0 ≤ valB d) : rdV (92 :: 120 :: c :: d :: t) = (dNum (1114112 + 16 * valB c + valB d), 4) := by
  obtain ⟨c1, c2⟩ := valB_back (c := c) (by omega)
  obtain ⟨d1, d2⟩ := valB_back hb
  obtain ⟨u, hu⟩ : ∃ u : Nat, valB c = u := ⟨(valB c).toNat, by omega⟩
  obtain ⟨v, hv⟩ : ∃ v : Nat, valB d = v := ⟨(valB d).toNat, by omega⟩
  rw [hu, Int.toNat_natCast] at c1
  rw [hv, Int.toNat_natCast] at d1
  have hn : 0 ≤ dNum (1114112 + 16 * valB c + valB d) := by
    unfold dNum
    rw [if_neg (by omega), if_neg (by omega), if_pos (by omega)]
    omega
  have ho : dOne (1114112 + 16 * valB c + valB d) = [92, 120, c, d] := by
    unfold dOne
    rw [if_pos (by omega), show (1114112 + 16 * valB c + valB d - 1114112).toNat = 16 * u + v by omega, hex_pair _ (by omega) (by omega)]
    rw [show (16 * u + v) / 16 = u by omega, show (16 * u + v) % 16 = v by omega, c1, d1]
    rfl
  have := rdV_print hn t
  rw [ho] at this
  exact this
theorem rd_u {l : List UInt8} {e : Nat} {r : Int} (he : e ≤ l.length) (h : l.take e = dOne r) (h0 : 0 ≤ dNum r) : rdV l = (dNum r, e) := by
  have := rdV_print h0 (l.drop e)
  rw [← h, List.take_append_drop, List.length_take, Nat.min_eq_left he] at this
  exact this
theorem hexF_le : ∀ (f u m : Nat), u < 16 ^ (m + 1) → m ≤ f → (hexF f u).length ≤ m + 1
  | 0, u, m, _, _ => by simp [hexF]
  | f + 1, u, m, h, hm => by
    unfold hexF
    split
    · simp
    · rename_i h16
      cases m with
      | zero => simp at h; omega
      | succ m =>
        have : u < 16 ^ (m + 1) * 16 := by rw [← Nat.pow_succ]; exact h
        have := hexF_le f (u / 16) m (by omega) (by omega)
        rw [List.length_append, List.length_singleton]
        omega
theorem hex_six (u : Nat) (h : u < 16777216) : (hexL u).length ≤ 6 := hexF_le 8 u 5 (by simpa using h) (by omega)
theorem one_u {r : Int} (h : 0 ≤ dNum r) (hr : r < 1114240) : dOne r = [92, 117, 123] ++ hexL r.toNat ++ [125] ∧ 0 ≤ r ∧ r ≤ 1114111 ∧ (hexL r.toNat).length ≤ 6 ∧ 1 ≤ (hexL r.toNat).length := by
  have h2 : 0 ≤ r ∧ r ≤ 1114111 := by
    unfold dNum at h
    repeat' split at h
    all_goals omega
  refine ⟨by unfold dOne; rw [if_neg (by omega)], h2.1, h2.2, ?_, ?_⟩
  · exact hex_six r.toNat (by omega)
  · rcases Nat.eq_zero_or_pos (hexL r.toNat).length with h | h
    · exact absurd (List.eq_nil_of_length_eq_zero h) (hexF_ne 8 _)
    · exact h
theorem shape_u {l : List UInt8} {r : Int} {rest : List UInt8} (h : 0 ≤ dNum r) (hr : r < 1114240) (e : l = dOne r ++ rest) :
    ∃ m, 1 ≤ m ∧ m ≤ 6 ∧ l[3 + m]? = some 125 ∧ (∀ j, j < m → l[3 + j]? ≠ some 125) ∧ (l.take (3 + m)).drop 3 = hexL r.toNat ∧ l.take (4 + m) = dOne r ∧ l.take 3 = [92, 117, 123] := by
  obtain ⟨h1, h2, h3, h4, h5⟩ := one_u h hr
  have e2 : l = [92, 117, 123] ++ (hexL r.toNat ++ 125 :: rest) := by rw [e, h1]; simp
  refine ⟨(hexL r.toNat).length, h5, h4, ?_, fun j hj => ?_, ?_, ?_, ?_⟩
  · rw [e2, List.getElem?_append_right (by simp), show 3 + (hexL r.toNat).length - ([92, 117, 123] : List UInt8).length = (hexL r.toNat).length by simp, List.getElem?_append_right (Nat.le_refl _), Nat.sub_self]
    rfl
  · rw [e2, List.getElem?_append_right (by simp), show 3 + j - ([92, 117, 123] : List UInt8).length = j by simp, List.getElem?_append_left hj, List.getElem?_eq_getElem hj]
    intro hc
    injection hc with hc
    exact (hexF_clean 8 r.toNat _ (List.getElem_mem hj)).1 hc
  · rw [e2, List.take_append, List.take_of_length_le (by simp), show 3 + (hexL r.toNat).length - ([92, 117, 123] : List UInt8).length = (hexL r.toNat).length by simp, List.take_append_of_le_length (Nat.le_refl _), List.take_length]
    rfl
  · rw [e, List.take_append_of_le_length, List.take_of_length_le]
    · rw [h1]; simp; omega
    · rw [h1]; simp; omega
  · rw [e2]; rfl
theorem dNum_hi {r : Int} (h : 0 ≤ dNum r) : r ≤ 1114367 := by
  unfold dNum at h
  repeat' split at h
  all_goals omega
theorem shape_x {r : Int} (h : 0 ≤ dNum r) (hr : 1114240 ≤ r) (rest : List UInt8) : ∃ c d, dOne r ++ rest = 92 :: 120 :: c :: d :: rest ∧ 8 ≤ valB c ∧ 0 ≤ valB d := by
  have h2 := dNum_hi h
  obtain ⟨u, hu⟩ : ∃ u : Nat, r = 1114112 + (u : Int) := ⟨(r - 1114112).toNat, by omega⟩
  refine ⟨hexD (u / 16), hexD (u % 16), ?_, ?_, ?_⟩
  · unfold dOne
    rw [if_pos hr, show (r - 1114112).toNat = u by omega, hex_pair u (by omega) (by omega)]
    rfl
  · rw [valB_hex _ (by omega)]; omega
  · rw [valB_hex _ (by omega)]; omega
theorem rd_bad {l : List UInt8} {e : Nat} (h5 : 5 ≤ e) (hu : l.take 3 = [92, 117, 123]) (hc : l[e - 1]? = some 125) (hj : ∀ j, 4 ≤ j → j + 1 < e → l[j]? ≠ some 125)
    (hbad : (∃ c ∈ (l.take (e - 1)).drop 3, valB c < 0) ∨ 1114111 < sumF 0 ((l.take (e - 1)).drop 3) ∨ dNum (sumF 0 ((l.take (e - 1)).drop 3)) < 0 ∨ dOne (sumF 0 ((l.take (e - 1)).drop 3)) ≠ l.take e) : rdV l = (-1, 0) := by
  apply Classical.byContradiction
  intro hno
  obtain ⟨r, rest, h0, el⟩ := rdV_some hno
  by_cases hr : r < 1114240
  · obtain ⟨m, m1, m6, k1, k2, k3, k4, k5⟩ := shape_u h0 hr el
    have hr0 := (one_u h0 hr).2
    by_cases c1 : 3 + m + 1 < e
    · exact hj (3 + m) (by omega) c1 k1
    by_cases c2 : e < 3 + m + 1
    · have := k2 (e - 1 - 3) (by omega)
      rw [show 3 + (e - 1 - 3) = e - 1 by omega] at this
      exact this hc
    have e3 : e = 4 + m := by omega
    subst e3
    rw [show 4 + m - 1 = 3 + m by omega, k3] at hbad
    have hs : sumF 0 (hexL r.toNat) = r := by
      unfold hexL
      rw [sumF_hexF 8 _ (by omega)]
      omega
    rw [hs] at hbad
    rcases hbad with ⟨c, hc1, hc2⟩ | hb | hb | hb
    · have := okB_hexF 8 _ c hc1
      omega
    · omega
    · omega
    · exact hb k4.symm
  · obtain ⟨c, d, e2, _⟩ := shape_x h0 (by omega) rest
    rw [el, e2] at hu
    simp at hu
theorem rd_no {l : List UInt8} (hx : ∀ c d t, l = 92 :: 120 :: c :: d :: t → ¬ (8 ≤ valB c ∧ 0 ≤ valB d)) (hu : l.take 3 = [92, 117, 123] → ∀ j, 4 ≤ j → j < 10 → l[j]? ≠ some 125) : rdV l = (-1, 0) := by
  apply Classical.byContradiction
  intro hno
  obtain ⟨r, rest, h0, el⟩ := rdV_some hno
  by_cases hr : r < 1114240
  · obtain ⟨m, m1, m6, k1, k2, k3, k4, k5⟩ := shape_u h0 hr el
    exact hu k5 (3 + m) (by omega) (by omega) k1
  · obtain ⟨c, d, e2, hcd⟩ := shape_x h0 (by omega) rest
    exact hx c d rest (el.trans e2) hcd
theorem spAt_rd (s : List UInt8) (p : Nat) : spAt s p =
    if (rdV (s.drop p)).1 < 0 then .error (9, p)
    else if s[p + (rdV (s.drop p)).2]? = some 45 then
      (if (rdV (s.drop (p + (rdV (s.drop p)).2 + 1))).1 < 0 then .error (9, p + (rdV (s.drop p)).2 + 1)
       else if (rdV (s.drop (p + (rdV (s.drop p)).2 + 1))).1 ≤ (rdV (s.drop p)).1 then .error (4, p)
       else .ok (((rdV (s.drop p)).1, (rdV (s.drop (p + (rdV (s.drop p)).2 + 1))).1 + 1), p + (rdV (s.drop p)).2 + 1 + (rdV (s.drop (p + (rdV (s.drop p)).2 + 1))).2))
    else .ok (((rdV (s.drop p)).1, (rdV (s.drop p)).1 + 1), p + (rdV (s.drop p)).2) := by
  unfold spAt
  cases h1 : ptAt (s.drop p) with
  | none =>
    have : rdV (s.drop p) = (-1, 0) := by unfold rdV; rw [h1]
    rw [this]; rfl
  | some a =>
    obtain ⟨lo, k⟩ := a
    have e1 : rdV (s.drop p) = (lo, k) := by unfold rdV; rw [h1]
    have hl := ptAt_sound h1
    rw [e1]
    simp only
    rw [if_neg (show ¬ lo < 0 by omega)]
    split
    · cases h2 : ptAt (s.drop (p + k + 1)) with
      | none =>
        have : rdV (s.drop (p + k + 1)) = (-1, 0) := by unfold rdV; rw [h2]
        rw [this]; rfl
      | some b =>
        obtain ⟨hi, m⟩ := b
        have e2 : rdV (s.drop (p + k + 1)) = (hi, m) := by unfold rdV; rw [h2]
        have hh := ptAt_sound h2
        rw [e2]
        simp only
        rw [if_neg (show ¬ hi < 0 by omega)]
    · rfl
end Go.Proofs.YtjbkpcdpdifpnaaGreatDoor
/- The document's answer for ranges: Number, Point, value, hex, One. -/
namespace Go.Proofs.YtjbkpcdpdifpnaaGreatDoor
open Go Go.RowKit Go.Kt Go.Kt.Rg Go.Lib
attribute [local go_sem] Oper.semAt_some

set_option maxRecDepth 100000 in
theorem xNumber_any (r : Int) (w : World) (h0 : -2147483648 ≤ r) (h1 : r ≤ 2147483647) :
    Calls Tryz.prog 44 #[.int .i32 r] w fun e w' => e = .returned (.int .i64 (dNum r)) ∧ w = w' := by
  go_enter Tryz.func44, Tryz.ntmps44
  go_wp2
  all_goals go_ret
  all_goals (refine ⟨?_, rfl⟩; unfold dNum)
  all_goals first
    | (exfalso; omega)
    | (rw [if_pos (by omega)]; first | rfl | (simp; omega))
    | (rw [if_neg (by omega), if_pos (by omega)]; first | rfl | (simp; omega))
    | (rw [if_neg (by omega), if_neg (by omega), if_pos (by omega)]; first | rfl | (simp; omega))
    | (rw [if_neg (by omega), if_neg (by omega), if_neg (by omega)]; rfl)
set_option maxRecDepth 100000 in
theorem xPoint_any (n : Int) (w : World) (h0 : 0 ≤ n) (h1 : n < 1112192) :
    Calls Tryz.prog 101 #[.int .i64 n] w fun e w' => e = .returned (.int .i32 (pntI n)) ∧ w = w' := by
  go_enter Tryz.func101, Tryz.ntmps101
  go_wp2
  all_goals go_ret
  all_goals (refine ⟨?_, rfl⟩; unfold pntI)
  all_goals first
    | (exfalso; omega)
    | (rw [if_pos (by omega)]; first | rfl | (simp; omega))
    | (rw [if_neg (by omega), if_pos (by omega)]; first | rfl | (simp; omega))
    | (rw [if_neg (by omega), if_neg (by omega), if_pos (by omega)]; first | rfl | (simp; omega))

def dgB : ByteArray := ⟨#[48, 49, 50, 51, 52, 53, 54, 55, 56, 57, 97, 98, 99, 100, 101, 102]⟩
theorem dgB_at : ∀ k, k < 16 → bAt dgB k = ((hexD k).toNat : Nat) := by decide
theorem dgB_one : ∀ k, k < 16 → dgB.extract k (k + 1) = ⟨[hexD k].toArray⟩ := by
  intro k hk
  have : ∀ k, k < 16 → (dgB.extract k (k + 1)).data.toList = [hexD k] := by decide +kernel
  apply ByteArray.ext
  rw [← Array.toList_inj, this k hk]
theorem valB_none {c : UInt8} (h : ∀ k, k < 16 → hexD k ≠ c) : valB c = -1 := by
  by_cases h0 : 0 ≤ valB c
  · have := valB_back h0
    exact absurd this.1 (h _ (by omega))
  · unfold valB at h0 ⊢
    split at h0
    · omega
    · rw [if_neg (by assumption)]
      split at h0
      · omega
      · rw [if_neg (by assumption)]
set_option maxRecDepth 100000 in
theorem xvalue_any (c : UInt8) (w : World) :
    Calls Tryz.prog 133 #[.int .u8 (c.toNat : Nat)] w fun e w' => e = .returned (.int .i64 (valB c)) ∧ w = w' := by
  obtain ⟨S, hS⟩ : ∃ S : ByteArray, dgB = S := ⟨_, rfl⟩
  have hz : Hid (S.size = 16) := Lib.hid (by rw [← hS]; rfl)
  have HSS := Lib.hid hS
  obtain ⟨b, hb⟩ : ∃ b : Int, ((c.toNat : Nat) : Int) = b := ⟨_, rfl⟩
  rw [hb]
  have HB := Lib.hid hb
  clear hS hb
  go_enter Tryz.func133, Tryz.ntmps133
  go_wp2
  rw [show (⟨#[48, 49, 50, 51, 52, 53, 54, 55, 56, 57, 97, 98, 99, 100, 101, 102]⟩ : ByteArray) = S from HSS.out]
  have hS := HSS.out
  have hz := hz.out
  go_loop [3] (fun v => ∃ k : Nat, k ≤ 16 ∧ v = .int .i64 k ∧ ∀ j, j < k → hexD j ≠ c) (fun v => 16 - (RowKit.intOf v).toNat)
  case atStart => exact ⟨0, by omega, rfl, fun j hj => by omega⟩
  case round =>
    obtain ⟨k, hk, rfl, hc⟩ := hrel
    by_cases hlt : k < 16
    · have HI : ∀ w, (Instr.index 9 (.string S) (.int .i64 (k : Nat))).run Tryz.prog w = .ok (.int .u8 (bAt S k)) w := fun w => run_bAt S k (by omega) w
      have hd : bAt S k = ((hexD k).toNat : Nat) := by rw [← hS]; exact dgB_at k hlt
      have h16 : (k : Int) < 16 := by omega
      have HE : Hid (bAt S k = b → hexD k = c) := Lib.hid (fun h => by
        rw [hd, ← HB.out] at h
        exact UInt8.toNat_inj.1 (by omega))
      have HE2 : Hid (hexD k = c → bAt S k = b) := Lib.hid (fun h => by rw [hd, h, HB.out])
      have HC := Lib.hid hc
      generalize bAt S k = a at *
      clear hc hd hS
      by_cases he : a = b
      · have HV : Hid (valB c = (k : Nat)) := Lib.hid (by rw [← HE.out he]; exact valB_hex k hlt)
        subst he
        clear HE HE2
        go_wp2
        go_ret
        exact ⟨by rw [HV.out]; rfl, rfl⟩
      · have HN : Hid (∀ j, j < k + 1 → hexD j ≠ c) := Lib.hid (fun j hj h => by
          rcases Nat.lt_or_ge j k with h2 | h2
          · exact HC.out j h2 h
          · obtain rfl : j = k := by omega
            exact he (HE2.out h))
        clear HE HE2
        go_wp2
        go_round
        case rel => exact ⟨k + 1, by omega, by go_num, HN.out⟩
        case measure => simp [RowKit.intOf]; omega
    · obtain rfl : k = 16 := by omega
      have HV : Hid (valB c = -1) := Lib.hid (valB_none hc)
      clear hc hS
      go_wp2
      go_ret
      exact ⟨by rw [HV.out]; rfl, rfl⟩
theorem hexF_cut : ∀ (f u : Nat), u < 16 → hexF f u = [hexD u]
  | 0, u, h => by rw [hexF, Nat.mod_eq_of_lt h]
  | f + 1, u, h => by rw [hexF, if_pos h]
set_option maxRecDepth 100000 in
theorem xhex_small (f u : Nat) (w : World) (hu : u < 16) :
    Calls Tryz.prog 139 #[.int .i64 (u : Nat)] w fun e w' => e = .returned (.string ⟨(hexF f u).toArray⟩) ∧ Below w.heap.size w w' := by
  have h16 : (u : Int) < 16 := by omega
  obtain ⟨S, hS⟩ : ∃ S : ByteArray, dgB = S := ⟨_, rfl⟩
  have hz : Hid (S.size = 16) := Lib.hid (by rw [← hS]; rfl)
  have HX : Hid (S.extract u (u + 1) = ⟨(hexF f u).toArray⟩) := Lib.hid (by rw [← hS, dgB_one u (by omega), hexF_cut f u (by omega)])
  have HSS := Lib.hid hS
  have hw : IntKind.i64.wrap ((u : Int) + 1) = (u : Int) + 1 := IntWalk.i64_in _ (by omega)
  have e1 : ((u : Int) + 1).toNat = u + 1 := by omega
  have e2 : (u : Int) ≤ (u : Int) + 1 := by omega
  have e3 : (u : Int) + 1 ≤ 16 := by omega
  clear hS
  go_enter Tryz.func139, Tryz.ntmps139
  rw [show (⟨#[48, 49, 50, 51, 52, 53, 54, 55, 56, 57, 97, 98, 99, 100, 101, 102]⟩ : ByteArray) = S from HSS.out]
  have hz := hz.out
  go_wp2
  go_ret
  exact ⟨by rw [← HX.out]; rfl, Below.refl _ _⟩
set_option maxRecDepth 100000 in
theorem xhex_any : ∀ (f u : Nat) (w : World), f ≤ 8 → u < 16 ^ (f + 1) →
    Calls Tryz.prog 139 #[.int .i64 (u : Nat)] w fun e w' => e = .returned (.string ⟨(hexF f u).toArray⟩) ∧ Below w.heap.size w w' := by
  intro f
  induction f with
  | zero => exact fun u w _ hu => xhex_small 0 u w (by simpa using hu)
  | succ f ih =>
    intro u w hf hu
    by_cases h16 : u < 16
    · exact xhex_small _ u w h16
    · obtain ⟨d, hd⟩ : ∃ d : Nat, u / 16 = d := ⟨_, rfl⟩
      obtain ⟨m, hm⟩ : ∃ m : Nat, u % 16 = m := ⟨_, rfl⟩
      have hub : u < 16 ^ 9 := Nat.lt_of_lt_of_le hu (Nat.pow_le_pow_right (by decide) (by omega))
      have hd9 : d < 16 ^ (f + 1) := by
        have : u < 16 ^ (f + 1) * 16 := by rw [← Nat.pow_succ]; exact hu
        omega
      have C := Lib.hid (fun V => ih d V (by omega) hd9)
      have hm16 : m < 16 := by omega
      obtain ⟨S, hS⟩ : ∃ S : ByteArray, dgB = S := ⟨_, rfl⟩
      have hz : Hid (S.size = 16) := Lib.hid (by rw [← hS]; rfl)
      have HX : Hid (S.extract m (m + 1) = ⟨[hexD m].toArray⟩) := Lib.hid (by rw [← hS, dgB_one m hm16])
      have HP : Hid ((⟨(hexF f d).toArray⟩ : ByteArray) ++ S.extract m (m + 1) = ⟨(hexF (f + 1) u).toArray⟩) := Lib.hid (by
        rw [HX.out, bytes_add, hexF, if_neg h16, hd, hm])
      have hx1 : (S.extract m (m + 1)).size = 1 := by rw [HX.out]; rfl
      have hl := hexF_len f d
      have hsz : (⟨(hexF f d).toArray⟩ : ByteArray).size ≤ 9 := by show (hexF f d).toArray.size ≤ 9; simp; omega
      have HSS := Lib.hid hS
      have htd : (u : Int).tdiv 16 = (d : Int) := by rw [Int.tdiv_eq_ediv_of_nonneg (by omega)]; omega
      have htm : (u : Int).tmod 16 = (m : Int) := by rw [Int.tmod_eq_emod_of_nonneg (by omega)]; omega
      have hwd : IntKind.i64.wrap (d : Int) = (d : Int) := IntWalk.i64_in _ (by omega)
      have hw : IntKind.i64.wrap ((m : Int) + 1) = (m : Int) + 1 := IntWalk.i64_in _ (by omega)
      have h16' : ¬ (u : Int) < 16 := by omega
      have e0 : (0 : Int) ≤ (m : Int) := by omega
      have e1 : ((m : Int) + 1).toNat = m + 1 := by omega
      have e2 : (m : Int) ≤ (m : Int) + 1 := by omega
      have e3 : (m : Int) + 1 ≤ 16 := by omega
      generalize (⟨(hexF f d).toArray⟩ : ByteArray) = L at *
      clear hS hd hm hub hd9 hl hu ih h16 hf
      go_enter Tryz.func139, Tryz.ntmps139
      rw [show (⟨#[48, 49, 50, 51, 52, 53, 54, 55, 56, 57, 97, 98, 99, 100, 101, 102]⟩ : ByteArray) = S from HSS.out]
      have hz := hz.out
      go_wp2_with fail
      go_region_with (go_at_call 139; refine (C.out _).mono ?_; rintro e w1 ⟨rfl, hb⟩; have HB := Lib.hid hb; clear hb)
      go_wp2
      go_ret
      exact ⟨by rw [← HP.out]; rfl, (Below.refl _ w).drew.trans HB.out⟩
set_option maxRecDepth 100000 in
theorem xOne_any (r : Int) (w : World) (h0 : 0 ≤ r) (h1 : r ≤ 1114367) :
    Calls Tryz.prog 102 #[.int .i32 r] w fun e w' => e = .returned (.string ⟨(dOne r).toArray⟩) ∧ Below w.heap.size w w' := by
  by_cases h : 1114240 ≤ r
  · obtain ⟨u, hu⟩ : ∃ u : Nat, r = 1114112 + (u : Int) := ⟨(r - 1114112).toNat, by omega⟩
    have C := Lib.hid (xhex_any 8 u w (by omega) (by omega))
    have HP : Hid ((⟨#[92, 120]⟩ : ByteArray) ++ ⟨(hexF 8 u).toArray⟩ = ⟨(dOne r).toArray⟩) := Lib.hid (by
      unfold dOne
      rw [if_pos h, show (r - 1114112).toNat = u by omega]
      exact bytes_add [92, 120] (hexL u))
    have hl := hexF_len 8 u
    have hsz : (⟨(hexF 8 u).toArray⟩ : ByteArray).size ≤ 9 := by show (hexF 8 u).toArray.size ≤ 9; simp; omega
    have hw : IntKind.i64.wrap (r - 1114112) = (u : Int) := (IntWalk.i64_in _ (by omega)).trans (by omega)
    have hw2 : IntKind.i64.wrap r = r := IntWalk.i64_in _ (by omega)
    generalize (⟨(hexF 8 u).toArray⟩ : ByteArray) = L at *
    clear hu hl h0
    go_enter Tryz.func102, Tryz.ntmps102
    go_wp2_with fail
    refine C.out.mono ?_
    rintro e w1 ⟨rfl, hb⟩
    go_wp2
    go_ret
    exact ⟨by rw [← HP.out]; rfl, hb⟩
  · obtain ⟨u, hu⟩ : ∃ u : Nat, r = (u : Int) := ⟨r.toNat, by omega⟩
    subst hu
    have C := Lib.hid (xhex_any 8 u w (by omega) (by omega))
    have HP : Hid ((⟨#[92, 117, 123]⟩ : ByteArray) ++ ⟨(hexF 8 u).toArray⟩ ++ ⟨#[125]⟩ = ⟨(dOne (u : Int)).toArray⟩) := Lib.hid (by
      unfold dOne
      rw [if_neg h, bytes_add [92, 117, 123] (hexF 8 u)]
      exact bytes_add _ [125])
    have hl := hexF_len 8 u
    have hsz : (⟨(hexF 8 u).toArray⟩ : ByteArray).size ≤ 9 := by show (hexF 8 u).toArray.size ≤ 9; simp; omega
    have hw2 : IntKind.i64.wrap (u : Int) = (u : Int) := IntWalk.i64_in _ (by omega)
    generalize (⟨(hexF 8 u).toArray⟩ : ByteArray) = L at *
    have hsz2 : ((⟨#[92, 117, 123]⟩ : ByteArray) ++ L).size ≤ 12 := by rw [ByteArray.size_append]; show 3 + L.size ≤ 12; omega
    clear hl
    go_enter Tryz.func102, Tryz.ntmps102
    go_wp2_with fail
    refine C.out.mono ?_
    rintro e w1 ⟨rfl, hb⟩
    go_wp2
    go_ret
    exact ⟨by rw [← HP.out]; rfl, hb⟩
end Go.Proofs.YtjbkpcdpdifpnaaGreatDoor
