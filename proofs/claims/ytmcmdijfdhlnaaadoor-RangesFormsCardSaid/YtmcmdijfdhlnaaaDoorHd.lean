/- parsedPoint: the point that is written at a byte. -/
import Derived.Test.YtmcmdijfdhlnaaaDoorHc
import Derived.Test.YtmcmdijfdhlnaaaDoorY2
import Derived.Deep.RegionWith
namespace Go.Proofs.YtmcmdijfdhlnaaaDoor
open Go Go.RowKit Go.Kt Go.Kt.Rg

/-- What Parse reads besides its text. -/
def PEnv (w : World) : Prop := REnv w ∧ SVar w
theorem PEnv.below {A B : World} (h : PEnv A) (hb : Below A.heap.size A B) : PEnv B := ⟨h.1.below hb, h.2.below hb⟩
abbrev faultV (no at_ : Int) : Value := .iface 62 (.agg #[.int .i64 no, .int .i64 0, .int .i64 at_])
/-- The answer of parsedPoint. -/
def PtOut (l : List UInt8) (p : Nat) (e : Ending) : Prop :=
  match ptAt (l.drop p) with
  | some (n, k) => e = .returned (.tuple #[.int .i64 n, .int .i64 ((p + k : Nat) : Int), .nilIface])
  | none => e = .returned (.tuple #[.int .i64 0, .int .i64 0, faultV 9 (p : Nat)])

set_option maxRecDepth 100000 in
set_option maxHeartbeats 2000000 in
theorem rpp_any (s : ByteArray) (p : Nat) (w : World) (hp : p ≤ s.size) (hs : s.size ≤ 140737488351232) (hE : PEnv w) :
    Calls Tryd.prog 43 #[.string s, .int .i64 p] w fun e w' => PtOut s.data.toList p e ∧ Below w.heap.size w w' := by
  have hd : (s.extract p s.size).data.toList = s.data.toList.drop p := by rw [Lib.Pa.extract_from]
  have hz : (s.extract p s.size).size ≤ 140737488351232 := by rw [ByteArray.size_extract]; omega
  have CS := Lib.hid (rspelt_any (s.extract p s.size) w hz hE.2)
  have CH := Lib.hid (fun (t : ByteArray) V => Tryd.strings_HasPrefix (s.extract p s.size) t V)
  obtain ⟨l, hl⟩ : ∃ l, s.data.toList.drop p = l := ⟨_, rfl⟩
  rw [hd, hl] at CS
  simp only [hd, hl] at CH
  have HO : Hid (∀ e, PtOut s.data.toList p e ↔ match ptAt l with
    | some (n, k) => e = .returned (.tuple #[.int .i64 n, .int .i64 ((p + k : Nat) : Int), .nilIface])
    | none => e = .returned (.tuple #[.int .i64 0, .int .i64 0, faultV 9 (p : Nat)])) := Lib.hid fun e => by rw [← hl]; rfl
  obtain ⟨r, hr⟩ : ∃ r, sptR l = r := ⟨_, rfl⟩
  have hrb := sptR_bd l
  rw [hr] at CS hrb
  have CN := Lib.hid (fun V (hb : Below w.heap.size w V) => rnumber_any r V (hE.1.1.next hb) ⟨by omega, by omega⟩)
  obtain ⟨n, t, hn⟩ : ∃ n t, numB r = (n, t) := ⟨_, _, rfl⟩
  have HP : Hid (ptAt l = if t && (printP r).isPrefixOf l then some (n, (printP r).length) else none) := Lib.hid (by unfold ptAt; rw [hr, hn])
  rw [hn] at CN
  simp only at CN
  have hpl : (p : Int) ≤ s.size := by omega
  have hp0 : (0 : Int) ≤ p := by omega
  have hp1 : (p : Int) ≤ 140737488351232 := by omega
  cases t with
  | false =>
    have HF : Hid (PtOut s.data.toList p (.returned (.tuple #[.int .i64 0, .int .i64 0, faultV 9 (p : Nat)]))) := Lib.hid (by rw [HO.out, HP.out]; simp)
    clear hd hz hl hr hE hn hs hp HO HP CH
    go_enter Tryd.func43, Tryd.ntmps43
    go_wp2_with fail
    refine CS.out.mono ?_
    rintro e w1 ⟨rfl, hb⟩
    have HB := Lib.hid hb
    clear hb
    go_wp2_with fail
    refine (CN.out _ HB.out).mono ?_
    rintro e w2 ⟨rfl, hb2⟩
    have HB2 := Lib.hid (HB.out.trans (hb2.mono HB.out.size))
    clear hb2
    go_wp2_with fail
    go_quiet (fail)
    go_wp2
    go_ret3
    exact ⟨HF.out, below_drewN HB2.out _⟩
  | true =>
    have hnt := num_true (r := r) (by rw [hn])
    have CR := Lib.hid (fun V (hb : Below w.heap.size w V) => rprinted_any r V (hE.1.below hb).2.1 ⟨hnt.2.1, hnt.2.2.1⟩)
    have hpr := printP_len r
    obtain ⟨S, hS⟩ : ∃ S : ByteArray, (⟨(printP r).toArray⟩ : ByteArray) = S := ⟨_, rfl⟩
    have hSd : S.data.toList = printP r := by rw [← hS]
    have hSz : S.size = (printP r).length := by rw [← hS]; exact size_mk _
    rw [hS] at CR
    have CH2 := Lib.hid (fun V => CH.out S V)
    simp only [hSd] at CH2
    obtain ⟨b, hbb⟩ : ∃ b, Lib.hasPrefix l (printP r) = b := ⟨_, rfl⟩
    simp only [hbb] at CH2
    obtain ⟨m, hm⟩ : ∃ m, (printP r).length = m := ⟨_, rfl⟩
    rw [hm] at hSz hpr
    have HP2 : Hid (ptAt l = if b then some (n, m) else none) := Lib.hid (by rw [HP.out, Bool.true_and]; rw [show (printP r).isPrefixOf l = b from hbb, hm])
    have HZ : Hid (S.size = m) := Lib.hid hSz
    have hSz2 : S.size ≤ 13 := by omega
    cases b with
    | false =>
      have HF : Hid (PtOut s.data.toList p (.returned (.tuple #[.int .i64 0, .int .i64 0, faultV 9 (p : Nat)]))) := Lib.hid (by rw [HO.out, HP2.out]; simp)
      clear hd hz hl hr hE hn hs hp HO HP HP2 CH hnt hS hSd hbb hm hSz
      go_enter Tryd.func43, Tryd.ntmps43
      go_wp2_with fail
      refine CS.out.mono ?_
      rintro e w1 ⟨rfl, hb⟩
      have HB := Lib.hid hb
      clear hb
      go_wp2_with fail
      refine (CN.out _ HB.out).mono ?_
      rintro e w2 ⟨rfl, hb2⟩
      have HB2 := Lib.hid (HB.out.trans (hb2.mono HB.out.size))
      clear hb2
      go_wp2_with fail
      go_region_with (first
        | (go_at_call 32; refine (CR.out _ HB2.out.drew).mono ?_; rintro e w3 ⟨rfl, hb3⟩; have HB3 := Lib.hid (HB2.out.drew.trans (hb3.mono HB2.out.drew.size)); clear hb3)
        | (go_at_call 27; refine (CH2.out _).mono ?_; rintro e w4 ⟨rfl, rfl⟩))
      all_goals
        go_wp2
        go_ret3
        exact ⟨HF.out, HB3.out⟩
    | true =>
      have HF : Hid (PtOut s.data.toList p (.returned (.tuple #[.int .i64 n, .int .i64 ((p : Int) + (S.size : Nat)), .nilIface]))) := Lib.hid (by rw [HO.out, HP2.out]; simp only [if_true]; rw [HZ.out]; simp)
      clear hd hz hl hr hE hn hs hp HO HP HP2 CH hnt hS hSd hbb hm hSz
      go_enter Tryd.func43, Tryd.ntmps43
      go_wp2_with fail
      refine CS.out.mono ?_
      rintro e w1 ⟨rfl, hb⟩
      have HB := Lib.hid hb
      clear hb
      go_wp2_with fail
      refine (CN.out _ HB.out).mono ?_
      rintro e w2 ⟨rfl, hb2⟩
      have HB2 := Lib.hid (HB.out.trans (hb2.mono HB.out.size))
      clear hb2
      go_wp2_with fail
      go_region_with (first
        | (go_at_call 32; refine (CR.out _ HB2.out.drew).mono ?_; rintro e w3 ⟨rfl, hb3⟩; have HB3 := Lib.hid (HB2.out.drew.trans (hb3.mono HB2.out.drew.size)); clear hb3)
        | (go_at_call 27; refine (CH2.out _).mono ?_; rintro e w4 ⟨rfl, rfl⟩))
      all_goals
        go_wp2_with fail
        refine (CR.out _ HB3.out).mono ?_
        rintro e w5 ⟨rfl, hb5⟩
        have HB5 := Lib.hid (HB3.out.trans (hb5.mono HB3.out.size))
        clear hb5
        go_wp2
        go_ret3
        exact ⟨HF.out, HB5.out⟩
end Go.Proofs.YtmcmdijfdhlnaaaDoor
