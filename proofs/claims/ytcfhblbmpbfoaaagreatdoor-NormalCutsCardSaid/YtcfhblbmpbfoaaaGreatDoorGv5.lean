/- Parts of the proof of what the last text says. -/
import Derived.Test.YtcfhblbmpbfoaaaGreatDoorHb24x
import Derived.Test.YtcfhblbmpbfoaaaGreatDoorGv4
import Derived.RegionTactic
import Derived.ChangeAlike
import Derived.BigRegion
import Derived.Deep.QuietTactic
import Derived.BigQuiet
import Derived.WalkLawsBesides
namespace Go.Proofs.YtcfhblbmpbfoaaaGreatDoor
open Go Go.RowKit Go.Kt Go.Kt.Rg

def PVar (w : World) : Prop := (∃ t p, w.cell? ⟨5, 0, none⟩ = some (.iface t p)) ∧ ∃ t p, w.cell? ⟨6, 0, none⟩ = some (.iface t p)
theorem PVar.below {A B : World} (h : PVar A) (hb : Below A.heap.size A B) : PVar B := by
  obtain ⟨⟨t, p, h1⟩, t2, p2, h2⟩ := h
  exact ⟨⟨t, p, (hb.cell (lt_of_cell h1)).trans h1⟩, t2, p2, (hb.cell (lt_of_cell h2)).trans h2⟩

set_option maxRecDepth 100000 in
set_option maxHeartbeats 2000000 in
theorem pu24_any (s : ByteArray) (w : World) (hs : s.size ≤ 140737488351232) (hV : PVar w) :
    Calls Tryz.prog 193 #[.string s, .int .i64 16, .int .i64 24] w fun e w' => PuOut 256 (fun _ => True) (puV 16777215 s.data.toList) e ∧ Below w.heap.size w w' := by
  have CI := Lib.hid (ipu24_any s w (by omega))
  have HV := Lib.hid hV
  obtain ⟨o, ho⟩ : ∃ o, puV 16777215 s.data.toList = o := ⟨_, rfl⟩
  rw [ho] at CI ⊢
  clear hV ho
  go_enter Tryz.func193, Tryz.ntmps193
  go_wp2_with fail
  refine CI.out.mono ?_
  rintro e w1 ⟨hp, hb⟩
  have HB := Lib.hid hb
  clear hb
  cases o with
  | some n =>
    obtain rfl := hp
    have HF := Lib.hid (PuOut.yes (T := 256) (K := fun _ => True) (o := some n) rfl)
    go_wp2
    go_ret2
    exact ⟨HF.out, HB.out⟩
  | none =>
    obtain ⟨z, k, rfl, hk⟩ := hp
    have HF := Lib.hid (fun v => PuOut.no (T := 256) (K := fun _ => True) (o := none) z (k := v) rfl trivial)
    obtain ⟨⟨t1, p1, v1⟩, t2, p2, v2⟩ := HV.out.below HB.out
    rcases hk with rfl | rfl
    · have CT := Lib.hid (fun fn => Tryz.strconv_toError_range fn s 16 24 _ w1 (by omega) v2 (.inr ⟨_, _, rfl⟩))
      clear v1 v2
      go_wp2_with fail
      refine (CT.out _).mono ?_
      rintro e w2 ⟨N, rfl, _, _, hb2⟩
      have HB2 := Lib.hid (HB.out.trans (hb2.mono HB.out.size))
      clear hb2
      go_wp2
      go_ret2
      exact ⟨HF.out _, HB2.out⟩
    · have CT := Lib.hid (fun fn => Tryz.strconv_toError_syntax fn s 16 24 _ w1 (by omega) v1 (.inr ⟨_, _, rfl⟩))
      clear v1 v2
      go_wp2_with fail
      refine (CT.out _).mono ?_
      rintro e w2 ⟨N, rfl, _, _, hb2⟩
      have HB2 := Lib.hid (HB.out.trans (hb2.mono HB.out.size))
      clear hb2
      go_wp2
      go_ret2
      exact ⟨HF.out _, HB2.out⟩

def numP (l : List UInt8) : Option Nat := if 4 ≤ l.length ∧ l.length ≤ 6 then puV 16777215 l else none
theorem puF_le {mx : Nat} : ∀ (l : List UInt8) (n m : Nat), n ≤ mx → puF mx n l = some m → m ≤ mx
  | [], n, m, hn, h => by rw [puF] at h; injection h with h; omega
  | c :: t, n, m, hn, h => by
    rw [puF] at h
    cases hd : digV c.toNat with
    | none => rw [hd] at h; cases h
    | some d =>
      rw [hd] at h
      simp only at h
      split at h
      · cases h
      · split at h
        · cases h
        · exact puF_le t _ m (by omega) h
theorem numP_le {l : List UInt8} {n : Nat} (h : numP l = some n) : n ≤ 16777215 := by
  unfold numP at h
  split at h
  · unfold puV at h
    split at h
    · cases h
    · exact puF_le _ 0 n (by omega) h
  · cases h

def NumOut (o : Option Nat) (e : Ending) : Prop := match o with
  | some n => e = .returned (.tuple #[.int .i32 (n : Nat), .bool true])
  | none => ∃ z : Int, e = .returned (.tuple #[.int .i32 z, .bool false])

set_option maxRecDepth 100000 in
set_option maxHeartbeats 2000000 in
theorem pnumber (s : ByteArray) (w : World) (hs : s.size ≤ 140737488351232) (hV : PVar w) :
    Calls Tryz.prog 168 #[.string s] w fun e w' => NumOut (numP s.data.toList) e ∧ Below w.heap.size w w' := by
  have C := Lib.hid (pu24_any s w hs hV)
  have hln : s.data.toList.length = s.size := (Lib.size_eq s).symm
  obtain ⟨o, ho⟩ : ∃ o, puV 16777215 s.data.toList = o := ⟨_, rfl⟩
  rw [ho] at C
  by_cases hb : 4 ≤ s.size ∧ s.size ≤ 6
  · have e : numP s.data.toList = o := by unfold numP; rw [if_pos (by omega), ho]
    have hn : ∀ n, o = some n → n ≤ 16777215 := fun n h => numP_le (e.trans h)
    rw [e]
    obtain ⟨b1, b2⟩ := hb
    have b1z : (4 : Int) ≤ (s.size : Int) := by omega
    have b2z : (s.size : Int) ≤ 6 := by omega
    clear hV e ho hln
    go_enter Tryz.func168, Tryz.ntmps168
    go_wp2_with fail
    refine C.out.mono ?_
    rintro e w1 ⟨hp, hb⟩
    have HB := Lib.hid hb
    clear hb
    cases o with
    | some n =>
      obtain rfl := hp
      have hn' := hn n rfl
      go_wp2
      go_ret2
      exact ⟨rfl, HB.out⟩
    | none =>
      obtain ⟨z, k, rfl, hk⟩ := hp
      go_wp2
      go_ret2
      exact ⟨⟨_, rfl⟩, HB.out⟩
  · have e : numP s.data.toList = none := by unfold numP; rw [if_neg (by omega)]
    rw [e]
    clear hV e ho hln
    by_cases b1 : 4 ≤ s.size
    · have b1z : (4 : Int) ≤ (s.size : Int) := by omega
      have b2z : decide ((s.size : Int) ≤ 6) = false := decide_eq_false (by omega)
      have b3z : (6 : Int) < (s.size : Int) := by omega
      go_enter Tryz.func168, Tryz.ntmps168
      go_wp2_with fail
      refine C.out.mono ?_
      rintro e w1 ⟨hp, hb⟩
      have HB := Lib.hid hb
      clear hb
      cases o with
      | some n =>
        obtain rfl := hp
        go_wp2
        go_ret2
        exact ⟨⟨_, rfl⟩, HB.out⟩
      | none =>
        obtain ⟨z, k, rfl, hk⟩ := hp
        go_wp2
        go_ret2
        exact ⟨⟨_, rfl⟩, HB.out⟩
    · have b1z : decide ((4 : Int) ≤ (s.size : Int)) = false := decide_eq_false (by omega)
      have b3z : (s.size : Int) < 4 := by omega
      go_enter Tryz.func168, Tryz.ntmps168
      go_wp2_with fail
      refine C.out.mono ?_
      rintro e w1 ⟨hp, hb⟩
      have HB := Lib.hid hb
      clear hb
      cases o with
      | some n =>
        obtain rfl := hp
        go_wp2
        go_ret2
        exact ⟨⟨_, rfl⟩, HB.out⟩
      | none =>
        obtain ⟨z, k, rfl, hk⟩ := hp
        go_wp2
        go_ret2
        exact ⟨⟨_, rfl⟩, HB.out⟩
end Go.Proofs.YtcfhblbmpbfoaaaGreatDoor
namespace Go.Proofs.YtcfhblbmpbfoaaaGreatDoor
open Go Go.RowKit Go.Kt Go.Kt.Rg

abbrev digs : List UInt8 := [48, 49, 50, 51, 52, 53, 54, 55, 56, 57]
def clsP (l : List UInt8) : Nat × Int :=
  if Lib.trimS l digs ≠ [] ∨ (l ≠ [48] ∧ l.head? = some 48) then (11, 0) else
    match Lib.atoiAll l with
    | .ok v => if 254 < v then (1, 0) else (0, v)
    | _ => (1, 0)

set_option maxRecDepth 100000 in
set_option maxHeartbeats 2000000 in
theorem pclass (s : ByteArray) (w : World) (hs : s.size ≤ 140737488351232) (hne : s.data.toList ≠ []) (hV : PVar w) :
    Calls Tryz.prog 137 #[.string s] w fun e w' => e = .returned (.tuple #[.int .i64 (clsP s.data.toList).2, .int .i64 (clsP s.data.toList).1]) ∧ Below w.heap.size w w' := by
  have CT := Lib.hid (Tryz.strings_Trim_laid s ⟨#[48, 49, 50, 51, 52, 53, 54, 55, 56, 57]⟩ w (by omega) (by decide) (ascii_of_all (by decide)))
  obtain ⟨l, hl⟩ : ∃ l, s.data.toList = l := ⟨_, rfl⟩
  have hln : l.length = s.size := by rw [← hl]; exact (Lib.size_eq s).symm
  have hl2 : s.toList = l := by rw [ByteArray.toList_eq]; exact hl
  rw [hl] at CT hne ⊢
  have hsz0 : 0 < s.size := by
    rcases Nat.eq_zero_or_pos s.size with h | h
    · exact absurd (List.eq_nil_of_length_eq_zero (by omega)) hne
    · exact h
  have hh0 : l.head? = some (s[0]'hsz0) := by
    rw [← hl]
    cases hd : s.data.toList with
    | nil => rw [hl] at hd; exact absurd hd hne
    | cons c r =>
      have : s[0]'hsz0 = (s.data.toList)[0]'(by rw [hd]; simp) := by simp [ByteArray.getElem_eq_getElem_data]
      rw [this]
      simp [hd]
  obtain ⟨T, hT⟩ : ∃ T, Lib.trimS l digs = T := ⟨_, rfl⟩
  replace CT : Hid (Calls Tryz.prog 166 #[.string s, .string ⟨#[48, 49, 50, 51, 52, 53, 54, 55, 56, 57]⟩] w fun e w' => e = .returned (.string ⟨T.toArray⟩) ∧ Below w.heap.size w w') := by rw [← hT]; exact CT
  have HV := Lib.hid hV
  clear hV
  by_cases hT0 : T = []
  · have e0 : T.isEmpty = true := by rw [hT0]; rfl
    by_cases h48 : l = [48]
    · have b48 : (s.toList == [48]) = true := by rw [hl2, h48]; rfl
      have p48 : s.toList = [48] := by rw [hl2, h48]
      have HC : Hid (¬ (Lib.trimS l digs ≠ [] ∨ (l ≠ [48] ∧ l.head? = some 48))) := Lib.hid (fun h => by
        rcases h with h | h
        · exact h (hT.trans hT0)
        · exact h.1 h48)
      clear hh0 hT h48 hne hl2
      cases ha : Lib.atoiAll l with
      | ok v =>
        have C := Lib.hid (fun W => Tryz.strconv_Atoi_ok s (by omega) v (by rw [hl]; exact ha) W)
        have HX : Hid (clsP l = if 254 < v then (1, 0) else (0, v)) := Lib.hid (by unfold clsP; rw [if_neg HC.out, ha])
        clear ha
        by_cases hv : 254 < v
        · have HX2 := Lib.hid (HX.out.trans (if_pos hv))
          go_enter Tryz.func137, Tryz.ntmps137
          go_wp2_with fail
          refine CT.out.mono ?_
          rintro e w1 ⟨rfl, hb⟩
          have HB := Lib.hid hb
          clear hb CT
          go_wp2_with (go_at_call 167; refine (C.out _).mono ?_; rintro e w2 ⟨rfl, hb2⟩)
          go_ret2
          rw [HX2.out]
          refine ⟨rfl, ?_⟩
          rcases hb2 with rfl | ⟨t, rfl⟩
          · exact HB.out
          · exact HB.out.trans ((Lib.bytesWorld_below _ _ _).mono HB.out.size)
        · have hv2 : v ≤ 254 := by omega
          have HX2 := Lib.hid (HX.out.trans (if_neg hv))
          go_enter Tryz.func137, Tryz.ntmps137
          go_wp2_with fail
          refine CT.out.mono ?_
          rintro e w1 ⟨rfl, hb⟩
          have HB := Lib.hid hb
          clear hb CT
          go_wp2_with (go_at_call 167; refine (C.out _).mono ?_; rintro e w2 ⟨rfl, hb2⟩)
          go_ret2
          rw [HX2.out]
          refine ⟨rfl, ?_⟩
          rcases hb2 with rfl | ⟨t, rfl⟩
          · exact HB.out
          · exact HB.out.trans ((Lib.bytesWorld_below _ _ _).mono HB.out.size)
      | range =>
        have C := Lib.hid (fun W ev h1 h2 => Tryz.strconv_Atoi_range s (by omega) (by rw [hl]; exact ha) ev W h1 h2)
        have HX : Hid (clsP l = (1, 0)) := Lib.hid (by unfold clsP; rw [if_neg HC.out, ha])
        clear ha
        go_enter Tryz.func137, Tryz.ntmps137
        go_wp2_with fail
        refine CT.out.mono ?_
        rintro e w1 ⟨rfl, hb⟩
        have HB := Lib.hid hb
        clear hb CT
        obtain ⟨⟨t1, p1, v1⟩, t2, p2, v2⟩ := HV.out.below HB.out
        have C2 := Lib.hid (C.out w1 _ v2 (.inr ⟨_, _, rfl⟩))
        clear v1 v2 C
        go_wp2_with (go_at_call 167; refine C2.out.mono ?_; rintro e w2 ⟨N, rfl, _, _, hb2⟩)
        go_ret2
        rw [HX.out]
        exact ⟨rfl, HB.out.trans (hb2.mono HB.out.size)⟩
      | _ =>
        have C := Lib.hid (fun W ev h1 h2 => Tryz.strconv_Atoi_syntax s (by omega) (by rw [hl]; exact ha) ev W h1 h2)
        have HX : Hid (clsP l = (1, 0)) := Lib.hid (by unfold clsP; rw [if_neg HC.out, ha])
        clear ha
        go_enter Tryz.func137, Tryz.ntmps137
        go_wp2_with fail
        refine CT.out.mono ?_
        rintro e w1 ⟨rfl, hb⟩
        have HB := Lib.hid hb
        clear hb CT
        obtain ⟨⟨t1, p1, v1⟩, t2, p2, v2⟩ := HV.out.below HB.out
        have C2 := Lib.hid (C.out w1 _ v1 (.inr ⟨_, _, rfl⟩))
        clear v1 v2 C
        go_wp2_with (go_at_call 167; refine C2.out.mono ?_; rintro e w2 ⟨N, rfl, _, _, hb2⟩)
        go_ret2
        rw [HX.out]
        exact ⟨rfl, HB.out.trans (hb2.mono HB.out.size)⟩
    · have b48 : (s.toList == [48]) = false := by rw [hl2]; exact beq_eq_false_iff_ne.2 h48
      have p48 : ¬ s.toList = [48] := by rw [hl2]; exact h48
      by_cases hz : (s[0]'hsz0) = 48
      · have z48 : (((s[0]'hsz0).toNat : Int) == 48) = true := by rw [hz]; rfl
        have HX : Hid (clsP l = (11, 0)) := Lib.hid (by unfold clsP; rw [if_pos (.inr ⟨h48, by rw [hh0, hz]⟩)])
        clear hh0 hT h48 hne hl2 hz
        go_enter Tryz.func137, Tryz.ntmps137
        go_wp2_with fail
        refine CT.out.mono ?_
        rintro e w1 ⟨rfl, hb⟩
        have HB := Lib.hid hb
        clear hb CT
        go_wp2
        go_ret2
        rw [HX.out]
        exact ⟨rfl, HB.out⟩
      · have z48 : (((s[0]'hsz0).toNat : Int) == 48) = false := beq_eq_false_iff_ne.2 (fun e => hz (UInt8.toNat_inj.1 (by show _ = 48; omega)))
        have HC : Hid (¬ (Lib.trimS l digs ≠ [] ∨ (l ≠ [48] ∧ l.head? = some 48))) := Lib.hid (fun h => by
          rcases h with h | h
          · exact h (hT.trans hT0)
          · rw [hh0] at h; exact hz (Option.some.inj h.2))
        clear hh0 hT h48 hne hl2 hz
        cases ha : Lib.atoiAll l with
        | ok v =>
          have C := Lib.hid (fun W => Tryz.strconv_Atoi_ok s (by omega) v (by rw [hl]; exact ha) W)
          have HX : Hid (clsP l = if 254 < v then (1, 0) else (0, v)) := Lib.hid (by unfold clsP; rw [if_neg HC.out, ha])
          clear ha
          by_cases hv : 254 < v
          · have HX2 := Lib.hid (HX.out.trans (if_pos hv))
            go_enter Tryz.func137, Tryz.ntmps137
            go_wp2_with fail
            refine CT.out.mono ?_
            rintro e w1 ⟨rfl, hb⟩
            have HB := Lib.hid hb
            clear hb CT
            go_wp2_with (go_at_call 167; refine (C.out _).mono ?_; rintro e w2 ⟨rfl, hb2⟩)
            go_ret2
            rw [HX2.out]
            refine ⟨rfl, ?_⟩
            rcases hb2 with rfl | ⟨t, rfl⟩
            · exact HB.out
            · exact HB.out.trans ((Lib.bytesWorld_below _ _ _).mono HB.out.size)
          · have hv2 : v ≤ 254 := by omega
            have HX2 := Lib.hid (HX.out.trans (if_neg hv))
            go_enter Tryz.func137, Tryz.ntmps137
            go_wp2_with fail
            refine CT.out.mono ?_
            rintro e w1 ⟨rfl, hb⟩
            have HB := Lib.hid hb
            clear hb CT
            go_wp2_with (go_at_call 167; refine (C.out _).mono ?_; rintro e w2 ⟨rfl, hb2⟩)
            go_ret2
            rw [HX2.out]
            refine ⟨rfl, ?_⟩
            rcases hb2 with rfl | ⟨t, rfl⟩
            · exact HB.out
            · exact HB.out.trans ((Lib.bytesWorld_below _ _ _).mono HB.out.size)
        | range =>
          have C := Lib.hid (fun W ev h1 h2 => Tryz.strconv_Atoi_range s (by omega) (by rw [hl]; exact ha) ev W h1 h2)
          have HX : Hid (clsP l = (1, 0)) := Lib.hid (by unfold clsP; rw [if_neg HC.out, ha])
          clear ha
          go_enter Tryz.func137, Tryz.ntmps137
          go_wp2_with fail
          refine CT.out.mono ?_
          rintro e w1 ⟨rfl, hb⟩
          have HB := Lib.hid hb
          clear hb CT
          obtain ⟨⟨t1, p1, v1⟩, t2, p2, v2⟩ := HV.out.below HB.out
          have C2 := Lib.hid (C.out w1 _ v2 (.inr ⟨_, _, rfl⟩))
          clear v1 v2 C
          go_wp2_with (go_at_call 167; refine C2.out.mono ?_; rintro e w2 ⟨N, rfl, _, _, hb2⟩)
          go_ret2
          rw [HX.out]
          exact ⟨rfl, HB.out.trans (hb2.mono HB.out.size)⟩
        | _ =>
          have C := Lib.hid (fun W ev h1 h2 => Tryz.strconv_Atoi_syntax s (by omega) (by rw [hl]; exact ha) ev W h1 h2)
          have HX : Hid (clsP l = (1, 0)) := Lib.hid (by unfold clsP; rw [if_neg HC.out, ha])
          clear ha
          go_enter Tryz.func137, Tryz.ntmps137
          go_wp2_with fail
          refine CT.out.mono ?_
          rintro e w1 ⟨rfl, hb⟩
          have HB := Lib.hid hb
          clear hb CT
          obtain ⟨⟨t1, p1, v1⟩, t2, p2, v2⟩ := HV.out.below HB.out
          have C2 := Lib.hid (C.out w1 _ v1 (.inr ⟨_, _, rfl⟩))
          clear v1 v2 C
          go_wp2_with (go_at_call 167; refine C2.out.mono ?_; rintro e w2 ⟨N, rfl, _, _, hb2⟩)
          go_ret2
          rw [HX.out]
          exact ⟨rfl, HB.out.trans (hb2.mono HB.out.size)⟩
  · have e0 : T.isEmpty = false := by
      cases T with
      | nil => exact absurd rfl hT0
      | cons => rfl
    have HX : Hid (clsP l = (11, 0)) := Lib.hid (by unfold clsP; rw [if_pos (.inl (by rw [hT]; exact hT0))])
    clear hh0 hT hne hl2
    go_enter Tryz.func137, Tryz.ntmps137
    go_wp2_with fail
    refine CT.out.mono ?_
    rintro e w1 ⟨rfl, hb⟩
    have HB := Lib.hid hb
    clear hb CT
    go_wp2
    go_ret2
    rw [HX.out]
    exact ⟨rfl, HB.out⟩

abbrev kdN : List (List UInt8) := [[111, 116, 104, 101, 114], [108, 101, 116, 116, 101, 114], [100, 105, 103, 105, 116], [109, 97, 114, 107], [115, 112, 97, 99, 101], [99, 111, 110, 116, 114, 111, 108], [106, 111, 105, 110, 101, 114], [109, 105, 100, 100, 108, 101]]
def kndP (l : List UInt8) : Nat × Nat := match kdN.findIdx? (fun x => x == l) with
  | some k => (0, k)
  | none => (12, 0)
def KTab (w : World) : Prop := ∀ k (hk : k < 8), w.cell? ⟨2, k, none⟩ = some (.string ⟨(kdN[k]'hk).toArray⟩)
theorem KTab.below {A B : World} (h : KTab A) (hb : Below A.heap.size A B) : KTab B := fun k hk => (hb.cell (lt_of_cell (h k hk))).trans (h k hk)

set_option maxRecDepth 100000 in
set_option maxHeartbeats 2000000 in
theorem pkind (s : ByteArray) (w : World) (hK : KTab w) :
    Calls Tryz.prog 138 #[.string s] w fun e w' => e = .returned (.tuple #[.int .i64 (kndP s.data.toList).2, .int .i64 (kndP s.data.toList).1]) ∧ w' = w := by
  have hl2 : s.toList = s.data.toList := ByteArray.toList_eq s
  obtain ⟨l, hl⟩ : ∃ l, s.data.toList = l := ⟨_, rfl⟩
  rw [hl] at hl2 ⊢
  have c0 : w.cell? ⟨2, 0, none⟩ = some (.string ⟨#[111, 116, 104, 101, 114]⟩) := hK 0 (by decide)
  have c1 : w.cell? ⟨2, 1, none⟩ = some (.string ⟨#[108, 101, 116, 116, 101, 114]⟩) := hK 1 (by decide)
  have c2 : w.cell? ⟨2, 2, none⟩ = some (.string ⟨#[100, 105, 103, 105, 116]⟩) := hK 2 (by decide)
  have c3 : w.cell? ⟨2, 3, none⟩ = some (.string ⟨#[109, 97, 114, 107]⟩) := hK 3 (by decide)
  have c4 : w.cell? ⟨2, 4, none⟩ = some (.string ⟨#[115, 112, 97, 99, 101]⟩) := hK 4 (by decide)
  have c5 : w.cell? ⟨2, 5, none⟩ = some (.string ⟨#[99, 111, 110, 116, 114, 111, 108]⟩) := hK 5 (by decide)
  have c6 : w.cell? ⟨2, 6, none⟩ = some (.string ⟨#[106, 111, 105, 110, 101, 114]⟩) := hK 6 (by decide)
  have c7 : w.cell? ⟨2, 7, none⟩ = some (.string ⟨#[109, 105, 100, 100, 108, 101]⟩) := hK 7 (by decide)
  have x0 : ∀ W, (Instr.index 167 (.agg #[.string ⟨#[111, 116, 104, 101, 114]⟩, .string ⟨#[108, 101, 116, 116, 101, 114]⟩, .string ⟨#[100, 105, 103, 105, 116]⟩, .string ⟨#[109, 97, 114, 107]⟩, .string ⟨#[115, 112, 97, 99, 101]⟩, .string ⟨#[99, 111, 110, 116, 114, 111, 108]⟩, .string ⟨#[106, 111, 105, 110, 101, 114]⟩, .string ⟨#[109, 105, 100, 100, 108, 101]⟩]) (.int .i64 0)).run Tryz.prog W = .ok (.string ⟨#[111, 116, 104, 101, 114]⟩) W := fun W => by kernel_rfl
  have x1 : ∀ W, (Instr.index 167 (.agg #[.string ⟨#[111, 116, 104, 101, 114]⟩, .string ⟨#[108, 101, 116, 116, 101, 114]⟩, .string ⟨#[100, 105, 103, 105, 116]⟩, .string ⟨#[109, 97, 114, 107]⟩, .string ⟨#[115, 112, 97, 99, 101]⟩, .string ⟨#[99, 111, 110, 116, 114, 111, 108]⟩, .string ⟨#[106, 111, 105, 110, 101, 114]⟩, .string ⟨#[109, 105, 100, 100, 108, 101]⟩]) (.int .i64 1)).run Tryz.prog W = .ok (.string ⟨#[108, 101, 116, 116, 101, 114]⟩) W := fun W => by kernel_rfl
  have x2 : ∀ W, (Instr.index 167 (.agg #[.string ⟨#[111, 116, 104, 101, 114]⟩, .string ⟨#[108, 101, 116, 116, 101, 114]⟩, .string ⟨#[100, 105, 103, 105, 116]⟩, .string ⟨#[109, 97, 114, 107]⟩, .string ⟨#[115, 112, 97, 99, 101]⟩, .string ⟨#[99, 111, 110, 116, 114, 111, 108]⟩, .string ⟨#[106, 111, 105, 110, 101, 114]⟩, .string ⟨#[109, 105, 100, 100, 108, 101]⟩]) (.int .i64 2)).run Tryz.prog W = .ok (.string ⟨#[100, 105, 103, 105, 116]⟩) W := fun W => by kernel_rfl
  have x3 : ∀ W, (Instr.index 167 (.agg #[.string ⟨#[111, 116, 104, 101, 114]⟩, .string ⟨#[108, 101, 116, 116, 101, 114]⟩, .string ⟨#[100, 105, 103, 105, 116]⟩, .string ⟨#[109, 97, 114, 107]⟩, .string ⟨#[115, 112, 97, 99, 101]⟩, .string ⟨#[99, 111, 110, 116, 114, 111, 108]⟩, .string ⟨#[106, 111, 105, 110, 101, 114]⟩, .string ⟨#[109, 105, 100, 100, 108, 101]⟩]) (.int .i64 3)).run Tryz.prog W = .ok (.string ⟨#[109, 97, 114, 107]⟩) W := fun W => by kernel_rfl
  have x4 : ∀ W, (Instr.index 167 (.agg #[.string ⟨#[111, 116, 104, 101, 114]⟩, .string ⟨#[108, 101, 116, 116, 101, 114]⟩, .string ⟨#[100, 105, 103, 105, 116]⟩, .string ⟨#[109, 97, 114, 107]⟩, .string ⟨#[115, 112, 97, 99, 101]⟩, .string ⟨#[99, 111, 110, 116, 114, 111, 108]⟩, .string ⟨#[106, 111, 105, 110, 101, 114]⟩, .string ⟨#[109, 105, 100, 100, 108, 101]⟩]) (.int .i64 4)).run Tryz.prog W = .ok (.string ⟨#[115, 112, 97, 99, 101]⟩) W := fun W => by kernel_rfl
  have x5 : ∀ W, (Instr.index 167 (.agg #[.string ⟨#[111, 116, 104, 101, 114]⟩, .string ⟨#[108, 101, 116, 116, 101, 114]⟩, .string ⟨#[100, 105, 103, 105, 116]⟩, .string ⟨#[109, 97, 114, 107]⟩, .string ⟨#[115, 112, 97, 99, 101]⟩, .string ⟨#[99, 111, 110, 116, 114, 111, 108]⟩, .string ⟨#[106, 111, 105, 110, 101, 114]⟩, .string ⟨#[109, 105, 100, 100, 108, 101]⟩]) (.int .i64 5)).run Tryz.prog W = .ok (.string ⟨#[99, 111, 110, 116, 114, 111, 108]⟩) W := fun W => by kernel_rfl
  have x6 : ∀ W, (Instr.index 167 (.agg #[.string ⟨#[111, 116, 104, 101, 114]⟩, .string ⟨#[108, 101, 116, 116, 101, 114]⟩, .string ⟨#[100, 105, 103, 105, 116]⟩, .string ⟨#[109, 97, 114, 107]⟩, .string ⟨#[115, 112, 97, 99, 101]⟩, .string ⟨#[99, 111, 110, 116, 114, 111, 108]⟩, .string ⟨#[106, 111, 105, 110, 101, 114]⟩, .string ⟨#[109, 105, 100, 100, 108, 101]⟩]) (.int .i64 6)).run Tryz.prog W = .ok (.string ⟨#[106, 111, 105, 110, 101, 114]⟩) W := fun W => by kernel_rfl
  have x7 : ∀ W, (Instr.index 167 (.agg #[.string ⟨#[111, 116, 104, 101, 114]⟩, .string ⟨#[108, 101, 116, 116, 101, 114]⟩, .string ⟨#[100, 105, 103, 105, 116]⟩, .string ⟨#[109, 97, 114, 107]⟩, .string ⟨#[115, 112, 97, 99, 101]⟩, .string ⟨#[99, 111, 110, 116, 114, 111, 108]⟩, .string ⟨#[106, 111, 105, 110, 101, 114]⟩, .string ⟨#[109, 105, 100, 100, 108, 101]⟩]) (.int .i64 7)).run Tryz.prog W = .ok (.string ⟨#[109, 105, 100, 100, 108, 101]⟩) W := fun W => by kernel_rfl
  clear hK hl
  go_enter Tryz.func138, Tryz.ntmps138
  go_wp2
  go_loopw [7] (fun vi wr => ∃ i : Nat, vi = .int .i64 i ∧ i ≤ 8 ∧ Hid (∀ k (hk : k < 8), k < i → kdN[k]'hk ≠ l) ∧ wr = w) (fun vi _ => 8 - (RowKit.intOf vi).toNat)
  case atStart => exact ⟨0, rfl, by omega, Lib.hid (fun k _ h => absurd h (by omega)), rfl⟩
  case round =>
    obtain ⟨i, hv, hi, hh, rfl⟩ := hrel
    rcases (by omega : i = 0 ∨ i = 1 ∨ i = 2 ∨ i = 3 ∨ i = 4 ∨ i = 5 ∨ i = 6 ∨ i = 7 ∨ i = 8) with rfl | rfl | rfl | rfl | rfl | rfl | rfl | rfl | rfl
    · replace hv := hv.trans (show Value.int .i64 ((0 : Nat) : Int) = .int .i64 0 from rfl)
      subst hv
      by_cases hk : l = [111, 116, 104, 101, 114]
      · have HX : Hid (kndP l = (0, 0)) := Lib.hid (by rw [hk]; rfl)
        have b1 : ([111, 116, 104, 101, 114] == l) = true := by rw [hk]; rfl
        clear hk
        go_wp2
        go_ret2
        rw [HX.out]
        exact ⟨rfl, rfl⟩
      · have HQ : Hid (∀ k (hk : k < 8), k < 1 → kdN[k]'hk ≠ l) := Lib.hid (fun j h1 h2 => by
          rcases Nat.lt_or_ge j 0 with h3 | h3
          · exact hh.out j h1 h3
          · have e : j = 0 := by omega
            subst e
            exact fun e => hk e.symm)
        have b1 : ([111, 116, 104, 101, 114] == l) = false := beq_eq_false_iff_ne.2 (fun e => hk e.symm)
        clear hh hk
        go_wp2
        go_roundw
        case rel => exact ⟨1, rfl, by omega, HQ, by trivial⟩
        case measure => simp [RowKit.intOf]
    · replace hv := hv.trans (show Value.int .i64 ((1 : Nat) : Int) = .int .i64 1 from rfl)
      subst hv
      by_cases hk : l = [108, 101, 116, 116, 101, 114]
      · have HX : Hid (kndP l = (0, 1)) := Lib.hid (by rw [hk]; rfl)
        have b1 : ([108, 101, 116, 116, 101, 114] == l) = true := by rw [hk]; rfl
        clear hk
        go_wp2
        go_ret2
        rw [HX.out]
        exact ⟨rfl, rfl⟩
      · have HQ : Hid (∀ k (hk : k < 8), k < 2 → kdN[k]'hk ≠ l) := Lib.hid (fun j h1 h2 => by
          rcases Nat.lt_or_ge j 1 with h3 | h3
          · exact hh.out j h1 h3
          · have e : j = 1 := by omega
            subst e
            exact fun e => hk e.symm)
        have b1 : ([108, 101, 116, 116, 101, 114] == l) = false := beq_eq_false_iff_ne.2 (fun e => hk e.symm)
        clear hh hk
        go_wp2
        go_roundw
        case rel => exact ⟨2, rfl, by omega, HQ, by trivial⟩
        case measure => simp [RowKit.intOf]
    · replace hv := hv.trans (show Value.int .i64 ((2 : Nat) : Int) = .int .i64 2 from rfl)
      subst hv
      by_cases hk : l = [100, 105, 103, 105, 116]
      · have HX : Hid (kndP l = (0, 2)) := Lib.hid (by rw [hk]; rfl)
        have b1 : ([100, 105, 103, 105, 116] == l) = true := by rw [hk]; rfl
        clear hk
        go_wp2
        go_ret2
        rw [HX.out]
        exact ⟨rfl, rfl⟩
      · have HQ : Hid (∀ k (hk : k < 8), k < 3 → kdN[k]'hk ≠ l) := Lib.hid (fun j h1 h2 => by
          rcases Nat.lt_or_ge j 2 with h3 | h3
          · exact hh.out j h1 h3
          · have e : j = 2 := by omega
            subst e
            exact fun e => hk e.symm)
        have b1 : ([100, 105, 103, 105, 116] == l) = false := beq_eq_false_iff_ne.2 (fun e => hk e.symm)
        clear hh hk
        go_wp2
        go_roundw
        case rel => exact ⟨3, rfl, by omega, HQ, by trivial⟩
        case measure => simp [RowKit.intOf]
    · replace hv := hv.trans (show Value.int .i64 ((3 : Nat) : Int) = .int .i64 3 from rfl)
      subst hv
      by_cases hk : l = [109, 97, 114, 107]
      · have HX : Hid (kndP l = (0, 3)) := Lib.hid (by rw [hk]; rfl)
        have b1 : ([109, 97, 114, 107] == l) = true := by rw [hk]; rfl
        clear hk
        go_wp2
        go_ret2
        rw [HX.out]
        exact ⟨rfl, rfl⟩
      · have HQ : Hid (∀ k (hk : k < 8), k < 4 → kdN[k]'hk ≠ l) := Lib.hid (fun j h1 h2 => by
          rcases Nat.lt_or_ge j 3 with h3 | h3
          · exact hh.out j h1 h3
          · have e : j = 3 := by omega
            subst e
            exact fun e => hk e.symm)
        have b1 : ([109, 97, 114, 107] == l) = false := beq_eq_false_iff_ne.2 (fun e => hk e.symm)
        clear hh hk
        go_wp2
        go_roundw
        case rel => exact ⟨4, rfl, by omega, HQ, by trivial⟩
        case measure => simp [RowKit.intOf]
    · replace hv := hv.trans (show Value.int .i64 ((4 : Nat) : Int) = .int .i64 4 from rfl)
      subst hv
      by_cases hk : l = [115, 112, 97, 99, 101]
      · have HX : Hid (kndP l = (0, 4)) := Lib.hid (by rw [hk]; rfl)
        have b1 : ([115, 112, 97, 99, 101] == l) = true := by rw [hk]; rfl
        clear hk
        go_wp2
        go_ret2
        rw [HX.out]
        exact ⟨rfl, rfl⟩
      · have HQ : Hid (∀ k (hk : k < 8), k < 5 → kdN[k]'hk ≠ l) := Lib.hid (fun j h1 h2 => by
          rcases Nat.lt_or_ge j 4 with h3 | h3
          · exact hh.out j h1 h3
          · have e : j = 4 := by omega
            subst e
            exact fun e => hk e.symm)
        have b1 : ([115, 112, 97, 99, 101] == l) = false := beq_eq_false_iff_ne.2 (fun e => hk e.symm)
        clear hh hk
        go_wp2
        go_roundw
        case rel => exact ⟨5, rfl, by omega, HQ, by trivial⟩
        case measure => simp [RowKit.intOf]
    · replace hv := hv.trans (show Value.int .i64 ((5 : Nat) : Int) = .int .i64 5 from rfl)
      subst hv
      by_cases hk : l = [99, 111, 110, 116, 114, 111, 108]
      · have HX : Hid (kndP l = (0, 5)) := Lib.hid (by rw [hk]; rfl)
        have b1 : ([99, 111, 110, 116, 114, 111, 108] == l) = true := by rw [hk]; rfl
        clear hk
        go_wp2
        go_ret2
        rw [HX.out]
        exact ⟨rfl, rfl⟩
      · have HQ : Hid (∀ k (hk : k < 8), k < 6 → kdN[k]'hk ≠ l) := Lib.hid (fun j h1 h2 => by
          rcases Nat.lt_or_ge j 5 with h3 | h3
          · exact hh.out j h1 h3
          · have e : j = 5 := by omega
            subst e
            exact fun e => hk e.symm)
        have b1 : ([99, 111, 110, 116, 114, 111, 108] == l) = false := beq_eq_false_iff_ne.2 (fun e => hk e.symm)
        clear hh hk
        go_wp2
        go_roundw
        case rel => exact ⟨6, rfl, by omega, HQ, by trivial⟩
        case measure => simp [RowKit.intOf]
    · replace hv := hv.trans (show Value.int .i64 ((6 : Nat) : Int) = .int .i64 6 from rfl)
      subst hv
      by_cases hk : l = [106, 111, 105, 110, 101, 114]
      · have HX : Hid (kndP l = (0, 6)) := Lib.hid (by rw [hk]; rfl)
        have b1 : ([106, 111, 105, 110, 101, 114] == l) = true := by rw [hk]; rfl
        clear hk
        go_wp2
        go_ret2
        rw [HX.out]
        exact ⟨rfl, rfl⟩
      · have HQ : Hid (∀ k (hk : k < 8), k < 7 → kdN[k]'hk ≠ l) := Lib.hid (fun j h1 h2 => by
          rcases Nat.lt_or_ge j 6 with h3 | h3
          · exact hh.out j h1 h3
          · have e : j = 6 := by omega
            subst e
            exact fun e => hk e.symm)
        have b1 : ([106, 111, 105, 110, 101, 114] == l) = false := beq_eq_false_iff_ne.2 (fun e => hk e.symm)
        clear hh hk
        go_wp2
        go_roundw
        case rel => exact ⟨7, rfl, by omega, HQ, by trivial⟩
        case measure => simp [RowKit.intOf]
    · replace hv := hv.trans (show Value.int .i64 ((7 : Nat) : Int) = .int .i64 7 from rfl)
      subst hv
      by_cases hk : l = [109, 105, 100, 100, 108, 101]
      · have HX : Hid (kndP l = (0, 7)) := Lib.hid (by rw [hk]; rfl)
        have b1 : ([109, 105, 100, 100, 108, 101] == l) = true := by rw [hk]; rfl
        clear hk
        go_wp2
        go_ret2
        rw [HX.out]
        exact ⟨rfl, rfl⟩
      · have HQ : Hid (∀ k (hk : k < 8), k < 8 → kdN[k]'hk ≠ l) := Lib.hid (fun j h1 h2 => by
          rcases Nat.lt_or_ge j 7 with h3 | h3
          · exact hh.out j h1 h3
          · have e : j = 7 := by omega
            subst e
            exact fun e => hk e.symm)
        have b1 : ([109, 105, 100, 100, 108, 101] == l) = false := beq_eq_false_iff_ne.2 (fun e => hk e.symm)
        clear hh hk
        go_wp2
        go_roundw
        case rel => exact ⟨8, rfl, by omega, HQ, by trivial⟩
        case measure => simp [RowKit.intOf]
    · replace hv := hv.trans (show Value.int .i64 ((8 : Nat) : Int) = .int .i64 8 from rfl)
      subst hv
      have HX : Hid (kndP l = (12, 0)) := Lib.hid (by
        unfold kndP
        rw [List.findIdx?_eq_none_iff.2 (fun x hx => ?_)]
        obtain ⟨k, hk, rfl⟩ := List.getElem_of_mem hx
        exact beq_eq_false_iff_ne.2 (hh.out k hk hk))
      go_wp2
      go_ret2
      rw [HX.out]
      exact ⟨rfl, rfl⟩
end Go.Proofs.YtcfhblbmpbfoaaaGreatDoor
