/- Parts of the proof of what the last text says. -/
import Derived.Test.YtbnnhbmnddaafaaGreatDoorGz5
import Derived.Test.YtbnnhbmnddaafaaGreatDoorGz2
import Derived.Test.YtbnnhbmnddaafaaGreatDoorGz6
import Derived.Shelf.Strings.Builder1
import Derived.Shelf.Strings.Builder2
import Derived.Shelf.Strings.OnBuilder
import Derived.Shelf.Strings.BuilderF
import Derived.Shelf.Strings.BuilderK
import Derived.Shelf.Strings.Builder2Cap
import Derived.Shelf.LaysM
import Derived.Shelf.LaysC
import Derived.Shelf.Strings.FieldsFuncAny
import Derived.Shelf.Strings.BuilderCap
/- strconv.ParseUint to the base 16, of 8 bits. -/
namespace Go.Proofs.YtbnnhbmnddaafaaGreatDoor
open Go Go.RowKit Go.Kt Go.Kt.Rg

set_option maxRecDepth 100000 in
set_option maxHeartbeats 8000000 in
theorem ipu8_any (s : ByteArray) (w : World) (hs : s.size ≤ 281474976710656) :
    Calls Tryz.prog 130 #[.string s, .int .i64 16, .int .i64 8] w fun e w' => PuOut 179 PuErr (puV 255 s.data.toList) e ∧ Below w.heap.size w w' := by
  obtain ⟨l, hl⟩ : ∃ l, s.data.toList = l := ⟨_, rfl⟩
  have hln : l.length = s.size := by rw [← hl]; exact (Lib.size_eq s).symm
  rw [hl]
  by_cases h0 : s.size = 0
  · have hn : l = [] := List.eq_nil_of_length_eq_zero (by omega)
    have hsn : s.toList = [] := by
      have : s.toList.length = 0 := by rw [ByteArray.toList_eq, hl, hn]; rfl
      exact List.eq_nil_of_length_eq_zero this
    have hsn2 : (!s.toList.isEmpty) = false := by rw [hsn]; rfl
    have HF : Hid (PuOut 179 PuErr (puV 255 l) (.returned (.tuple #[.int .u64 0, .iface 179 (.int .i64 2)])) ∧ Below w.heap.size w w) := Lib.hid ⟨.no 0 (by rw [hn]; rfl) (.inr rfl), Below.refl _ _⟩
    clear hn hl hln h0
    go_enter Tryz.func130, Tryz.ntmps130
    go_wp2
    go_ret2
    exact HF.out
  · have hemp : s.toList.isEmpty = false := by
      cases h : s.toList with
      | nil => rw [ByteArray.toList_eq, hl] at h; rw [h] at hln; exact absurd hln.symm h0
      | cons => rfl
    have hcv := Lib.run_convert_string_bytes (P := Tryz.prog) w 9 35 5 s (u := .string) Tryz.underlying9 Tryz.underlying35 Tryz.underlying5
    have hB : ∀ j, j < s.size → (Lib.bytesWorld w 5 s).cell? ⟨w.heap.size, j, none⟩ = some (.int .u8 (s.data.toList.getD j 0).toNat) := fun j hj => Lib.bytesWorld_cell w 5 s j hj
    have hBel : Below w.heap.size w (Lib.bytesWorld w 5 s) := Lib.bytesWorld_below w _ s
    obtain ⟨W1, hW1⟩ : ∃ W1, Lib.bytesWorld w 5 s = W1 := ⟨_, rfl⟩
    rw [hW1] at hcv hB hBel
    rw [hl] at hB
    have HB := Lib.hid hB
    have HBel := Lib.hid hBel
    obtain ⟨n, hn⟩ : ∃ n, s.size = n := ⟨_, rfl⟩
    rw [hn] at hs h0 hcv hln HB
    have HLN := Lib.hid hln
    have hV : Hid (puV 255 l = puF 255 0 l) := Lib.hid (by unfold puV; rw [if_neg]; intro e; rw [e] at hln; exact h0 hln.symm)
    clear hW1 hB hBel hl hln
    go_enter Tryz.func130, Tryz.ntmps130
    go_wp2
    go_loop [12, 13, 101] (fun vu vn vi => ∃ (k acc : Nat) (a : Int), vu = .bool false ∧ vn = .int .u64 a ∧ vi = .int .i64 k ∧ k ≤ n ∧ Hid (a = (acc : Int) ∧ acc ≤ 255 ∧ puF 255 acc (l.drop k) = puF 255 0 l)) (fun _ _ vi => n - (RowKit.intOf vi).toNat)
    case atStart => exact ⟨0, 0, 0, rfl, rfl, rfl, by omega, Lib.hid ⟨rfl, by omega, rfl⟩⟩
    case round =>
      obtain ⟨k, acc, a, rfl, rfl, rfl, hk, hh⟩ := hrel
      have a0 : 0 ≤ a := by have := hh.out.1; omega
      have a1 : a ≤ 255 := by have := hh.out; omega
      by_cases hkn : k < n
      · have hkn' : (k : Int) < n := by omega
        have hc := HB.out k hkn
        have hdrop : l.drop k = l[k]'(by rw [HLN.out]; exact hkn) :: l.drop (k + 1) := List.drop_eq_getElem_cons (by rw [HLN.out]; exact hkn)
        have hget : l.getD k 0 = l[k]'(by rw [HLN.out]; exact hkn) := by simp [List.getD, List.getElem?_eq_getElem (show k < l.length by rw [HLN.out]; exact hkn)]
        rw [hget] at hc
        generalize l[k]'(by rw [HLN.out]; exact hkn) = c at hc hdrop
        have HD := Lib.hid hdrop
        have hc256 : c.toNat < 256 := c.toNat_lt
        have q1 := or_32 c.toNat hc256
        have q2 := or_ge c.toNat hc256
        have q3 := or_bd c.toNat hc256
        have q4 := or_dig c.toNat hc256
        have e1 := @digV_dig c.toNat
        have e2 := @digV_let c.toNat
        have e3 := @digV_no c.toNat
        obtain ⟨L, hL⟩ : ∃ L, c.toNat ||| 32 = L := ⟨_, rfl⟩
        rw [hL] at q1 q2 q3 q4 e2 e3
        have FIN : ∀ d, digV c.toNat = some d → d < 16 → acc * 16 + d ≤ 255 → Hid (puF 255 (acc * 16 + d) (l.drop (k + 1)) = puF 255 0 l) := fun d h1 h2 h3 => Lib.hid (by rw [← hh.out.2.2, HD.out, puF_some h1 h2 h3])
        have OVR : ∀ d, digV c.toNat = some d → d < 16 → 255 < acc * 16 + d → Hid (puV 255 l = none) := fun d h1 h2 h3 => Lib.hid (by rw [hV.out, ← hh.out.2.2, HD.out, puF_over h1 h2 h3])
        have BIG : ∀ d, digV c.toNat = some d → 16 ≤ d → Hid (puV 255 l = none) := fun d h1 h2 => Lib.hid (by rw [hV.out, ← hh.out.2.2, HD.out, puF_big h1 h2])
        have BAD : digV c.toNat = none → Hid (puV 255 l = none) := fun h1 => Lib.hid (by rw [hV.out, ← hh.out.2.2, HD.out, puF_bad h1])
        have hacc := hh.out.1
        generalize c.toNat = cn at *
        clear hdrop hget hL
        by_cases hdig : 48 ≤ cn ∧ cn ≤ 57
        · obtain ⟨hd0, hd1⟩ := hdig
          have hdv := e1 hd0 hd1
          have i0 : (48 : Int) ≤ cn := by omega
          have i1 : (cn : Int) ≤ 57 := by omega
          by_cases hov : 255 < acc * 16 + (cn - 48)
          · have HF := OVR _ hdv (by omega) hov
            have iov : (255 : Int) < a * 16 + ((cn : Int) - 48) := by omega
            clear FIN OVR BIG BAD hdv e1 e2 e3 q1 q2 q3 q4 hacc hov hd0 hd1
            go_wp2
            go_ret2
            exact ⟨.no _ HF.out (.inl rfl), HBel.out⟩
          · have HF := FIN _ hdv (by omega) (by omega)
            have iov : a * 16 + ((cn : Int) - 48) ≤ 255 := by omega
            have HA : Hid (a * 16 + ((cn : Int) - 48) = ((acc * 16 + (cn - 48) : Nat) : Int) ∧ acc * 16 + (cn - 48) ≤ 255) := Lib.hid ⟨by omega, by omega⟩
            clear FIN OVR BIG BAD hdv e1 e2 e3 q1 q2 q3 q4 hacc hov hd0 hd1
            go_wp2
            go_round
            case rel => exact ⟨k + 1, acc * 16 + (cn - 48), a * 16 + ((cn : Int) - 48), rfl, rfl, by go_num, by omega, Lib.hid ⟨HA.out.1, HA.out.2, HF.out⟩⟩
            case measure => simp [RowKit.intOf]; omega
        · by_cases hlet : 97 ≤ L ∧ L ≤ 122
          · obtain ⟨hd0, hd1⟩ := hlet
            obtain ⟨g1, g2⟩ := q4 hd0 hd1
            have hdv := e2 g1 hd0 hd1
            have i0 : (97 : Int) ≤ L := by omega
            have i1 : (L : Int) ≤ 122 := by omega
            have i2 : (57 : Int) < cn := by omega
            have i3 : ((cn : Int) == 95) = false := by rw [beq_eq_false_iff_ne]; omega
            by_cases hbig : 102 < L
            · have HF := BIG _ hdv (by omega)
              have i4 : (102 : Int) < L := by omega
              clear FIN OVR BIG BAD hdv e1 e2 e3 q2 q3 q4 hacc hd0 hd1 g1 g2 hdig hbig
              go_wp2_with (go_at_call 133; refine (Tryz.internal_strconv_lower _ _).mono ?_; rintro e w' ⟨rfl, rfl⟩)
              go_ret2
              exact ⟨.no _ HF.out (.inr rfl), HBel.out⟩
            · have i4 : (L : Int) ≤ 102 := by omega
              by_cases hov : 255 < acc * 16 + (L - 87)
              · have HF := OVR _ hdv (by omega) hov
                have iov : (255 : Int) < a * 16 + ((L : Int) - 97 + 10) := by omega
                clear FIN OVR BIG BAD hdv e1 e2 e3 q2 q3 q4 hacc hov hd0 hd1 g1 g2 hdig hbig
                go_wp2_with (go_at_call 133; refine (Tryz.internal_strconv_lower _ _).mono ?_; rintro e w' ⟨rfl, rfl⟩)
                go_ret2
                exact ⟨.no _ HF.out (.inl rfl), HBel.out⟩
              · have HF := FIN _ hdv (by omega) (by omega)
                have iov : a * 16 + ((L : Int) - 97 + 10) ≤ 255 := by omega
                have HA : Hid (a * 16 + ((L : Int) - 97 + 10) = ((acc * 16 + (L - 87) : Nat) : Int) ∧ acc * 16 + (L - 87) ≤ 255) := Lib.hid ⟨by omega, by omega⟩
                clear FIN OVR BIG BAD hdv e1 e2 e3 q2 q3 q4 hacc hov hd0 hd1 g1 g2 hdig hbig
                go_wp2_with (go_at_call 133; refine (Tryz.internal_strconv_lower _ _).mono ?_; rintro e w' ⟨rfl, rfl⟩)
                go_round
                case rel => exact ⟨k + 1, acc * 16 + (L - 87), a * 16 + ((L : Int) - 97 + 10), rfl, rfl, by go_num, by omega, Lib.hid ⟨HA.out.1, HA.out.2, HF.out⟩⟩
                case measure => simp [RowKit.intOf]; omega
          · have HF := BAD (e3 hdig hlet)
            have u0 : (cn : Int) < 48 ∨ (57 : Int) < cn := by omega
            have u1 : (L : Int) < 97 ∨ (122 : Int) < L := by omega
            have hb0 : 0 ≤ (L : Int) := by omega
            have hb1 : (L : Int) < 256 := by omega
            clear FIN OVR BIG BAD e1 e2 e3 q2 q3 q4 hacc hdig hlet
            rcases u0 with u0 | u0
            all_goals rcases u1 with u1 | u1
            all_goals
              go_wp2_with (go_at_call 133; refine (Tryz.internal_strconv_lower _ _).mono ?_; rintro e w' ⟨rfl, rfl⟩)
            all_goals go_ret2
            all_goals exact ⟨.no _ HF.out (.inr rfl), HBel.out⟩
      · have hkn' : ¬ (k : Int) < n := by omega
        obtain rfl : k = n := by omega
        have HF : Hid (puV 255 l = some acc) := Lib.hid (by rw [hV.out, ← hh.out.2.2, List.drop_eq_nil_of_le (by rw [HLN.out]; exact Nat.le_refl _)]; rfl)
        have HA := hh.out.1
        subst HA
        go_wp2
        go_ret2
        exact ⟨.yes HF.out, HBel.out⟩
end Go.Proofs.YtbnnhbmnddaafaaGreatDoor
/- Scan's escapes: strconv.ParseUint of 24 and 8 bits, illFormed, character, unescaped. -/
namespace Go.Proofs.YtbnnhbmnddaafaaGreatDoor
open Go Go.RowKit Go.Kt Go.Kt.Rg Go.Shelf
attribute [local go_sem] Oper.semAt_some

set_option maxRecDepth 100000 in
set_option maxHeartbeats 2000000 in
theorem pu24_any (s : ByteArray) (w : World) (hs : s.size ≤ 140737488351232) (hV : SVar w) :
    Calls Tryz.prog 122 #[.string s, .int .i64 16, .int .i64 24] w fun e w' => PuOut 181 (fun _ => True) (puV 16777215 s.data.toList) e ∧ Below w.heap.size w w' := by
  have CI := Lib.hid (ipu24_any s w (by omega))
  have HV := Lib.hid hV
  obtain ⟨o, ho⟩ : ∃ o, puV 16777215 s.data.toList = o := ⟨_, rfl⟩
  rw [ho] at CI ⊢
  clear hV ho
  go_enter Tryz.func122, Tryz.ntmps122
  go_wp2_with fail
  refine CI.out.mono ?_
  rintro e w1 ⟨hp, hb⟩
  have HB := Lib.hid hb
  clear hb
  cases o with
  | some n =>
    obtain rfl := hp
    have HF := Lib.hid (PuOut.yes (T := 181) (K := fun _ => True) (o := some n) rfl)
    go_wp2
    go_ret2
    exact ⟨HF.out, HB.out⟩
  | none =>
    obtain ⟨z, k, rfl, hk⟩ := hp
    have HF := Lib.hid (fun v => PuOut.no (T := 181) (K := fun _ => True) (o := none) z (k := v) rfl trivial)
    obtain ⟨⟨t1, p1, v1⟩, t2, p2, v2⟩ := HV.out.below HB.out
    rcases hk with rfl | rfl
    · have CT := Lib.hid (fun fn => Tryz.strconv_toError_range fn s 16 24 _ w1 (by omega) v2 (.inr ⟨_, _, rfl⟩))
      clear v1 v2
      go_wp2_with fail
      refine (CT.out _).mono ?_
      rintro e w2 ⟨N, rfl, _, _, hb2⟩
      have HB2 := Lib.hid (HB.out.trans (hb2.mono HB.out.size))
      clear hb2
      go_wp2
      go_ret2
      exact ⟨HF.out _, HB2.out⟩
    · have CT := Lib.hid (fun fn => Tryz.strconv_toError_syntax fn s 16 24 _ w1 (by omega) v1 (.inr ⟨_, _, rfl⟩))
      clear v1 v2
      go_wp2_with fail
      refine (CT.out _).mono ?_
      rintro e w2 ⟨N, rfl, _, _, hb2⟩
      have HB2 := Lib.hid (HB.out.trans (hb2.mono HB.out.size))
      clear hb2
      go_wp2
      go_ret2
      exact ⟨HF.out _, HB2.out⟩

set_option maxRecDepth 100000 in
set_option maxHeartbeats 2000000 in
theorem pu8_any (s : ByteArray) (w : World) (hs : s.size ≤ 140737488351232) (hV : SVar w) :
    Calls Tryz.prog 122 #[.string s, .int .i64 16, .int .i64 8] w fun e w' => PuOut 181 (fun _ => True) (puV 255 s.data.toList) e ∧ Below w.heap.size w w' := by
  have CI := Lib.hid (ipu8_any s w (by omega))
  have HV := Lib.hid hV
  obtain ⟨o, ho⟩ : ∃ o, puV 255 s.data.toList = o := ⟨_, rfl⟩
  rw [ho] at CI ⊢
  clear hV ho
  go_enter Tryz.func122, Tryz.ntmps122
  go_wp2_with fail
  refine CI.out.mono ?_
  rintro e w1 ⟨hp, hb⟩
  have HB := Lib.hid hb
  clear hb
  cases o with
  | some n =>
    obtain rfl := hp
    have HF := Lib.hid (PuOut.yes (T := 181) (K := fun _ => True) (o := some n) rfl)
    go_wp2
    go_ret2
    exact ⟨HF.out, HB.out⟩
  | none =>
    obtain ⟨z, k, rfl, hk⟩ := hp
    have HF := Lib.hid (fun v => PuOut.no (T := 181) (K := fun _ => True) (o := none) z (k := v) rfl trivial)
    obtain ⟨⟨t1, p1, v1⟩, t2, p2, v2⟩ := HV.out.below HB.out
    rcases hk with rfl | rfl
    · have CT := Lib.hid (fun fn => Tryz.strconv_toError_range fn s 16 8 _ w1 (by omega) v2 (.inr ⟨_, _, rfl⟩))
      clear v1 v2
      go_wp2_with fail
      refine (CT.out _).mono ?_
      rintro e w2 ⟨N, rfl, _, _, hb2⟩
      have HB2 := Lib.hid (HB.out.trans (hb2.mono HB.out.size))
      clear hb2
      go_wp2
      go_ret2
      exact ⟨HF.out _, HB2.out⟩
    · have CT := Lib.hid (fun fn => Tryz.strconv_toError_syntax fn s 16 8 _ w1 (by omega) v1 (.inr ⟨_, _, rfl⟩))
      clear v1 v2
      go_wp2_with fail
      refine (CT.out _).mono ?_
      rintro e w2 ⟨N, rfl, _, _, hb2⟩
      have HB2 := Lib.hid (HB.out.trans (hb2.mono HB.out.size))
      clear hb2
      go_wp2
      go_ret2
      exact ⟨HF.out _, HB2.out⟩


theorem conv1u (W : World) (x : Nat) (hx : x < 256) :
    (convert 35 9 (.slice (some ⟨W.heap.size, 0, none⟩) 1 1)).run Tryz.prog (W.alloc (.cells #[.int .u8 (x : Nat)] 5)) = .ok (.string ⟨#[UInt8.ofNat x]⟩) (W.alloc (.cells #[.int .u8 (x : Nat)] 5)) := by
  have := run_convert_bytes_back (P := Tryz.prog) (W.alloc (.cells #[.int .u8 (x : Nat)] 5)) 35 9 5 ⟨W.heap.size, 0, none⟩ 1 [UInt8.ofNat x] Tryz.underlying35 Tryz.underlying5 Tryz.underlying9 (by
    intro j hj
    simp at hj
    subst hj
    rw [Addr.add_lit, Lib.cell_of_heap (World.alloc_heap_new W _)]
    simp; omega)
  simpa using this
def illV (l : List UInt8) : Option (List UInt8 × Nat) := if l.length < 4 then none else match puV 255 ((l.drop 2).take 2) with | some n => if n < 128 then none else some ([UInt8.ofNat n], 4) | none => none
def escOut (o : Option (List UInt8 × Nat)) (e : Ending) : Prop := match o with
  | some (t, k) => e = .returned (.tuple #[.string ⟨t.toArray⟩, .int .i64 (k : Nat)])
  | none => e = .returned (.tuple #[.string ⟨#[]⟩, .int .i64 0])

set_option maxRecDepth 100000 in
theorem illFormed_any (s : ByteArray) (w : World) (hs : s.size ≤ 140737488351232) (hV : SVar w) :
    Calls Tryz.prog 108 #[.string s] w fun e w' => escOut (illV s.data.toList) e ∧ Below w.heap.size w w' := by
  have hl : s.data.toList.length = s.size := by simp
  by_cases h4 : s.size < 4
  · have HF : Hid (escOut (illV s.data.toList) (.returned (.tuple #[.string ⟨#[]⟩, .int .i64 0]))) := Lib.hid (by unfold illV; rw [if_pos (by omega)]; rfl)
    clear hV hl
    go_enter Tryz.func108, Tryz.ntmps108
    go_wp2
    go_ret2
    exact ⟨HF.out, Below.refl _ _⟩
  · have hx : (s.extract 2 4).data.toList = (s.data.toList.drop 2).take 2 := by simp [ByteArray.data_extract, Array.toList_extract, List.extract_eq_take_drop]
    have hz : (s.extract 2 4).size ≤ 140737488351232 := by rw [ByteArray.size_extract]; omega
    have CP := Lib.hid (pu8_any (s.extract 2 4) w hz hV)
    rw [hx] at CP
    have HI : Hid (illV s.data.toList = match puV 255 ((s.data.toList.drop 2).take 2) with | some n => if n < 128 then none else some ([UInt8.ofNat n], 4) | none => none) := Lib.hid (by unfold illV; rw [if_neg (by omega)])
    obtain ⟨o, ho⟩ : ∃ o, puV 255 ((s.data.toList.drop 2).take 2) = o := ⟨_, rfl⟩
    have hbd : ∀ n, o = some n → n ≤ 255 := fun n e => puV_bd (ho.trans e)
    rw [ho] at CP HI
    obtain ⟨Z, hZ⟩ : ∃ Z, illV s.data.toList = Z := ⟨_, rfl⟩
    rw [hZ] at HI ⊢
    clear hV hl hx hz ho hZ
    go_enter Tryz.func108, Tryz.ntmps108
    go_wp2_with fail
    refine CP.out.mono ?_
    rintro e w1 ⟨hp, hb⟩
    have HB := Lib.hid hb
    clear hb
    cases o with
    | none =>
      obtain ⟨z, k, rfl, _⟩ := hp
      have HF : Hid (escOut Z (.returned (.tuple #[.string ⟨#[]⟩, .int .i64 0]))) := Lib.hid (by rw [HI.out]; rfl)
      clear HI hbd
      go_wp2
      go_ret2
      exact ⟨HF.out, HB.out⟩
    | some n =>
      obtain rfl := hp
      have hn := hbd n rfl
      by_cases h128 : n < 128
      · have HF : Hid (escOut Z (.returned (.tuple #[.string ⟨#[]⟩, .int .i64 0]))) := Lib.hid (by rw [HI.out]; simp only [h128, if_true]; rfl)
        clear HI hbd
        go_wp2
        go_ret2
        exact ⟨HF.out, HB.out⟩
      · have HF : Hid (escOut Z (.returned (.tuple #[.string ⟨#[UInt8.ofNat n]⟩, .int .i64 4]))) := Lib.hid (by rw [HI.out]; simp only [h128, if_false]; rfl)
        clear HI hbd
        have HC := conv1u w1 n (by omega)
        go_wp2
        go_ret2
        exact ⟨HF.out, HB.out.alloc HB.out.size _⟩

set_option maxRecDepth 100000 in
theorem cutB2_any (s : ByteArray) (w : World) (hs : s.size ≤ 140737488351232) (K : Bool) (hK : s.data.toList.contains 125 = K) :
    Calls Tryz.prog 121 #[.string s, .string ⟨#[125]⟩] w fun e w' => ∃ (X : ByteArray), e = .returned (.tuple #[.string ⟨(upB s.data.toList).toArray⟩, .string X, .bool K]) ∧ Below w.heap.size w w' := by
  have hln : s.data.toList.length = s.size := (Lib.size_eq s).symm
  have hsz1 : (⟨#[125]⟩ : ByteArray).size = 1 := rfl
  have C : Hid (Calls Tryz.prog 129 #[.string s, .string ⟨#[125]⟩] w fun e w' => ∃ (X : ByteArray), e = .returned (.tuple #[.string ⟨(upB s.data.toList).toArray⟩, .string X, .bool K]) ∧ Below w.heap.size w w') := Lib.hid (by
    rcases upB_ix s.data.toList with ⟨h1, h2⟩ | ⟨o, h1, h2, h3⟩
    · have CI := Lib.hid (Tryz.stringslite_Index_one s 125 w)
      have hK1 : K = false := by rw [← hK]; have := Lib.indexByte_none h1; rw [Bool.eq_false_iff]; intro hc; rw [List.contains_iff_mem] at hc; obtain ⟨k, hk, he⟩ := List.mem_iff_getElem.1 hc; exact this k (by rw [List.getElem?_eq_getElem hk, he])
      subst hK1
      rw [h1] at CI
      rw [h2]
      have e : (⟨s.data.toList.toArray⟩ : ByteArray) = s := by cases s; simp
      rw [e]
      clear h1 h2 e hln hsz1 hK
      go_enter Tryz.func129, Tryz.ntmps129
      go_wp2_with fail
      refine CI.out.mono ?_
      rintro e w' ⟨rfl, rfl⟩
      go_wp2
      go_ret3
      exact ⟨_, rfl, Below.refl _ _⟩
    · have CI := Lib.hid (Tryz.stringslite_Index_one s 125 w)
      have hK1 : K = true := by rw [← hK, List.contains_iff_mem]; exact List.mem_of_getElem? (Lib.indexByte_some h1).1
      subst hK1
      rw [h1] at CI
      rw [h3, ← Lib.Pa.extract_upto]
      have c1 : (0 : Int) ≤ o := by omega
      have c2 : (o : Int) ≤ s.size := by omega
      have c3 : (0 : Int) ≤ (o : Int) + 1 := by omega
      have c4 : (o : Int) + 1 ≤ s.size := by omega
      clear h1 h2 h3 hln hK
      go_enter Tryz.func129, Tryz.ntmps129
      go_wp2_with fail
      refine CI.out.mono ?_
      rintro e w' ⟨rfl, rfl⟩
      go_wp2
      go_region
      all_goals
        go_wp2
        go_ret3
        exact ⟨_, rfl, below_drewN (Below.refl _ _) 1⟩)
  clear hln hsz1 hs hK
  go_enter Tryz.func121, Tryz.ntmps121
  go_wp2_with fail
  refine C.out.mono ?_
  rintro e w' ⟨X, rfl, hb⟩
  have HB := Lib.hid hb
  clear hb
  go_wp2
  go_ret3
  exact ⟨X, rfl, HB.out⟩

def opn (l : List UInt8) : Bool := [92, 117, 123].isPrefixOf l
def rst (l : List UInt8) : List UInt8 := if opn l then l.drop 3 else l
def chrO (op K : Bool) (m : Nat) : Option Nat → Option (List UInt8 × Nat)
  | none => none
  | some n => if op && K && decide (m ≤ 6) && Lib.validRune (n : Nat) then some ((Utf8.encode (n : Nat)).data.toList, 4 + m) else none
def chrV (l : List UInt8) : Option (List UInt8 × Nat) := chrO (opn l) ((rst l).contains 125) (upB (rst l)).length (puV 16777215 (upB (rst l)))

set_option maxRecDepth 100000 in
theorem character_any (s : ByteArray) (w : World) (hs : s.size ≤ 140737488351232) (hV : SVar w) :
    Calls Tryz.prog 107 #[.string s] w fun e w' => escOut (chrV s.data.toList) e ∧ Below w.heap.size w w' := by
  obtain ⟨l, hl⟩ : ∃ l, s.data.toList = l := ⟨_, rfl⟩
  have hln : l.length = s.size := by rw [← hl]; exact (Lib.size_eq s).symm
  obtain ⟨op, hop⟩ : ∃ op, opn l = op := ⟨_, rfl⟩
  obtain ⟨R, hR⟩ : ∃ R : ByteArray, R = ⟨(rst l).toArray⟩ := ⟨_, rfl⟩
  have hRd : R.data.toList = rst l := by rw [hR]
  have hRl : (rst l).length ≤ l.length := by unfold rst; split <;> simp
  have hRz : R.size ≤ 140737488351232 := by rw [Lib.size_eq, hRd]; omega
  have C1 : Hid (∀ V, Calls Tryz.prog 120 #[.string s, .string ⟨#[92, 117, 123]⟩] V fun e w' => e = .returned (.tuple #[.string R, .bool op]) ∧ V = w') := Lib.hid fun V => by
    refine (Tryz.strings_CutPrefix s ⟨#[92, 117, 123]⟩ V).mono ?_
    rintro e w' ⟨rfl, rfl⟩
    rw [hl, hR, ← hop]
    exact ⟨rfl, rfl⟩
  obtain ⟨K, hK⟩ : ∃ K, (rst l).contains 125 = K := ⟨_, rfl⟩
  have C2 := Lib.hid (fun V => cutB2_any R V hRz K (by rw [hRd]; exact hK))
  obtain ⟨D, hD⟩ : ∃ D : ByteArray, D = ⟨(upB R.data.toList).toArray⟩ := ⟨_, rfl⟩
  have hDd : D.data.toList = upB (rst l) := by rw [hD, hRd]
  rw [← hD] at C2
  have hDl := upB_len (rst l)
  have hDz : D.size = (upB (rst l)).length := by rw [Lib.size_eq, hDd]
  have C3 := Lib.hid (fun V (hb : Below w.heap.size w V) => pu24_any D V (by omega) (hV.below hb))
  rw [hDd] at C3
  obtain ⟨o, ho⟩ : ∃ o, puV 16777215 (upB (rst l)) = o := ⟨_, rfl⟩
  have hbd : ∀ n, o = some n → n ≤ 16777215 := fun n e => puV_bd (ho.trans e)
  have HV : Hid (chrV l = chrO op K D.size o) := Lib.hid (by unfold chrV; rw [ho, hop, hK, hDz])
  rw [ho] at C3
  obtain ⟨Z, hZ⟩ : ∃ Z, chrV l = Z := ⟨_, rfl⟩
  rw [hl, hZ]
  rw [hZ] at HV
  have HDZ : D.size ≤ 140737488351232 := by omega
  clear hZ ho hDz hDl hDd hD hK hRz hRl hRd hR hop hln hl hV hs
  have HN : Hid (Z = none → escOut Z (.returned (.tuple #[.string ⟨#[]⟩, .int .i64 0]))) := Lib.hid (by rintro rfl; rfl)
  go_enter Tryz.func107, Tryz.ntmps107
  go_wp2_with fail
  refine (C1.out _).mono ?_
  rintro e w' ⟨rfl, rfl⟩
  go_wp2_with fail
  refine (C2.out _).mono ?_
  rintro e w1 ⟨X, rfl, hb⟩
  have HB := Lib.hid hb
  clear hb
  go_wp2_with fail
  refine (C3.out _ HB.out).mono ?_
  rintro e w2 ⟨hp, hb⟩
  have HB2 := Lib.hid (HB.out.trans (hb.mono HB.out.size))
  clear hb
  cases o with
  | none =>
    obtain ⟨z, k, rfl, _⟩ := hp
    have HF := Lib.hid (HN.out HV.out)
    clear HV hbd HN
    cases op <;> cases K
    all_goals
      go_wp2
      go_ret2
      exact ⟨HF.out, HB2.out⟩
  | some n =>
    obtain rfl := hp
    have hn := hbd n rfl
    clear hbd
    have CV := Lib.hid (fun V => Tryz.utf8_ValidRune (n : Nat) V)
    have CE := Lib.hid (fun V => utfEncode_any (n : Nat) V)
    obtain ⟨vd, hvd⟩ : ∃ vd, Lib.validRune (n : Nat) = vd := ⟨_, rfl⟩
    have HVD := Lib.hid hvd
    rw [hvd] at CV
    clear hvd
    by_cases h6 : D.size ≤ 6
    · have h6' : ¬ ((6 : Int) < D.size) := by omega
      cases op
      · have HF := Lib.hid (HN.out (by rw [HV.out]; simp [chrO]))
        clear HV HN
        go_wp2
        go_ret2
        exact ⟨HF.out, HB2.out⟩
      · cases K
        · have HF := Lib.hid (HN.out (by rw [HV.out]; simp [chrO]))
          clear HV HN
          go_wp2
          go_ret2
          exact ⟨HF.out, HB2.out⟩
        · cases vd
          · have HF := Lib.hid (HN.out (by rw [HV.out]; simp [chrO, HVD.out]))
            clear HV HN
            go_wp2_with (go_at_call 116; refine (CV.out _).mono ?_; rintro e w' ⟨rfl, rfl⟩)
            go_ret2
            exact ⟨HF.out, HB2.out⟩
          · obtain ⟨E, hE⟩ : ∃ E, Utf8.encode (n : Nat) = E := ⟨_, rfl⟩
            have HF : Hid (escOut Z (.returned (.tuple #[.string E, .int .i64 (4 + (D.size : Nat) : Int)]))) := Lib.hid (by rw [HV.out]; simp [chrO, HVD.out, h6, escOut, hE])
            rw [hE] at CE
            have HW : IntKind.i64.wrap (4 + (D.size : Int)) = 4 + D.size := IntWalk.i64_in _ (by omega)
            clear HV HN hE HVD h6'
            go_wp2_with (go_at_call 116; refine (CV.out _).mono ?_; rintro e w' ⟨rfl, rfl⟩)
            go_wp2_with fail
            refine (CE.out _).mono ?_
            rintro e w' ⟨rfl, rfl⟩
            go_wp2
            go_ret2
            exact ⟨HF.out, HB2.out⟩
    · have h6' : (6 : Int) < D.size := by omega
      have HF := Lib.hid (HN.out (by rw [HV.out]; simp [chrO, h6]))
      clear HV HN
      cases op <;> cases K
      all_goals
        go_wp2
        go_ret2
        exact ⟨HF.out, HB2.out⟩
end Go.Proofs.YtbnnhbmnddaafaaGreatDoor
/- Scan's escapes: unescaped. -/
namespace Go.Proofs.YtbnnhbmnddaafaaGreatDoor
open Go Go.RowKit Go.Kt Go.Kt.Rg Go.Shelf
attribute [local go_sem] Oper.semAt_some

def unescV (s : ByteArray) : Option (List UInt8 × Nat) :=
  if unitW s 1 = 0 then none else if (decP s 1).1 = 117 then chrV s.data.toList else if (decP s 1).1 = 120 then illV s.data.toList else some ((s.extract 1 (1 + unitW s 1)).data.toList, 1 + unitW s 1)

set_option maxRecDepth 100000 in
theorem unescaped_any (s : ByteArray) (w : World) (hs : s.size ≤ 140737488351232) (h1 : 1 ≤ s.size) (hE : SEnv w) :
    Calls Tryz.prog 87 #[.string s] w fun e w' => escOut (unescV s) e ∧ Below w.heap.size w w' := by
  obtain ⟨r, hr⟩ := decP_W s 1
  obtain ⟨b1, b2, b3⟩ := unitW_bd s 1 h1
  have C := Lib.hid (utfDecode_any s ((1 : Nat) : Int) w hE.tabs (by omega))
  have hr' : decP s ((1 : Nat) : Int) = (r, ((unitW s 1 : Nat) : Int)) := hr
  rw [hr'] at C
  have CH := Lib.hid (fun V (hb : Below w.heap.size w V) => character_any s V hs (hE.sv.below hb))
  have CI := Lib.hid (fun V (hb : Below w.heap.size w V) => illFormed_any s V hs (hE.sv.below hb))
  have HU : Hid (unescV s = if unitW s 1 = 0 then none else if r = 117 then chrV s.data.toList else if r = 120 then illV s.data.toList else some ((s.extract 1 (1 + unitW s 1)).data.toList, 1 + unitW s 1)) := Lib.hid (by unfold unescV; rw [show (decP s 1).1 = r from congrArg Prod.fst hr])
  obtain ⟨Z, hZ⟩ : ∃ Z, unescV s = Z := ⟨_, rfl⟩
  rw [hZ] at HU ⊢
  generalize chrV s.data.toList = zc at *
  generalize illV s.data.toList = zi at *
  generalize unitW s 1 = n at *
  have HW : IntKind.i64.wrap (1 + (n : Nat) : Int) = 1 + (n : Nat) := IntWalk.i64_in _ (by omega)
  clear hZ hr hr' hE b3
  go_enter Tryz.func87, Tryz.ntmps87
  go_wp2_with fail
  refine C.out.mono ?_
  rintro e w1 ⟨rfl, hb⟩
  have HB := Lib.hid hb
  clear hb
  by_cases h0 : n = 0
  · have HF : Hid (escOut Z (.returned (.tuple #[.string ⟨#[]⟩, .int .i64 0]))) := Lib.hid (by rw [HU.out, if_pos h0]; rfl)
    subst h0
    clear HU
    go_wp2
    go_ret2
    exact ⟨HF.out, HB.out⟩
  · have n0 : (((n : Nat) : Int) == 0) = false := by simp; omega
    by_cases hu : r = 117
    · have HF : Hid (Z = zc) := Lib.hid (by rw [HU.out, if_neg h0, if_pos hu])
      subst hu
      clear HU h0
      go_wp2_with fail
      refine (CH.out _ HB.out).mono ?_
      rintro e w2 ⟨hp, hb⟩
      rw [← HF.out] at hp
      have HB2 := Lib.hid (HB.out.trans (hb.mono HB.out.size))
      clear hb
      cases Z with
      | none =>
        obtain rfl := hp
        go_wp2
        go_ret2
        exact ⟨rfl, HB2.out⟩
      | some z =>
        obtain ⟨t, k⟩ := z
        obtain rfl := hp
        go_wp2
        go_ret2
        exact ⟨rfl, HB2.out⟩
    · have u0 : (r == 117) = false := by simp; omega
      by_cases hx : r = 120
      · have HF : Hid (Z = zi) := Lib.hid (by rw [HU.out, if_neg h0, if_neg hu, if_pos hx])
        subst hx
        clear HU h0
        go_wp2_with fail
        refine (CI.out _ HB.out).mono ?_
        rintro e w2 ⟨hp, hb⟩
        rw [← HF.out] at hp
        have HB2 := Lib.hid (HB.out.trans (hb.mono HB.out.size))
        clear hb
        cases Z with
        | none =>
          obtain rfl := hp
          go_wp2
          go_ret2
          exact ⟨rfl, HB2.out⟩
        | some z =>
          obtain ⟨t, k⟩ := z
          obtain rfl := hp
          go_wp2
          go_ret2
          exact ⟨rfl, HB2.out⟩
      · have x0 : (r == 120) = false := by simp; omega
        have HF : Hid (escOut Z (.returned (.tuple #[.string (s.extract 1 (1 + n)), .int .i64 (1 + (n : Nat) : Int)]))) := Lib.hid (by
          rw [HU.out, if_neg h0, if_neg hu, if_neg hx]
          have e : (⟨(s.extract 1 (1 + n)).data.toList.toArray⟩ : ByteArray) = s.extract 1 (1 + n) := by cases s.extract 1 (1 + n); simp
          show _ = Ending.returned (.tuple #[.string ⟨(s.extract 1 (1 + n)).data.toList.toArray⟩, .int .i64 ((1 + n : Nat) : Int)])
          rw [e, Int.natCast_add]
          rfl)
        have c1 : (1 : Int) ≤ 1 + (n : Nat) := by omega
        have c2 : (1 : Int) + (n : Nat) ≤ s.size := by omega
        have c3 : ((1 : Int) + (n : Nat)).toNat = 1 + n := by omega
        clear HU h0 hu hx
        go_wp2
        go_ret2
        exact ⟨HF.out, HB.out⟩
end Go.Proofs.YtbnnhbmnddaafaaGreatDoor
/- The scanner's escape. -/
namespace Go.Proofs.YtbnnhbmnddaafaaGreatDoor
open Go Go.RowKit Go.Kt Go.Kt.Rg Go.Shelf
attribute [local go_sem] Oper.semAt_some

theorem unesc_bd {s : ByteArray} {t : List UInt8} {k : Nat} (h1 : 1 ≤ s.size) (h : unescV s = some (t, k)) : 1 ≤ k ∧ k ≤ s.size + 4 ∧ t.length ≤ 4 := by
  obtain ⟨b1, b2, b3⟩ := unitW_bd s 1 h1
  have hl : s.data.toList.length = s.size := (Lib.size_eq s).symm
  unfold unescV at h
  split at h
  · cases h
  · split at h
    · unfold chrV at h
      have hu := upB_len (rst s.data.toList)
      have hr : (rst s.data.toList).length ≤ s.data.toList.length := by unfold rst; split <;> simp
      cases ho : puV 16777215 (upB (rst s.data.toList)) with
      | none => rw [ho] at h; cases h
      | some n =>
        rw [ho] at h
        unfold chrO at h
        simp only at h
        split at h
        · injection h with h
          injection h with h2 h3
          have := encode_size ((n : Nat) : Int)
          have e := Lib.size_eq (Utf8.encode ((n : Nat) : Int))
          subst h2; subst h3
          omega
        · cases h
    · split at h
      · unfold illV at h
        split at h
        · cases h
        · split at h
          · split at h
            · cases h
            · injection h with h
              injection h with h2 h3
              subst h2; subst h3
              simp <;> omega
          · cases h
      · injection h with h
        injection h with h2 h3
        have e := Lib.size_eq (s.extract 1 (1 + unitW s 1))
        rw [ByteArray.size_extract] at e
        subst h2; subst h3
        omega

theorem set_8 {W : World} {g : Nat} {s : ByteArray} {st l1 c1 i1 l2 c2 i2 l3 c3 i3 bh : Int} {tv kv u : Value} {T : TypeId} (h : W.heap[g]? = some (.cells (scC s st l1 c1 i1 l2 c2 i2 tv l3 c3 i3 bh kv) T (0, 0))) :
    (W.setCell ⟨g, 8, none⟩ u).heap[g]? = some (.cells (scC s st l1 c1 i1 l2 c2 i2 u l3 c3 i3 bh kv) T (0, 0)) := by
  have hlt := (Array.getElem?_eq_some_iff.1 h).1
  have h' : W.heap[g] = .cells (scC s st l1 c1 i1 l2 c2 i2 tv l3 c3 i3 bh kv) T (0, 0) := by rw [Array.getElem?_eq_getElem hlt] at h; exact Option.some.inj h
  simp [World.setCell, hlt, Array.getElem_modify, h']
theorem set_1 {W : World} {g : Nat} {s : ByteArray} {st z l1 c1 i1 l2 c2 i2 l3 c3 i3 bh : Int} {tv kv : Value} {T : TypeId} (h : W.heap[g]? = some (.cells (scC s st l1 c1 i1 l2 c2 i2 tv l3 c3 i3 bh kv) T (0, 0))) :
    (W.setCell ⟨g, 1, none⟩ (.int .i64 z)).heap[g]? = some (.cells (scC s z l1 c1 i1 l2 c2 i2 tv l3 c3 i3 bh kv) T (0, 0)) := by
  have hlt := (Array.getElem?_eq_some_iff.1 h).1
  have h' : W.heap[g] = .cells (scC s st l1 c1 i1 l2 c2 i2 tv l3 c3 i3 bh kv) T (0, 0) := by rw [Array.getElem?_eq_getElem hlt] at h; exact Option.some.inj h
  simp [World.setCell, hlt, Array.getElem_modify, h']
theorem set_12 {W : World} {g : Nat} {s : ByteArray} {st z l1 c1 i1 l2 c2 i2 l3 c3 i3 bh : Int} {tv kv : Value} {T : TypeId} (h : W.heap[g]? = some (.cells (scC s st l1 c1 i1 l2 c2 i2 tv l3 c3 i3 bh kv) T (0, 0))) :
    (W.setCell ⟨g, 12, none⟩ (.int .i64 z)).heap[g]? = some (.cells (scC s st l1 c1 i1 l2 c2 i2 tv l3 c3 i3 z kv) T (0, 0)) := by
  have hlt := (Array.getElem?_eq_some_iff.1 h).1
  have h' : W.heap[g] = .cells (scC s st l1 c1 i1 l2 c2 i2 tv l3 c3 i3 bh kv) T (0, 0) := by rw [Array.getElem?_eq_getElem hlt] at h; exact Option.some.inj h
  simp [World.setCell, hlt, Array.getElem_modify, h']

def EscOut (s : ByteArray) (l1 c1 i : Nat) (l2 c2 i2 l3 c3 i3 : Int) (tv kv : Value) (m g : Nat) (xs : List Value) (w : World) (o : Option (List UInt8 × Nat)) (e : Ending) (w' : World) : Prop := match o with
  | none => e = .returned (fltV 9 (l1 : Nat) (c1 : Nat)) ∧ Below w.heap.size w w'
  | some (t, k) => e = .returned .nilIface ∧ ∃ tv', w'.heap[g]? = some (.cells (scC s 7 (l1 : Nat) (c1 : Nat) (i : Nat) l2 c2 i2 tv' l3 c3 i3 ((i + k : Nat) : Int) kv) 43 (0, 0)) ∧
      OwnS (fun b => (tv.ownBlock = some b ∨ w.heap.size ≤ b) ∧ b ≠ g) 5 1 tv' (m + t.length) (xs ++ u8V t) w' ∧ Keep (fun b => b = g ∨ tv.ownBlock = some b) w w'

set_option maxHeartbeats 4000000 in
set_option maxRecDepth 100000 in
theorem escape_raw (s : ByteArray) (st l2 c2 i2 l3 c3 i3 bh : Int) (l1 c1 i : Nat) (tv kv : Value) (g : Nat) (w : World) (m : Nat) (xs : List Value) (hg : w.heap[g]? = some (.cells (scC s st (l1 : Nat) (c1 : Nat) (i : Nat) l2 c2 i2 tv l3 c3 i3 bh kv) 43 (0, 0)))
    (hown : OwnS (fun b => b ≠ g) 5 1 tv m xs w) (hm : m ≤ 8388608) (hi : i < s.size) (hs : s.size ≤ 1048576) (hE : SEnv w) :
    Calls Tryz.prog 63 #[.pointer (some ⟨g, 0, none⟩)] w fun e w' => EscOut s l1 c1 i l2 c2 i2 l3 c3 i3 tv kv m g xs w (unescV (s.extract i s.size)) e w' := by
  have hgl : g < w.heap.size := (Array.getElem?_eq_some_iff.1 hg).1
  have htg : tv.ownBlock ≠ some g := fun h => hown.2 g h rfl
  have c0 : w.cell? ⟨g, 0, none⟩ = some (.string s) := by rw [Lib.cell_of_heap hg]; rfl
  have c4 : w.cell? ⟨g, 4, none⟩ = some (.int .i64 (i : Nat)) := by rw [Lib.cell_of_heap hg]; rfl
  have hz : (s.extract i s.size).size = s.size - i := by rw [ByteArray.size_extract]; omega
  have CU := Lib.hid (unescaped_any (s.extract i s.size) w.drew (by omega) (by omega) (hE.below (Below.refl _ w).drew))
  have HBD := Lib.hid (fun (t : List UInt8) (k : Nat) (h : unescV (s.extract i s.size) = some (t, k)) => unesc_bd (s := s.extract i s.size) (by omega) h)
  obtain ⟨o, ho⟩ : ∃ o, unescV (s.extract i s.size) = o := ⟨_, rfl⟩
  rw [ho] at CU HBD ⊢
  have HZ := Lib.hid hz
  have HG := Lib.hid hg
  have HO := Lib.hid hown
  have HTG := Lib.hid htg
  have hil : (i : Int) ≤ s.size := by omega
  clear hz ho hE hg hown htg
  go_enter Tryz.func63, Tryz.ntmps63
  go_wp2
  cases o with
  | none =>
    go_region_with (first
      | (go_at_call 87; refine CU.out.mono ?_; rintro e w1 ⟨rfl, hb⟩
         have hg1 : w1.heap[g]? = some (.cells (scC s st (l1 : Nat) (c1 : Nat) (i : Nat) l2 c2 i2 tv l3 c3 i3 bh kv) 43 (0, 0)) := (hb.block g hgl).trans HG.out
         have k2 : w1.cell? ⟨g, 2, none⟩ = some (.int .i64 (l1 : Nat)) := by rw [Lib.cell_of_heap hg1]; rfl
         have k3 : w1.cell? ⟨g, 3, none⟩ = some (.int .i64 (c1 : Nat)) := by rw [Lib.cell_of_heap hg1]; rfl
         have k4 : w1.cell? ⟨g, 4, none⟩ = some (.int .i64 (i : Nat)) := by rw [Lib.cell_of_heap hg1]; rfl
         have HB := Lib.hid (((Below.refl _ w).drew).trans hb)
         have HG1 := Lib.hid hg1
         clear hb c0 c4 hg1))
    all_goals
      have CF := Lib.hid (fun V => plFault_any (l1, c1, i) 9 V)
      unfold plV at CF
      go_wp2_with fail
      refine (CF.out _).mono ?_
      rintro e w2 ⟨rfl, hb⟩
      have HB2 := Lib.hid (HB.out.trans (hb.mono HB.out.size))
      clear hb
      go_wp2
      go_ret
      exact ⟨rfl, HB2.out⟩
  | some z =>
    obtain ⟨t, k⟩ := z
    obtain ⟨bk1, bk2, bt⟩ := HBD.out t k rfl
    have hz := HZ.out
    have HW : IntKind.i64.wrap ((i : Nat) + (k : Nat) : Int) = ((i + k : Nat) : Int) := by rw [Int.natCast_add]; exact IntWalk.i64_in _ (by omega)
    have hk0 : (((k : Nat) : Int) == 0) = false := by simp; omega
    obtain ⟨tb, htb⟩ : ∃ tb : ByteArray, tb = ⟨t.toArray⟩ := ⟨_, rfl⟩
    have htz : tb.size = t.length := by rw [htb]; exact size_mk t
    have HTC : Hid (Lib.strCells tb = u8V t) := Lib.hid (by rw [htb]; rfl)
    have CU2 : Hid (Calls Tryz.prog 87 #[.string (s.extract i s.size)] w.drew fun e w' => e = .returned (.tuple #[.string tb, .int .i64 (k : Nat)]) ∧ Below w.drew.heap.size w.drew w') := Lib.hid (by rw [htb]; exact CU.out)
    have HTZ := Lib.hid htz
    have hlm : m + tb.size ≤ 140737488355328 := by omega
    clear htb htz bk2 bt hz CU HBD
    go_region_with (first
      | (go_at_call 87; refine CU2.out.mono ?_; rintro e w1 ⟨rfl, hb⟩
         have hg1 : w1.heap[g]? = some (.cells (scC s st (l1 : Nat) (c1 : Nat) (i : Nat) l2 c2 i2 tv l3 c3 i3 bh kv) 43 (0, 0)) := (hb.block g hgl).trans HG.out
         have k8 : w1.cell? ⟨g, 8, none⟩ = some tv := by rw [Lib.cell_of_heap hg1]; rfl
         have HB := Lib.hid (((Below.refl _ w).drew).trans hb)
         have HG1 := Lib.hid hg1
         clear hb c0 c4 hg1))
    all_goals
      have ho1 : OwnS (fun b => b ≠ g) 5 1 tv m xs w1 := HO.out.keep (X := fun _ => False) (Keep.of_all HB.out) (fun _ h => h.elim)
      obtain ⟨tv', w2, hrun, ho2, hk2⟩ := append_st (P := Tryz.prog) w1 35 9 5 Tryz.underlying35 Tryz.underlying9 tinfo5 ho1 tb hlm
      have hg2 : w2.heap[g]? = some (.cells (scC s st (l1 : Nat) (c1 : Nat) (i : Nat) l2 c2 i2 tv l3 c3 i3 bh kv) 43 (0, 0)) := hk2.heap HG1.out HTG.out
      have HRun := Lib.hid hrun
      have HO2 := Lib.hid ho2
      have HK2 := Lib.hid hk2
      have HG2 := Lib.hid hg2
      obtain ⟨ao, ln, cp, rfl⟩ : ∃ ao ln cp, tv' = .slice ao ln cp := by
        rcases ho2.shape with ⟨h, _⟩ | ⟨g', cap, h, _⟩
        · exact ⟨_, _, _, h⟩
        · exact ⟨_, _, _, h⟩
      have q1 : w2.cell? ⟨g, 1, none⟩ = some (.int .i64 st) := by rw [Lib.cell_of_heap hg2]; rfl
      have f1 : w2.frozen? ⟨g, 1, none⟩ = false := by simp [World.frozen?, hg2]
      have q4 : w2.cell? ⟨g, 4, none⟩ = some (.int .i64 (i : Nat)) := by rw [Lib.cell_of_heap hg2]; rfl
      have q12 : w2.cell? ⟨g, 12, none⟩ = some (.int .i64 bh) := by rw [Lib.cell_of_heap hg2]; rfl
      have f12 : w2.frozen? ⟨g, 12, none⟩ = false := by simp [World.frozen?, hg2]
      have q8 : w2.cell? ⟨g, 8, none⟩ = some tv := by rw [Lib.cell_of_heap hg2]; rfl
      have f8 : w2.frozen? ⟨g, 8, none⟩ = false := by simp [World.frozen?, hg2]
      clear ho1 hrun ho2 hk2 hg2
      go_wp2_with (at_builtin; refine wpList_append_eq rfl rfl rfl rfl HRun.out ?_)
      go_ret
      refine ⟨rfl, .slice ao ln cp, ?_, ?_, ?_⟩
      · have h1 := set_12 (z := (i : Int) + (k : Int)) (set_1 (z := 7) (set_8 (u := .slice ao ln cp) HG2.out))
        rw [Int.natCast_add]
        exact h1
      · have hk3 : Keep (fun b => b = g) w2 (((w2.setCell ⟨g, 8, none⟩ (.slice ao ln cp)).setCell ⟨g, 1, none⟩ (.int .i64 7)).setCell ⟨g, 12, none⟩ (.int .i64 ((i : Int) + (k : Int)))) :=
          Keep.setCell (X := fun b => b = g) (Keep.setCell (X := fun b => b = g) (Keep.setCell (X := fun b => b = g) (Keep.refl _ _) (p := ⟨g, 8, none⟩) rfl _) (p := ⟨g, 1, none⟩) rfl _) (p := ⟨g, 12, none⟩) rfl _
        have hle := HB.out.size
        have o1 : OwnS (fun b => (tv.ownBlock = some b ∨ w.heap.size ≤ b) ∧ b ≠ g) 5 1 (.slice ao ln cp) (m + tb.size) (xs ++ Lib.strCells tb) w2 := HO2.out.weaken (by
          rintro b (h | h)
          · exact ⟨.inl h, fun e => HTG.out (e ▸ h)⟩
          · exact ⟨.inr (by omega), by omega⟩)
        rw [HTC.out, HTZ.out] at o1
        exact o1.keep hk3 (fun b hb hy => hy.2 hb)
      · refine Keep.setCell (Keep.setCell (Keep.setCell ?_ (p := ⟨g, 8, none⟩) (.inl rfl) _) (p := ⟨g, 1, none⟩) (.inl rfl) _) (p := ⟨g, 12, none⟩) (.inl rfl) _
        exact (Keep.of_all HB.out).trans (HK2.out.weaken fun _ _ h => .inr h)
end Go.Proofs.YtbnnhbmnddaafaaGreatDoor
/- Scan's tooMany, and its end. -/
namespace Go.Proofs.YtbnnhbmnddaafaaGreatDoor
open Go Go.RowKit Go.Kt Go.Shelf
attribute [local go_sem] Oper.semAt_some

def nlN (s : ByteArray) : Nat := Lib.countByte (Lib.trimSuffix s.data.toList [10]) 10
def tmV (s : ByteArray) : Value := if 1048576 < s.size then fltV 5 0 0 else if 65536 ≤ nlN s then fltV 5 65537 1 else .nilIface

set_option maxRecDepth 100000 in
theorem tooMany_any (s : ByteArray) (w : World) (hs : s.size ≤ 140737488351232) :
    Calls Tryz.prog 17 #[.string s] w fun e w' => e = .returned (tmV s) ∧ Below w.heap.size w w' := by
  obtain ⟨T, hT⟩ : ∃ T : ByteArray, T = ⟨(Lib.trimSuffix s.data.toList [10]).toArray⟩ := ⟨_, rfl⟩
  have CT := Lib.hid (fun V => Tryz.strings_TrimSuffix s ⟨#[10]⟩ V (by omega))
  have CT2 : Hid (∀ V, Calls Tryz.prog 37 #[.string s, .string ⟨#[10]⟩] V fun e w' => e = .returned (.string T) ∧ w' = V) := Lib.hid fun V => by rw [hT]; exact CT.out V
  have hTd : T.data.toList = Lib.trimSuffix s.data.toList [10] := by rw [hT]
  have CC : Hid (∀ V, Calls Tryz.prog 36 #[.string T, .string ⟨#[10]⟩] V fun e w' => e = .returned (.int .i64 (nlN s : Nat)) ∧ w' = V) := Lib.hid fun V => by
    have := Tryz.strings_Count_one T 10 V
    rw [hTd] at this
    exact this
  have HV : Hid (tmV s = if 1048576 < s.size then fltV 5 0 0 else if 65536 ≤ nlN s then fltV 5 65537 1 else .nilIface) := Lib.hid rfl
  generalize nlN s = n at *
  generalize tmV s = Z at *
  clear hT CT hTd
  by_cases h1 : 1048576 < s.size
  · have hz : Z = fltV 5 0 0 := by rw [HV.out, if_pos h1]
    subst hz
    have h1' : (1048576 : Int) < s.size := by omega
    clear HV h1
    go_enter Tryz.func17, Tryz.ntmps17
    go_wp2
    go_ret
    exact ⟨rfl, Below.refl _ _⟩
  · have h1' : ¬ (1048576 : Int) < s.size := by omega
    by_cases h2 : 65536 ≤ n
    · have hz : Z = fltV 5 65537 1 := by rw [HV.out, if_neg h1, if_pos h2]
      subst hz
      have h2' : (65536 : Int) ≤ n := by omega
      clear HV h1 h2
      go_enter Tryz.func17, Tryz.ntmps17
      go_wp2_with (first | (go_at_call 37; refine (CT2.out _).mono ?_; rintro e w' ⟨rfl, rfl⟩) | (go_at_call 36; refine (CC.out _).mono ?_; rintro e w' ⟨rfl, rfl⟩))
      go_ret
      exact ⟨rfl, Below.refl _ _⟩
    · have hz : Z = .nilIface := by rw [HV.out, if_neg h1, if_neg h2]
      subst hz
      obtain ⟨z, hzz⟩ : ∃ z : Int, ((n : Nat) : Int) = z := ⟨_, rfl⟩
      have h2' : z < 65536 := by omega
      rw [hzz] at CC
      clear hzz
      clear HV h1 h2
      go_enter Tryz.func17, Tryz.ntmps17
      go_wp2_with (first | (go_at_call 37; refine (CT2.out _).mono ?_; rintro e w' ⟨rfl, rfl⟩) | (go_at_call 36; refine (CC.out _).mono ?_; rintro e w' ⟨rfl, rfl⟩))
      go_ret
      exact ⟨rfl, Below.refl _ _⟩

set_option maxRecDepth 100000 in
theorem end_bad (s : ByteArray) (l1 c1 i1 bh : Int) (st l2 c2 i2 l3 c3 i3 : Nat) (tv kv : Value) (g : Nat) (w : World) (hg : w.heap[g]? = some (.cells (scC s (st : Nat) l1 c1 i1 (l2 : Nat) (c2 : Nat) (i2 : Nat) tv (l3 : Nat) (c3 : Nat) (i3 : Nat) bh kv) 43 (0, 0))) (h : st = 3 ∨ st = 5) :
    Calls Tryz.prog 20 #[.pointer (some ⟨g, 0, none⟩)] w fun e w' => e = .returned (.tuple #[.slice none 0 0, if st = 3 then fltV 25 (l2 : Nat) (c2 : Nat) else fltV 10 (l3 : Nat) (c3 : Nat)]) ∧ Below w.heap.size w w' := by
  have k1 : w.cell? ⟨g, 1, none⟩ = some (.int .i64 (st : Nat)) := by rw [Lib.cell_of_heap hg]; rfl
  rcases h with rfl | rfl
  · have k5 : w.cell? ⟨g, 5, none⟩ = some (.int .i64 (l2 : Nat)) := by rw [Lib.cell_of_heap hg]; rfl
    have k6 : w.cell? ⟨g, 6, none⟩ = some (.int .i64 (c2 : Nat)) := by rw [Lib.cell_of_heap hg]; rfl
    have k7 : w.cell? ⟨g, 7, none⟩ = some (.int .i64 (i2 : Nat)) := by rw [Lib.cell_of_heap hg]; rfl
    have CF := Lib.hid (fun V => plFault_any (l2, c2, i2) 25 V)
    unfold plV at CF
    clear hg
    go_enter Tryz.func20, Tryz.ntmps20
    go_wp2_with fail
    refine (CF.out _).mono ?_
    rintro e w2 ⟨rfl, hb⟩
    have HB := Lib.hid hb
    clear hb
    go_wp2
    go_ret2
    exact ⟨rfl, HB.out⟩
  · have k9 : w.cell? ⟨g, 9, none⟩ = some (.int .i64 (l3 : Nat)) := by rw [Lib.cell_of_heap hg]; rfl
    have k10 : w.cell? ⟨g, 10, none⟩ = some (.int .i64 (c3 : Nat)) := by rw [Lib.cell_of_heap hg]; rfl
    have k11 : w.cell? ⟨g, 11, none⟩ = some (.int .i64 (i3 : Nat)) := by rw [Lib.cell_of_heap hg]; rfl
    have CF := Lib.hid (fun V => plFault_any (l3, c3, i3) 10 V)
    unfold plV at CF
    clear hg
    go_enter Tryz.func20, Tryz.ntmps20
    go_wp2_with fail
    refine (CF.out _).mono ?_
    rintro e w2 ⟨rfl, hb⟩
    have HB := Lib.hid hb
    clear hb
    go_wp2
    go_ret2
    exact ⟨rfl, HB.out⟩

set_option maxRecDepth 100000 in
theorem end_good (s : ByteArray) (l1 c1 i1 l2 c2 i2 l3 c3 i3 bh : Int) (st : Nat) (tv kv : Value) (g : Nat) (w : World) (n : Nat) (xs : List Value) (hg : w.heap[g]? = some (.cells (scC s (st : Nat) l1 c1 i1 l2 c2 i2 tv l3 c3 i3 bh kv) 43 (0, 0)))
    (hown : OwnS (fun b => b ≠ g) 30 5 kv n xs w) (hn : n ≤ 2097152) (h3 : st ≠ 3) (h5 : st ≠ 5) :
    Calls Tryz.prog 20 #[.pointer (some ⟨g, 0, none⟩)] w fun e w' => ∃ g2 cap, e = .returned (.tuple #[.slice (some ⟨g2, 0, none⟩) (n + 1) cap, .nilIface]) ∧
      OwnS (fun b => (kv.ownBlock = some b ∨ w.heap.size ≤ b) ∧ b ≠ g) 30 5 (.slice (some ⟨g2, 0, none⟩) (n + 1) cap) (n + 1) (xs ++ [.int .i64 0, .string ⟨#[]⟩, .int .i64 l2, .int .i64 c2, .int .i64 i2]) w' ∧ Keep (fun b => b = g ∨ kv.ownBlock = some b) w w' := by
  have k1 : w.cell? ⟨g, 1, none⟩ = some (.int .i64 (st : Nat)) := by rw [Lib.cell_of_heap hg]; rfl
  have CA := Lib.hid (add_raw s (st : Nat) l1 c1 i1 l2 c2 i2 l3 c3 i3 bh tv kv g w 0 ⟨#[]⟩ n xs hg hown hn (by decide))
  have n3 : (((st : Nat) : Int) == 3) = false := by simp; omega
  have n5 : (((st : Nat) : Int) == 5) = false := by simp; omega
  clear hg hown h3 h5
  go_enter Tryz.func20, Tryz.ntmps20
  go_wp2_with fail
  refine CA.out.mono ?_
  rintro e w2 ⟨rfl, kv', hg2, ho, hk⟩
  obtain ⟨g2, cap, rfl⟩ : ∃ g2 cap, kv' = .slice (some ⟨g2, 0, none⟩) (n + 1) cap := by
    rcases ho.shape with ⟨_, h⟩ | ⟨g', cap, h, _⟩
    · omega
    · exact ⟨_, _, h⟩
  have q13 : w2.cell? ⟨g, 13, none⟩ = some (.slice (some ⟨g2, 0, none⟩) (n + 1) cap) := by rw [Lib.cell_of_heap hg2]; rfl
  have HF := Lib.hid (And.intro ho hk)
  clear hg2 ho hk k1
  go_wp2
  go_ret2
  exact ⟨g2, cap, rfl, HF.out.1, HF.out.2⟩
end Go.Proofs.YtbnnhbmnddaafaaGreatDoor
/- strings.Join, strings.FieldsFunc laid over this translation; scan.evened. -/
namespace Go.Proofs
open Go.Shelf
def Tryz.lays156_ren : Go.Shelf.Ren := ⟨fun | 156 => 66 | 165 => 89 | 166 => 22 | 169 => 24 | 240 => 46 | 241 => 109 | 276 => 69 | 277 => 124 | n => n, fun | 31 => 32 | 9 => 9 | 3 => 3 | 4 => 4 | 0 => 0 | 20 => 20 | 72 => 49 | 76 => 52 | 70 => 47 | 37 => 35 | 75 => 25 | 127 => 80 | 164 => 98 | 5 => 5 | 80 => 55 | n => n, fun | n => n⟩
theorem Tryz.lays156 : Go.Proofs.Lays.n156 Tryz.prog Tryz.lays156_ren := {
  mixed := by kernel_rfl
  f156 := Tryz.func66.trans (congrArg some (by kernel_rfl))
  f165 := Tryz.func89.trans (congrArg some (by kernel_rfl))
  f166 := Tryz.func22.trans (congrArg some (by kernel_rfl))
  f169 := Tryz.func24.trans (congrArg some (by kernel_rfl))
  f240 := Tryz.func46.trans (congrArg some (by kernel_rfl))
  f241 := Tryz.func109.trans (congrArg some (by kernel_rfl))
  f276 := Tryz.func69.trans (congrArg some (by kernel_rfl))
  f277 := Tryz.func124.trans (congrArg some (by kernel_rfl))
  t0 := Tryz.underlying0
  a0 := Tryz.isAgg0
  z0 := Tryz.sizeOf0
  v0 := Tryz.zeroValue0
  t3 := Tryz.underlying3
  a3 := Tryz.isAgg3
  z3 := Tryz.sizeOf3
  v3 := Tryz.zeroValue3
  t4 := Tryz.underlying4
  a4 := Tryz.isAgg4
  z4 := Tryz.sizeOf4
  v4 := Tryz.zeroValue4
  t9 := Tryz.underlying9
  a9 := Tryz.isAgg9
  z9 := Tryz.sizeOf9
  v9 := Tryz.zeroValue9
  t20 := Tryz.underlying20
  a20 := Tryz.isAgg20
  z20 := Tryz.sizeOf20
  v20 := Tryz.zeroValue20
  t31 := Tryz.underlying32
  a31 := Tryz.isAgg32
  z31 := Tryz.sizeOf32
  v31 := Tryz.zeroValue32
  t37 := Tryz.underlying35
  a37 := Tryz.isAgg35
  z37 := Tryz.sizeOf35
  v37 := Tryz.zeroValue35
  t70 := Tryz.underlying47
  a70 := Tryz.isAgg47
  z70 := Tryz.sizeOf47
  v70 := Tryz.zeroValue47
  t72 := Tryz.underlying49
  a72 := Tryz.isAgg49
  z72 := Tryz.sizeOf49
  v72 := Tryz.zeroValue49
  t75 := Tryz.underlying25
  a75 := Tryz.isAgg25
  z75 := Tryz.sizeOf25
  v75 := Tryz.zeroValue25
  t76 := Tryz.underlying52
  a76 := Tryz.isAgg52
  z76 := Tryz.sizeOf52
  v76 := Tryz.zeroValue52
  t127 := Tryz.underlying80
  a127 := Tryz.isAgg80
  z127 := Tryz.sizeOf80
  v127 := Tryz.zeroValue80
  t164 := Tryz.underlying98
  a164 := Tryz.isAgg98
  z164 := Tryz.sizeOf98
  v164 := Tryz.zeroValue98 }
theorem Tryz.Builder_Extra_156 : Builder.Extra Tryz.prog Tryz.lays156_ren := {
  sizeBuilder := by kernel_rfl
  liesBuilder := by kernel_rfl
  t5 := Tryz.underlying5
  a5 := Tryz.isAgg5
  z5 := Tryz.sizeOf5
  v5 := Tryz.zeroValue5
  infoByte := by kernel_rfl
  cellsByte := by kernel_rfl
  sizeByte := by kernel_rfl
  neB5 := by decide }
open Go.RowKit in
theorem Tryz.strings_Join (bk o c : Nat) (xs : List ByteArray) (sep : ByteArray) (w : World) (hcells : ∀ (j : Nat) x, xs[j]? = some x → w.cell? ⟨bk, o + j, none⟩ = some (.string x)) (hbk : bk < w.heap.size) (hN : xs.length ≤ 140737488355328) (hcap : xs.length ≤ c) (hlen : (Lib.join (xs.map (·.data.toList)) sep.data.toList).length ≤ 140737488355328) :
    Calls Tryz.prog 66 #[.slice (some ⟨bk, o, none⟩) xs.length c, .string sep] w fun e w' => e = .returned (.string ⟨(Lib.join (xs.map (·.data.toList)) sep.data.toList).toArray⟩) ∧ Below w.heap.size w w' := Any.strings_Join Tryz.lays156 Tryz.Builder_Extra_156 bk o c xs sep w hcells hbk hN hcap hlen
def Tryz.lays229_ren : Go.Shelf.Ren := ⟨fun | 229 => 67 | n => n, fun | 9 => 9 | 40 => 76 | 31 => 32 | 152 => 121 | 3 => 3 | 0 => 0 | 4 => 4 | 21 => 21 | 154 => 123 | n => n, fun | n => n⟩
theorem Tryz.lays229 : Go.Proofs.Lays.n229 Tryz.prog Tryz.lays229_ren := {
  mixed := by kernel_rfl
  f229 := Tryz.func67.trans (congrArg some (by kernel_rfl))
  t0 := Tryz.underlying0
  a0 := Tryz.isAgg0
  z0 := Tryz.sizeOf0
  v0 := Tryz.zeroValue0
  t3 := Tryz.underlying3
  a3 := Tryz.isAgg3
  z3 := Tryz.sizeOf3
  v3 := Tryz.zeroValue3
  t4 := Tryz.underlying4
  a4 := Tryz.isAgg4
  z4 := Tryz.sizeOf4
  v4 := Tryz.zeroValue4
  t9 := Tryz.underlying9
  a9 := Tryz.isAgg9
  z9 := Tryz.sizeOf9
  v9 := Tryz.zeroValue9
  t21 := Tryz.underlying21
  a21 := Tryz.isAgg21
  z21 := Tryz.sizeOf21
  v21 := Tryz.zeroValue21
  t31 := Tryz.underlying32
  a31 := Tryz.isAgg32
  z31 := Tryz.sizeOf32
  v31 := Tryz.zeroValue32
  t40 := Tryz.underlying76
  a40 := Tryz.isAgg76
  z40 := Tryz.sizeOf76
  v40 := Tryz.zeroValue76
  t152 := Tryz.underlying121
  a152 := Tryz.isAgg121
  z152 := Tryz.sizeOf121
  v152 := Tryz.zeroValue121
  t154 := Tryz.underlying123
  a154 := Tryz.isAgg123
  z154 := Tryz.sizeOf123
  v154 := Tryz.zeroValue123 }
open Go.RowKit Go.Lib in
theorem Tryz.strings_FieldsFunc_runes (g : Nat) (lb : Array Value) (eg : ∀ args w, (callFunc g args).run Tryz.prog w = .ok (.enter g args) w) (p : Nat → Bool) (s : ByteArray) (w : World) (hs : s.size ≤ 4294967296) (hp : PredAtRunes Tryz.prog g lb p w) :
    Calls Tryz.prog 67 #[.string s, .func (.func g) #[] lb] w fun e w' => ∃ A, e = .returned (.slice (some ⟨A, 0, none⟩) (Lib.goFieldsP p s).length (Lib.goFieldsP p s).length) ∧ w.heap.size ≤ A ∧
      w'.ownsRow w.heap.size 9 1 (.slice (some ⟨A, 0, none⟩) (Lib.goFieldsP p s).length (Lib.goFieldsP p s).length) (Lib.goFieldsP p s).length ((Lib.goFieldsP p s).map Value.string) ∧ Below w.heap.size w w' := Any.strings_FieldsFunc_runes Tryz.lays229 g lb eg p s w hs hp (by kernel_rfl) (by kernel_rfl)
end Go.Proofs
namespace Go.Proofs.YtbnnhbmnddaafaaGreatDoor
open Go Go.RowKit Go.Kt Go.Shelf
attribute [local go_sem] Oper.semAt_some

def blkN (n : Nat) : Bool := isBlk (n : Nat)
def evnV (s : ByteArray) : List UInt8 := Lib.join ((Lib.goFieldsP blkN s).map (·.data.toList)) [32]

theorem spans_len (p : Nat → Bool) (s : ByteArray) : ∀ f pos st acc, (Lib.spansFromP p s f pos st acc).1.length ≤ acc.length + f := by
  intro f
  induction f with
  | zero => intro pos st acc; simp [Lib.spansFromP]
  | succ f ih =>
    intro pos st acc
    unfold Lib.spansFromP
    split
    · split
      · cases st with
        | some a => have := ih (pos + (Utf8.decode s pos).2) none (acc ++ [(a, pos)]); simp at this ⊢; omega
        | none => have := ih (pos + (Utf8.decode s pos).2) none acc; simp at this ⊢; omega
      · cases st with
        | some a => have := ih (pos + (Utf8.decode s pos).2) (some a) acc; simp at this ⊢; omega
        | none => have := ih (pos + (Utf8.decode s pos).2) (some pos) acc; simp at this ⊢; omega
    · simp
theorem fields_len (p : Nat → Bool) (s : ByteArray) : (Lib.goFieldsP p s).length ≤ s.size + 1 := by
  unfold Lib.goFieldsP Lib.spansOfP Lib.closeSpans
  have := spans_len p s s.size 0 none []
  rw [List.length_map]
  split <;> simp at * <;> omega
theorem fields_sz (p : Nat → Bool) (s x : ByteArray) (h : x ∈ Lib.goFieldsP p s) : x.size ≤ s.size := by
  unfold Lib.goFieldsP at h
  obtain ⟨q, _, rfl⟩ := List.mem_map.1 h
  rw [ByteArray.size_extract]; omega
theorem lens_bd (M : Nat) : ∀ l : List (List UInt8), (∀ x ∈ l, x.length ≤ M) → Lib.lens l ≤ l.length * M
  | [], _ => by simp [Lib.lens]
  | x :: r, h => by
    have := lens_bd M r (fun y hy => h y (by simp [hy]))
    have h2 := h x (by simp)
    simp only [Lib.lens, List.map_cons, List.sum_cons, List.length_cons] at this ⊢
    rw [Nat.add_mul]; omega
theorem evn_len (s : ByteArray) (hs : s.size ≤ 1048576) : (evnV s).length ≤ 140737488351232 := by
  unfold evnV
  have h1 := fields_len blkN s
  have h2 : ∀ x ∈ (Lib.goFieldsP blkN s).map (·.data.toList), x.length ≤ s.size := by
    intro x hx
    obtain ⟨y, hy, rfl⟩ := List.mem_map.1 hx
    rw [← Lib.size_eq]
    exact fields_sz blkN s y hy
  have h3 := lens_bd s.size _ h2
  rw [List.length_map] at h3
  have h4 : (Lib.goFieldsP blkN s).length * s.size ≤ 1048577 * 1048576 := Nat.mul_le_mul (by omega) hs
  cases hc : (Lib.goFieldsP blkN s).map (·.data.toList) with
  | nil => rw [Lib.join_nil]; simp
  | cons x r =>
    rw [hc] at h3
    rw [Lib.join_length]
    have : r.length ≤ s.size := by
      have := congrArg List.length hc
      simp at this
      omega
    simp only [List.length_cons, List.length_nil]
    omega

theorem blk_at (w : World) : PredAtRunes Tryz.prog 40 #[] blkN w := fun W x _ _ => by
  unfold FnGives
  exact (isBlank_any (x : Nat) W).mono fun e w' ⟨h1, h2⟩ => ⟨h1, 0, h2.symm⟩

set_option maxRecDepth 100000 in
theorem evened_any (s : ByteArray) (w : World) (hs : s.size ≤ 1048576) :
    Calls Tryz.prog 44 #[.string s] w fun e w' => e = .returned (.string ⟨(evnV s).toArray⟩) ∧ Below w.heap.size w w' := by
  have CF := Lib.hid (Tryz.strings_FieldsFunc_runes 40 #[] (fun args w => enters_of Tryz.func40 (by kernel_rfl) rfl args w) blkN s w (by omega) (blk_at w))
  have hl := fields_len blkN s
  have CJ := Lib.hid (fun (A : Nat) (V : World) (h1 : ∀ (j : Nat) x, (Lib.goFieldsP blkN s)[j]? = some x → V.cell? ⟨A, 0 + j, none⟩ = some (.string x)) (h2 : A < V.heap.size) => Tryz.strings_Join A 0 (Lib.goFieldsP blkN s).length (Lib.goFieldsP blkN s) ⟨#[32]⟩ V h1 h2 (by omega) (Nat.le_refl _) (Nat.le_trans (evn_len s hs) (by decide)))
  have HE : Hid ((Lib.join ((Lib.goFieldsP blkN s).map (·.data.toList)) [32]) = evnV s) := Lib.hid rfl
  obtain ⟨L, hL⟩ : ∃ L, Lib.goFieldsP blkN s = L := ⟨_, rfl⟩
  have HL := Lib.hid hL
  generalize evnV s = Z at *
  rw [hL] at CF CJ
  clear hL hl
  go_enter Tryz.func44, Tryz.ntmps44
  go_wp2_with fail
  refine CF.out.mono ?_
  rintro e w1 ⟨A, rfl, hA, hown, hb⟩
  have HC : Hid (∀ (j : Nat) x, L[j]? = some x → w1.cell? ⟨A, 0 + j, none⟩ = some (.string x)) := Lib.hid fun j x hx => by
    have := hown.cells (g := A) rfl j (.string x) (by simp [hx])
    rwa [Addr.add_lit] at this
  have HA : Hid (A < w1.heap.size) := Lib.hid (hown.lt A rfl).2
  have HB := Lib.hid hb
  clear hb hown hA
  go_wp2_with fail
  refine (CJ.out A w1 HC.out HA.out).mono ?_
  rintro e w2 ⟨rfl, hb⟩
  have HB2 := Lib.hid (HB.out.trans (hb.mono HB.out.size))
  clear hb
  go_wp2
  go_ret
  refine ⟨?_, HB2.out⟩
  rw [← HE.out, HL.out]
  rfl
end Go.Proofs.YtbnnhbmnddaafaaGreatDoor
