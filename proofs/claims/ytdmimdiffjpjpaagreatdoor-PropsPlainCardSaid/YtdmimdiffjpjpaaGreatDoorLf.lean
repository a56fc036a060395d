/- props: PropsPlain: the walk. -/
import Derived.Test.YtdmimdiffjpjpaaGreatDoorLz
namespace Go.Proofs.YtdmimdiffjpjpaaGreatDoor
open Go Go.RowKit Go.Kt Go.Kt.Rg Go.Maps
attribute [local go_sem] Oper.semAt_some

def bN (s : ByteArray) (i : Nat) : UInt8 := s.data.toList.getD i 0
theorem bN_run (s : ByteArray) (i : Nat) (h : i < s.size) (w : World) : (Instr.index 9 (.string s) (.int .i64 (i : Int))).run Tryz.prog w = .ok (.int .u8 ((bN s i).toNat : Int)) w := by
  have h' : i < s.data.toList.length := by rw [← Lib.size_eq]; exact h
  have e : ((bN s i).toNat : Int) = ((s[i]'h).toNat : Int) := by
    unfold bN
    rw [List.getD_eq_getElem?_getD, List.getElem?_eq_getElem h']; rfl
  rw [run_index_string (h := Tryz.underlying9), dif_pos (by omega), e]; rfl
theorem bN_drop (s : ByteArray) (i : Nat) (h : i < s.size) : s.data.toList.drop i = bN s i :: s.data.toList.drop (i + 1) := by
  have h' : i < s.data.toList.length := by rw [← Lib.size_eq]; exact h
  unfold bN
  rw [List.drop_eq_getElem_cons h', List.getD_eq_getElem?_getD, List.getElem?_eq_getElem h']; rfl
theorem bN_one (s : ByteArray) (i : Nat) (h : i < s.size) : (s.extract i (i + 1)).data.toList = [bN s i] := by
  have := Lib.extract_toList s i (i + 1)
  rw [ByteArray.toList_eq] at this
  rw [this, bN_drop s i h, Nat.add_sub_cancel_left]
  rfl
theorem bN_size (s : ByteArray) (i : Nat) (h : i < s.size) : (s.extract i (i + 1)).size = 1 := by rw [ByteArray.size_extract]; omega
theorem cat_list (a b : ByteArray) : (a ++ b).data.toList = a.data.toList ++ b.data.toList := by rw [ByteArray.data_append, Array.toList_append]
theorem take_next (s : ByteArray) (i : Nat) (h : i < s.size) : s.data.toList.take (i + 1) = s.data.toList.take i ++ [bN s i] := by
  have h' : i < s.data.toList.length := by rw [← Lib.size_eq]; exact h
  unfold bN
  rw [List.take_add_one, List.getD_eq_getElem?_getD, List.getElem?_eq_getElem h']; rfl
/-- What stands when a byte of the note is done. -/
theorem note_more {o note : ByteArray} {i : Nat} (h : i < note.size) (ho : o.data.toList = 9 :: 32 :: 35 :: 32 :: (note.data.toList.take i).filter (· != 10)) :
    (bN note i = 10 → o.data.toList = 9 :: 32 :: 35 :: 32 :: (note.data.toList.take (i + 1)).filter (· != 10)) ∧ (bN note i ≠ 10 → (o ++ note.extract i (i + 1)).data.toList = 9 :: 32 :: 35 :: 32 :: (note.data.toList.take (i + 1)).filter (· != 10)) := by
  rw [take_next note i h, List.filter_append]
  refine ⟨fun hb => ?_, fun hb => ?_⟩
  · rw [ho, hb]; simp
  · rw [cat_list, ho, bN_one note i h]
    have e : [bN note i].filter (· != 10) = [bN note i] := by simp [hb]
    rw [e]
    rfl
/-- What stands while the file is gone through. -/
def TrI (s : ByteArray) (hd : List UInt8) (o : ByteArray) (r : Bool) (i : Nat) : Prop := o.data.toList ++ trG r (s.data.toList.drop i) = hd ++ trG false s.data.toList
theorem byt_eq {b : UInt8} {k : Nat} (hk : k < 256) (h : (b.toNat : Int) = (k : Nat)) : b = UInt8.ofNat k := by
  apply UInt8.toNat_inj.1
  rw [UInt8.toNat_ofNat_of_lt' hk]
  omega
theorem TrI.skip {s o : ByteArray} {hd : List UInt8} {r : Bool} {i : Nat} (h : TrI s hd o r i) (hi : i < s.size) (hb : bN s i = 13) (hn : i + 1 = s.size ∨ (i + 1 < s.size ∧ bN s (i + 1) = 10)) : TrI s hd o r (i + 1) := by
  have hc : s.data.toList.drop (i + 1) = [] ∨ (s.data.toList.drop (i + 1)).head? = some 10 := by
    rcases hn with hn | ⟨hn, h10⟩
    · left
      rw [List.drop_eq_nil_of_le (by rw [← Lib.size_eq]; omega)]
    · right
      rw [bN_drop s (i + 1) hn, h10]; rfl
  unfold TrI at h ⊢
  rw [bN_drop s i hi, trG, if_pos ⟨hb, hc⟩] at h
  exact h
theorem no_skip {s : ByteArray} {i : Nat} (_hi : i < s.size) (hn : bN s i ≠ 13 ∨ (i + 1 < s.size ∧ bN s (i + 1) ≠ 10)) : ¬ (bN s i = 13 ∧ (s.data.toList.drop (i + 1) = [] ∨ (s.data.toList.drop (i + 1)).head? = some 10)) := by
  rintro ⟨h1, h2⟩
  rcases hn with hn | ⟨hn, h10⟩
  · exact hn h1
  · rw [bN_drop s (i + 1) hn] at h2
    rcases h2 with h2 | h2
    · cases h2
    · simp at h2; exact h10 h2
theorem TrI.blank {s o : ByteArray} {hd : List UInt8} {i : Nat} (h : TrI s hd o false i) (hi : i < s.size) (hb : bN s i = 32) : TrI s hd (o ++ ⟨#[9, 32, 32]⟩) false (i + 1) := by
  unfold TrI at h ⊢
  rw [bN_drop s i hi, trG, if_neg (fun h => by rw [hb] at h; exact absurd h.1 (by decide)), if_pos ⟨hb, rfl⟩] at h
  rw [cat_list, List.append_assoc]
  exact h
theorem TrI.line {s o : ByteArray} {hd : List UInt8} {r : Bool} {i : Nat} (h : TrI s hd o r i) (hi : i < s.size) (hb : bN s i = 10) : TrI s hd (o ++ ⟨#[32, 35, 32, 120, 13, 10, 32, 10]⟩) false (i + 1) := by
  unfold TrI at h ⊢
  rw [bN_drop s i hi, trG, if_neg (fun h => by rw [hb] at h; exact absurd h.1 (by decide)), if_neg (fun h => by rw [hb] at h; exact absurd h.1 (by decide)), if_pos hb] at h
  rw [cat_list, List.append_assoc]
  exact h
theorem TrI.other {s o : ByteArray} {hd : List UInt8} {r : Bool} {i : Nat} (h : TrI s hd o r i) (hi : i < s.size) (hn : bN s i ≠ 13 ∨ (i + 1 < s.size ∧ bN s (i + 1) ≠ 10)) (h32 : ¬ (bN s i = 32 ∧ r = false)) (h10 : bN s i ≠ 10) : TrI s hd (o ++ s.extract i (i + 1)) (r || bN s i == 35) (i + 1) := by
  unfold TrI at h ⊢
  rw [bN_drop s i hi, trG, if_neg (no_skip hi hn), if_neg h32, if_neg h10] at h
  rw [cat_list, List.append_assoc, bN_one s i hi]
  exact h

set_option maxRecDepth 100000 in
set_option maxHeartbeats 4000000 in
theorem pplain_c (s note : ByteArray) (av : Value) (ask : List Int) (w : World) (hE : PEnv w) (hv : SlA w av ask) (hr : ∀ x ∈ ask, I32 x) (hl : ask.length ≤ 35184372087808) :
    Calls Tryz.prog 6 #[.string s, .string note, av] w fun e w' => e = .returned (.bool true) ∧ Below w.heap.size w w' := by
  have CWK : Hid (∀ W, Below w.heap.size w W → Calls Tryz.prog 10 #[] W fun e w' => e = .returned (.bool true) ∧ Below w.heap.size w w') := Lib.hid fun W h => (pworks W (hE.below h)).mono fun e w' h2 => ⟨h2.1, h.trans (h2.2.mono h.size)⟩
  have CRD := Lib.hid (fun (t : ByteArray) W (h : Below w.heap.size w W) => pread2 t W (hE.below h))
  have HV := Lib.hid hv
  have HA := Lib.hid (And.intro hr hl)
  obtain ⟨ao, cap, rfl, hv2⟩ := hv
  clear hE hr hv2
  obtain ⟨n, hn⟩ : ∃ n, ask.length = n := ⟨_, rfl⟩
  rw [hn] at HV hl ⊢
  have HN := Lib.hid hn
  clear hn
  by_cases hbig : 4096 < s.size
  · have h1 : (4096 : Int) < s.size := by omega
    clear hbig
    go_enter Tryz.func6, Tryz.ntmps6
    go_wp2
    go_ret
    exact ⟨rfl, Below.refl _ _⟩
  have h1 : ¬ (4096 : Int) < s.size := by omega
  by_cases hbig2 : 4096 < note.size
  · have h2 : (4096 : Int) < note.size := by omega
    clear hbig hbig2
    go_enter Tryz.func6, Tryz.ntmps6
    go_wp2
    go_ret
    exact ⟨rfl, Below.refl _ _⟩
  have h2 : ¬ (4096 : Int) < note.size := by omega
  have HZ := Lib.hid (And.intro (Nat.not_lt.1 hbig) (Nat.not_lt.1 hbig2))
  clear hbig hbig2
  go_enter Tryz.func6, Tryz.ntmps6
  go_wp2_with fail
  refine (CRD.out s w (Below.refl _ _)).mono ?_
  rintro e w1 ⟨hb1, ⟨rfl, _⟩ | ⟨g, line, S, L, rfl, hP, hW⟩⟩
  · have HB1 := Lib.hid hb1
    clear hb1
    go_wp2_with fail
    refine (CWK.out _ HB1.out).mono ?_
    rintro e w2 ⟨rfl, hb2⟩
    go_wp2
    go_ret
    exact ⟨rfl, hb2⟩
  have HW : Hid (∀ W, Below w1.heap.size w1 W → PrW g S (mdOf S L) W) := Lib.hid fun W h => hW.below h
  have HP := Lib.hid hP
  have HB1 := Lib.hid hb1
  clear hP hW hb1 h1 h2
  go_wp2_with fail
  go_loopw [8, 9] (fun x y wr => ∃ (i : Nat) (o : ByteArray), x = .string o ∧ y = .int .i64 i ∧ i ≤ note.size ∧ Hid (o.size ≤ 4 + i ∧ o.data.toList = 9 :: 32 :: 35 :: 32 :: (note.data.toList.take i).filter (· != 10)) ∧ Below w1.heap.size w1 wr) (fun _ y _ => note.size - (RowKit.intOf y).toNat)
  case atStart => exact ⟨0, _, rfl, rfl, Nat.zero_le _, Lib.hid ⟨by decide, by simp⟩, Below.refl _ _⟩
  case round =>
    obtain ⟨i, o, rfl, rfl, hi, ho, hbr⟩ := hrel
    by_cases hlt : i < note.size
    · have e1 : (i : Int) < note.size := by omega
      have HI := fun W => bN_run note i hlt W
      have hm := note_more hlt ho.out.2
      have hk1 : IntKind.i64.wrap ((i : Int) + 1) = ((i + 1 : Nat) : Int) := by rw [IntWalk.i64_in _ (by have := HZ.out.2; omega)]; omega
      have HX := Lib.hid (And.intro hm hbr)
      obtain ⟨c, hc⟩ : ∃ c : Int, ((bN note i).toNat : Int) = c := ⟨_, rfl⟩
      rw [hc] at HI
      by_cases h10 : c = 10
      · subst h10
        have HB := Lib.hid (byt_eq (k := 10) (by decide) hc)
        clear hm hbr hc
        go_wp2
        go_roundw
        case rel => exact ⟨i + 1, o, rfl, by go_num, by omega, Lib.hid ⟨by have := ho.out.1; omega, HX.out.1.1 HB.out⟩, HX.out.2⟩
        case measure => simp [RowKit.intOf]; omega
      · have hq : (c == 10) = false := beq_eq_false_iff_ne.2 h10
        have HB : Hid (bN note i ≠ 10) := Lib.hid fun e => h10 (by rw [← hc, e]; rfl)
        have s1 : (0 : Int) ≤ i := by omega
        have s2 : (i : Int) ≤ ((i + 1 : Nat) : Int) := by omega
        have s3 : ((i + 1 : Nat) : Int) ≤ note.size := by omega
        have hz : ¬ o.size + (note.extract i (i + 1)).size > 9223372036854775807 := by rw [bN_size note i hlt]; have := ho.out.1; have := HZ.out.2; omega
        have hz1 := Lib.hid (bN_size note i hlt)
        clear hm hbr hc
        go_wp2
        go_roundw
        case rel => exact ⟨i + 1, _, rfl, by go_num, by omega, Lib.hid ⟨by rw [ByteArray.size_append, hz1.out]; have := ho.out.1; omega, HX.out.1.2 HB.out⟩, HX.out.2⟩
        case measure => simp [RowKit.intOf]; omega
    · have e1 : ¬ (i : Int) < note.size := by omega
      obtain rfl : i = note.size := by omega
      have hz : ¬ o.size + (⟨#[10, 13, 10]⟩ : ByteArray).size > 9223372036854775807 := by show ¬ o.size + 3 > _; have := ho.out.1; have := HZ.out.2; omega
      obtain ⟨F, hF⟩ : ∃ F, note.data.toList.filter (· != 10) = F := ⟨_, rfl⟩
      have hF10 : ∀ x ∈ F, x ≠ 10 := fun x hx => by rw [← hF] at hx; have := (List.mem_filter.1 hx).2; simpa using this
      have hFl : F.length ≤ 4096 := by rw [← hF]; exact Nat.le_trans (List.length_filter_le _ _) (by rw [← Lib.size_eq]; exact HZ.out.2)
      have hol := ho.out.2
      rw [List.take_of_length_le (by rw [← Lib.size_eq]; exact Nat.le_refl _), hF] at hol
      have hO : (o ++ ⟨#[10, 13, 10]⟩).data.toList = 9 :: 32 :: 35 :: 32 :: F ++ [10, 13, 10] := by rw [cat_list, hol]
      have hOz : (o ++ ⟨#[10, 13, 10]⟩ : ByteArray).size ≤ 4103 := by rw [ByteArray.size_append]; show o.size + 3 ≤ _; have := ho.out.1; have := HZ.out.2; omega
      have HF := Lib.hid (And.intro hF10 hFl)
      have HO := Lib.hid (And.intro hO (And.intro hOz hbr))
      clear hF hF10 hFl hol hO hOz ho hbr hlt
      generalize hod : (9 :: 32 :: 35 :: 32 :: F ++ [10, 13, 10] : List UInt8) = HDL at HO
      have HOD := Lib.hid hod
      clear hod
      go_wp2_with fail
      go_loopw [8, 10, 11] (fun x y z wr => ∃ (i : Nat) (o : ByteArray) (r : Bool), x = .string o ∧ y = .bool r ∧ z = .int .i64 i ∧ i ≤ s.size ∧ Hid (o.size ≤ 4103 + 8 * i ∧ TrI s HDL o r i) ∧ Below w1.heap.size w1 wr) (fun _ _ z _ => s.size - (RowKit.intOf z).toNat)
      case atStart => exact ⟨0, _, false, rfl, rfl, rfl, Nat.zero_le _, Lib.hid ⟨by have := HO.out.2.1; omega, by unfold TrI; rw [HO.out.1, List.drop_zero]⟩, HO.out.2.2⟩
      case round =>
        obtain ⟨i, o, r, rfl, rfl, rfl, hi, ho, hbr⟩ := hrel
        have hi2 : i < 4097 := by have := HZ.out.1; omega
        by_cases hlt : i < s.size
        · have e1 : (i : Int) < s.size := by omega
          have HI := fun W => bN_run s i hlt W
          have hk1 : IntKind.i64.wrap ((i : Int) + 1) = ((i + 1 : Nat) : Int) := by rw [IntWalk.i64_in _ (by omega)]; omega
          have HX := Lib.hid (And.intro ho.out.2 hbr)
          obtain ⟨c, hc⟩ : ∃ c : Int, ((bN s i).toNat : Int) = c := ⟨_, rfl⟩
          rw [hc] at HI
          have hoz := ho.out.1
          clear hbr ho
          by_cases h13 : c = 13
          · subst h13
            have hb := byt_eq (k := 13) (by decide) hc
            by_cases hend : i + 1 = s.size
            · have q1 : ((i : Int) + 1 == (s.size : Int)) = true := by simp; omega
              have HN2 := Lib.hid (HX.out.1.skip hlt hb (.inl hend))
              have HOZ := Lib.hid hoz
              clear hend hb hc hoz
              go_wp2
              go_roundw
              case rel => exact ⟨i + 1, o, r, rfl, rfl, by go_num, by omega, Lib.hid ⟨by have := HOZ.out; omega, HN2.out⟩, HX.out.2⟩
              case measure => simp [RowKit.intOf]; omega
            · have q1 : ((i : Int) + 1 == (s.size : Int)) = false := by rw [beq_eq_false_iff_ne]; omega
              have hlt2 : i + 1 < s.size := by omega
              have HI2 : ∀ W, (Instr.index 9 (.string s) (.int .i64 ((i : Int) + 1))).run Tryz.prog W = .ok (.int .u8 ((bN s (i + 1)).toNat : Int)) W := fun W => by have := bN_run s (i + 1) hlt2 W; simpa using this
              obtain ⟨d, hd⟩ : ∃ d : Int, ((bN s (i + 1)).toNat : Int) = d := ⟨_, rfl⟩
              rw [hd] at HI2
              by_cases h10 : d = 10
              · subst h10
                have HN2 := Lib.hid (HX.out.1.skip hlt hb (.inr ⟨hlt2, byt_eq (k := 10) (by decide) hd⟩))
                have HOZ := Lib.hid hoz
                clear hend hb hc hoz hd
                go_wp2
                go_roundw
                case rel => exact ⟨i + 1, o, r, rfl, rfl, by go_num, by omega, Lib.hid ⟨by have := HOZ.out; omega, HN2.out⟩, HX.out.2⟩
                case measure => simp [RowKit.intOf]; omega
              · have hq10 : (d == 10) = false := beq_eq_false_iff_ne.2 h10
                have hn : bN s i ≠ 13 ∨ (i + 1 < s.size ∧ bN s (i + 1) ≠ 10) := .inr ⟨hlt2, fun e => h10 (by rw [← hd, e]; rfl)⟩
                have HN2 := Lib.hid (HX.out.1.other hlt hn (fun h => by rw [hb] at h; exact absurd h.1 (by decide)) (by rw [hb]; decide))
                have hbf : Hid ((r || bN s i == 35) = r) := Lib.hid (by rw [hb]; cases r <;> rfl)
                cases r
                all_goals
                  have HOZ := Lib.hid hoz
                  have s1 : (0 : Int) ≤ i := by omega
                  have s2 : (i : Int) ≤ ((i + 1 : Nat) : Int) := by omega
                  have s3 : ((i + 1 : Nat) : Int) ≤ s.size := by omega
                  have hz1 := Lib.hid (bN_size s i hlt)
                  have hz : ¬ o.size + (s.extract i (i + 1)).size > 9223372036854775807 := by rw [hz1.out]; omega
                  rw [hbf.out] at HN2
                  clear hend hb hc hoz hd hn
                  go_wp2
                  go_roundw
                  case rel => exact ⟨i + 1, _, _, rfl, rfl, by go_num, by omega, Lib.hid ⟨by rw [ByteArray.size_append, hz1.out]; have := HOZ.out; omega, HN2.out⟩, HX.out.2⟩
                  case measure => simp [RowKit.intOf]; omega
          · have hq13 : (c == 13) = false := beq_eq_false_iff_ne.2 h13
            have hn : bN s i ≠ 13 ∨ (i + 1 < s.size ∧ bN s (i + 1) ≠ 10) := .inl fun e => h13 (by rw [← hc, e]; rfl)
            by_cases h32 : c = 32
            · subst h32
              have hb := byt_eq (k := 32) (by decide) hc
              cases r with
              | false =>
                have HN2 := Lib.hid (HX.out.1.blank hlt hb)
                have HOZ := Lib.hid hoz
                have hz : ¬ o.size + (⟨#[9, 32, 32]⟩ : ByteArray).size > 9223372036854775807 := by show ¬ o.size + 3 > _; omega
                clear hb hc hoz hn
                go_wp2
                go_roundw
                case rel => exact ⟨i + 1, _, false, rfl, rfl, by go_num, by omega, Lib.hid ⟨by rw [ByteArray.size_append]; show o.size + 3 ≤ _; have := HOZ.out; omega, HN2.out⟩, HX.out.2⟩
                case measure => simp [RowKit.intOf]; omega
              | true =>
                have HN2 := Lib.hid (HX.out.1.other hlt hn (fun h => by cases h.2) (by rw [hb]; decide))
                have hbf : Hid ((true || bN s i == 35) = true) := Lib.hid rfl
                have HOZ := Lib.hid hoz
                have s1 : (0 : Int) ≤ i := by omega
                have s2 : (i : Int) ≤ ((i + 1 : Nat) : Int) := by omega
                have s3 : ((i + 1 : Nat) : Int) ≤ s.size := by omega
                have hz1 := Lib.hid (bN_size s i hlt)
                have hz : ¬ o.size + (s.extract i (i + 1)).size > 9223372036854775807 := by rw [hz1.out]; omega
                rw [hbf.out] at HN2
                clear hb hc hoz hn
                go_wp2
                go_roundw
                case rel => exact ⟨i + 1, _, _, rfl, rfl, by go_num, by omega, Lib.hid ⟨by rw [ByteArray.size_append, hz1.out]; have := HOZ.out; omega, HN2.out⟩, HX.out.2⟩
                case measure => simp [RowKit.intOf]; omega
            · have hq32 : (c == 32) = false := beq_eq_false_iff_ne.2 h32
              have hb32 : bN s i ≠ 32 := fun e => h32 (by rw [← hc, e]; rfl)
              by_cases h10 : c = 10
              · subst h10
                have hb := byt_eq (k := 10) (by decide) hc
                have HN2 := Lib.hid (HX.out.1.line hlt hb)
                have HOZ := Lib.hid hoz
                have hz : ¬ o.size + (⟨#[32, 35, 32, 120, 13, 10, 32, 10]⟩ : ByteArray).size > 9223372036854775807 := by show ¬ o.size + 8 > _; omega
                clear hb hb32 hc hoz hn
                go_wp2
                go_roundw
                case rel => exact ⟨i + 1, _, false, rfl, rfl, by go_num, by omega, Lib.hid ⟨by rw [ByteArray.size_append]; show o.size + 8 ≤ _; have := HOZ.out; omega, HN2.out⟩, HX.out.2⟩
                case measure => simp [RowKit.intOf]; omega
              · have hq10 : (c == 10) = false := beq_eq_false_iff_ne.2 h10
                have hb10 : bN s i ≠ 10 := fun e => h10 (by rw [← hc, e]; rfl)
                have HN2 := Lib.hid (HX.out.1.other hlt hn (fun h => hb32 h.1) hb10)
                by_cases h35 : c = 35
                · have hbf : Hid ((r || bN s i == 35) = true) := Lib.hid (by rw [byt_eq (b := bN s i) (k := 35) (by decide) (by rw [hc, h35]; rfl)]; cases r <;> rfl)
                  subst h35
                  cases r
                  all_goals
                    have HOZ := Lib.hid hoz
                    have s1 : (0 : Int) ≤ i := by omega
                    have s2 : (i : Int) ≤ ((i + 1 : Nat) : Int) := by omega
                    have s3 : ((i + 1 : Nat) : Int) ≤ s.size := by omega
                    have hz1 := Lib.hid (bN_size s i hlt)
                    have hz : ¬ o.size + (s.extract i (i + 1)).size > 9223372036854775807 := by rw [hz1.out]; omega
                    rw [hbf.out] at HN2
                    clear hb32 hb10 hc hoz hn
                    go_wp2
                    go_roundw
                    case rel => exact ⟨i + 1, _, _, rfl, rfl, by go_num, by omega, Lib.hid ⟨by rw [ByteArray.size_append, hz1.out]; have := HOZ.out; omega, HN2.out⟩, HX.out.2⟩
                    case measure => simp [RowKit.intOf]; omega
                · have hq35 : (c == 35) = false := beq_eq_false_iff_ne.2 h35
                  have hbf : Hid ((r || bN s i == 35) = r) := Lib.hid (by
                    have e : (bN s i == 35) = false := by rw [beq_eq_false_iff_ne]; exact fun e => h35 (by rw [← hc, e]; rfl)
                    rw [e]; cases r <;> rfl)
                  cases r
                  all_goals
                    have HOZ := Lib.hid hoz
                    have s1 : (0 : Int) ≤ i := by omega
                    have s2 : (i : Int) ≤ ((i + 1 : Nat) : Int) := by omega
                    have s3 : ((i + 1 : Nat) : Int) ≤ s.size := by omega
                    have hz1 := Lib.hid (bN_size s i hlt)
                    have hz : ¬ o.size + (s.extract i (i + 1)).size > 9223372036854775807 := by rw [hz1.out]; omega
                    rw [hbf.out] at HN2
                    clear hb32 hb10 hc hoz hn
                    go_wp2
                    go_roundw
                    case rel => exact ⟨i + 1, _, _, rfl, rfl, by go_num, by omega, Lib.hid ⟨by rw [ByteArray.size_append, hz1.out]; have := HOZ.out; omega, HN2.out⟩, HX.out.2⟩
                    case measure => simp [RowKit.intOf]; omega
        · have e1 : ¬ (i : Int) < s.size := by omega
          obtain rfl : i = s.size := by omega
          have hol : o.data.toList = headB F s.data.toList := by
            have h := ho.out.2
            unfold TrI at h
            rw [List.drop_eq_nil_of_le (by rw [← Lib.size_eq]; exact Nat.le_refl _), ← HOD.out] at h
            rw [show trG r [] = [] from rfl, List.append_nil] at h
            rw [h]
            simp [headB]
          have hsl : s.data.toList.length ≤ 4096 := by rw [← Lib.size_eq]; exact HZ.out.1
          have HBR := Lib.hid hbr
          have CR2 := Lib.hid (CRD.out o wr (HB1.out.trans (hbr.mono HB1.out.size)))
          have HL := Lib.hid (And.intro hol hsl)
          have hz : ¬ s.size + (⟨#[10, 99, 108, 97, 115, 115, 32, 50, 70, 65, 48, 48, 32, 55, 55, 10, 107, 105, 110, 100, 32, 50, 70, 65, 48, 48, 46, 46, 50, 70, 65, 48, 49, 32, 106, 111, 105, 110, 101, 114]⟩ : ByteArray).size > 9223372036854775807 := by show ¬ s.size + 40 > _; have := HZ.out.1; omega
          clear hbr hol hsl ho hlt
          go_wp2_with fail
          refine CR2.out.mono ?_
          rintro e w2 ⟨hb2, ⟨rfl, no2, line2, S2, L2, hno2, hP2⟩ | ⟨g2, line2, S2, L2, rfl, hP2, hW2⟩⟩
          · rw [HL.out.1] at hP2
            exact absurd (plain_q HP.out HL.out.2 HF.out.2 HF.out.1 hP2).1 hno2
          have hok2 := hP2.ok.2.2.1
          rw [HL.out.1] at hP2
          obtain ⟨_, rfl, halk2⟩ := plain_q HP.out HL.out.2 HF.out.2 HF.out.1 hP2
          have HB2 := Lib.hid (HBR.out.trans (hb2.mono HBR.out.size))
          have H2 := Lib.hid (And.intro hW2 (And.intro hok2 halk2))
          have CR3 := Lib.hid (fun t => CRD.out t w2 (HB1.out.trans (HB2.out.mono HB1.out.size)))
          clear hb2 hP2 hW2 hok2 halk2
          go_wp2_with fail
          refine (CR3.out _).mono ?_
          have hT : (s ++ (⟨#[10, 99, 108, 97, 115, 115, 32, 50, 70, 65, 48, 48, 32, 55, 55, 10, 107, 105, 110, 100, 32, 50, 70, 65, 48, 48, 46, 46, 50, 70, 65, 48, 49, 32, 106, 111, 105, 110, 101, 114]⟩ : ByteArray)).data.toList = s.data.toList ++ 10 :: lineM := cat_list _ _
          rintro e w3 ⟨hb3, ⟨rfl, no3, line3, S3, L3, hno3, hP3⟩ | ⟨g3, line3, S3, L3, rfl, hP3, hW3⟩⟩
          · rw [hT] at hP3
            exact absurd (plain_m HP.out HL.out.2 hP3).1 hno3
          have hok3 := hP3.ok.2.2.1
          rw [hT] at hP3
          obtain ⟨_, rfl, hcl, hkd, halk3⟩ := plain_m HP.out HL.out.2 hP3
          have hok := HP.out.ok.2.2.1
          have HB3 := Lib.hid (HB2.out.trans (hb3.mono HB2.out.size))
          have hw1 := HW.out w3 HB3.out
          have hw2 := H2.out.1.below hb3
          have CCL := Lib.hid (pclsP w3 hW3 195072)
          rw [hcl] at CCL
          have CKD : Hid (∀ W, Below w3.heap.size w3 W → Calls Tryz.prog 18 #[.pointer (some ⟨g3, 0, none⟩), .int .i32 195073] W fun e w' => e = .returned (.int .i64 6) ∧ Below W.heap.size W w') := Lib.hid fun W h => by
            have := pkndP W (hW3.below h) 195073
            rw [hkd] at this
            exact this
          have CA2 : Hid (∀ W r, Below w3.heap.size w3 W → I32 r → Calls Tryz.prog 19 #[.pointer (some ⟨g, 0, none⟩), .pointer (some ⟨g2, 0, none⟩), .int .i32 r] W fun e w' => e = .returned (.bool true) ∧ Below w3.heap.size w3 w' ∧ Below W.heap.size W w') := Lib.hid fun W r h hr =>
            (palike W (hw1.below h) (hw2.below h) hok H2.out.2.1 r hr (H2.out.2.2 r)).mono fun e w' ⟨q1, q2⟩ => ⟨q1, h.trans (q2.mono h.size), q2⟩
          have CA3 : Hid (∀ W r, Below w3.heap.size w3 W → I32 r → r ≠ 195072 → r ≠ 195073 → Calls Tryz.prog 19 #[.pointer (some ⟨g, 0, none⟩), .pointer (some ⟨g3, 0, none⟩), .int .i32 r] W fun e w' => e = .returned (.bool true) ∧ Below w3.heap.size w3 w' ∧ Below W.heap.size W w') := Lib.hid fun W r h hr r1 r2 =>
            (palike W (hw1.below h) (hW3.below h) hok hok3 r hr (halk3 r r1 r2)).mono fun e w' ⟨q1, q2⟩ => ⟨q1, h.trans (q2.mono h.size), q2⟩
          have HBA := Lib.hid (HB1.out.trans (HB3.out.mono HB1.out.size))
          clear hb3 hP3 hW3 hok3 hcl hkd halk3 hok hw1 hw2 hT
          go_wp2_with fail
          refine CCL.out.mono ?_
          rintro e w4 ⟨rfl, hb4⟩
          have HB4 := Lib.hid hb4
          clear hb4
          go_wp2_with fail
          refine (CKD.out _ HB4.out).mono ?_
          rintro e w5 ⟨rfl, hb5⟩
          have HB5 := Lib.hid (HB4.out.trans (hb5.mono HB4.out.size))
          clear hb5
          go_wp2_with fail
          go_loopw [15] (fun x wr => ∃ i : Nat, x = .int .i64 i ∧ i ≤ n ∧ i ≤ 300 ∧ Below w3.heap.size w3 wr) (fun x _ => n - (RowKit.intOf x).toNat)
          case atStart => exact ⟨0, rfl, by omega, by omega, HB5.out⟩
          case round =>
            obtain ⟨i, rfl, hi, hi3, hbr⟩ := hrel
            by_cases hlt : i < n ∧ i < 300
            · have e1 : (i : Int) < n := by omega
              have e2 : (i : Int) < 300 := by omega
              obtain ⟨x, hx⟩ : ∃ x, ask[i]? = some x := ⟨_, List.getElem?_eq_getElem (by rw [HN.out]; exact hlt.1)⟩
              obtain ⟨ad, rfl, hcx⟩ : ∃ ad, ao = some ad ∧ w.cell? (ad.add i) = some (.int .i32 x) := by
                obtain ⟨ao', cap', e, h⟩ := HV.out
                cases e
                rcases h with h | ⟨ad, e, h⟩
                · rw [h] at hx; cases hx
                · exact ⟨ad, e, h i x hx⟩
              have hcx2 := ((HBA.out.trans (hbr.mono HBA.out.size)).cell (lt_of_cell hcx)).trans hcx
              have hx32 := HA.out.1 x (List.mem_of_getElem? hx)
              have CAX := Lib.hid (CA2.out wr x hbr hx32)
              have hk1 : IntKind.i64.wrap ((i : Int) + 1) = ((i + 1 : Nat) : Int) := by rw [IntWalk.i64_in _ (by omega)]; omega
              have HBR2 := Lib.hid hbr
              have HX := Lib.hid hx32
              clear hx hcx hx32 hlt hbr
              go_wp2_with fail
              refine CAX.out.mono ?_
              rintro e w6 ⟨rfl, hb6, hbw6⟩
              have hcx6 := (hbw6.cell (lt_of_cell hcx2)).trans hcx2
              have HB6 := Lib.hid hb6
              clear hb6 hbw6 hcx2
              by_cases r1 : x = 195072
              · subst r1
                go_wp2
                go_roundw
                case rel => exact ⟨i + 1, by go_num, by omega, by omega, HB6.out⟩
                case measure => simp [RowKit.intOf]; omega
              · by_cases r2 : x = 195073
                · subst r2
                  go_wp2
                  go_roundw
                  case rel => exact ⟨i + 1, by go_num, by omega, by omega, HB6.out⟩
                  case measure => simp [RowKit.intOf]; omega
                · have CBX := Lib.hid (CA3.out w6 x HB6.out HX.out r1 r2)
                  have q1 : (x == 195072) = false := beq_eq_false_iff_ne.2 r1
                  have q2 : (x == 195073) = false := beq_eq_false_iff_ne.2 r2
                  go_wp2_with fail
                  refine CBX.out.mono ?_
                  rintro e w7 ⟨rfl, hb7, _⟩
                  have HB7 := Lib.hid hb7
                  clear hb7
                  go_wp2
                  go_roundw
                  case rel => exact ⟨i + 1, by go_num, by omega, by omega, HB7.out⟩
                  case measure => simp [RowKit.intOf]; omega
            · have HBR2 := Lib.hid hbr
              have CWX := Lib.hid (CWK.out wr (HBA.out.trans (hbr.mono HBA.out.size)))
              clear hbr
              by_cases hn : i < n
              · have e1 : (i : Int) < n := by omega
                have e2 : ¬ (i : Int) < 300 := by omega
                clear hlt hn
                go_wp2_with fail
                refine CWX.out.mono ?_
                rintro e w9 ⟨rfl, hb9⟩
                go_wp2
                go_ret
                exact ⟨rfl, hb9⟩
              · have e1 : ¬ (i : Int) < n := by omega
                clear hlt hn
                go_wp2_with fail
                refine CWX.out.mono ?_
                rintro e w9 ⟨rfl, hb9⟩
                go_wp2
                go_ret
                exact ⟨rfl, hb9⟩
end Go.Proofs.YtdmimdiffjpjpaaGreatDoor
