/- The document's answer for props: words. -/
import Derived.Test.YthhepebkfokddaaGreatDoorGy21
import Derived.Test.YthhepebkfokddaaGreatDoorGy22
namespace Go.Proofs.YthhepebkfokddaaGreatDoor
open Go Go.RowKit Go.Kt Go.Kt.Rg Go.Maps

theorem tinfoStr : (Tryz.prog.info? 9).map (fun i => (i.zero, i.size, i.bytes)) = some (some (.string ⟨#[]⟩), 1, 16) := by kernel_rfl
def encS (ws : List (List UInt8)) : List Value := ws.map fun x => .string ⟨x.toArray⟩
def TxO (H : Nat) (v : Value) (ws : List (List UInt8)) (W : World) : Prop := OwnS (fun b => H ≤ b) 9 1 v ws.length (encS ws) W
theorem txo_nil (H : Nat) (W : World) : TxO H (.slice none 0 0) [] W := own_nil _ _ _ _
theorem TxO.app {H : Nat} {v : Value} {ws : List (List UInt8)} {W : World} (h : TxO H v ws W) (hz : H ≤ W.heap.size) (hn : ws.length ≤ 1048576) (x : ByteArray) :
    ∃ v' W', (∀ ty, (Builtin.append_ #[59, 59] ty #[v, .slice (some ⟨W.heap.size, 0, none⟩) 1 1]).run Tryz.prog (W.alloc (.cells #[.string x] 9)) = .ok v' W') ∧ TxO H v' (ws ++ [x.data.toList]) W' ∧ Below H W W' := by
  obtain ⟨g, cap, w3, hrun, hown3, hk3, hg3, hz3⟩ := append_x (P := Tryz.prog) W 59 9 Tryz.underlying59 tinfoStr rfl (by omega) h [.string x] rfl
    (by intro u hu; simp at hu; subst hu; rfl) (by unfold maxLen; omega) (by omega)
  have hgg : H ≤ g := by
    rcases hg3 with hx | hx
    · exact h.2 _ hx
    · omega
  refine ⟨_, w3, hrun, ?_, hk3.below hz (fun b hb => h.2 b hb)⟩
  have e : encS (ws ++ [x.data.toList]) = encS ws ++ [.string x] := by simp [encS]
  unfold TxO
  rw [e, List.length_append]
  exact hown3.weaken (fun b hb => by subst hb; exact hgg)
theorem yAt_one (s : ByteArray) (i : Nat) (h : i < s.size) : (s.extract i (i + 1)).data.toList = [yAt s i] := by
  have := Lib.extract_toList s i (i + 1)
  rw [ByteArray.toList_eq] at this
  rw [this, yAt_drop s i h, Nat.add_sub_cancel_left]
  rfl
theorem ycat (a b : ByteArray) : (a ++ b).data.toList = a.data.toList ++ b.data.toList := by rw [ByteArray.data_append, Array.toList_append]
theorem byt_is {b : UInt8} {k : Nat} (hk : k < 256) (h : (b.toNat : Int) = (k : Nat)) : b = UInt8.ofNat k := by
  apply UInt8.toNat_inj.1
  rw [UInt8.toNat_ofNat_of_lt' hk]
  omega
def WdI (s : ByteArray) (ws : List (List UInt8)) (c : ByteArray) (i : Nat) : Prop :=
  (i ≤ s.size ∧ wordsH [] s.data.toList = ws ++ wordsH c.data.toList (s.data.toList.drop i) ∧ ws.length ≤ i ∧ c.size ≤ i) ∨ (i = s.size + 1 ∧ wordsH [] s.data.toList = ws ∧ ws.length ≤ i ∧ c.size = 0)
def flW (ws : List (List UInt8)) (c : ByteArray) : List (List UInt8) := if c.data.toList = [] then ws else ws ++ [c.data.toList]
theorem fl_fire {ws : List (List UInt8)} {c : ByteArray} : flW ws c = ws ++ if c.data.toList = [] then [] else [c.data.toList] := by
  unfold flW
  split
  · rw [List.append_nil]
  · rfl
theorem WdI.end_ {s c : ByteArray} {ws : List (List UInt8)} (h : WdI s ws c s.size) : wordsH [] s.data.toList = flW ws c ∧ (flW ws c).length ≤ s.size + 1 := by
  rcases h with ⟨_, h1, h2, _⟩ | ⟨h, _⟩
  · rw [List.drop_eq_nil_of_le (by rw [← Lib.size_eq]; exact Nat.le_refl _), wordsH] at h1
    refine ⟨by rw [h1, fl_fire], ?_⟩
    unfold flW
    split
    · omega
    · simp; omega
  · omega
theorem WdI.rem {s c : ByteArray} {ws : List (List UInt8)} {i : Nat} (h : WdI s ws c i) (hi : i < s.size) (hb : yAt s i = 35) : wordsH [] s.data.toList = flW ws c := by
  rcases h with ⟨_, h1, _⟩ | ⟨h, _⟩
  · rw [yAt_drop s i hi, wordsH, if_pos hb] at h1
    rw [h1, fl_fire]
  · omega
theorem WdI.blk {s c : ByteArray} {ws : List (List UInt8)} {i : Nat} (h : WdI s ws c i) (hi : i < s.size) (hb : yAt s i = 32 ∨ yAt s i = 9) : WdI s (flW ws c) ⟨#[]⟩ (i + 1) := by
  rcases h with ⟨_, h1, h2, _⟩ | ⟨h, _⟩
  · refine .inl ⟨by omega, ?_, ?_, Nat.zero_le _⟩
    · rw [yAt_drop s i hi, wordsH, if_neg (by rcases hb with h | h <;> (rw [h]; decide)), if_pos (by rcases hb with h | h <;> (rw [h]; decide))] at h1
      rw [h1, fl_fire]
      split
      · simp
      · simp
    · unfold flW
      split
      · omega
      · simp; omega
  · omega
theorem WdI.byte {s c : ByteArray} {ws : List (List UInt8)} {i : Nat} (h : WdI s ws c i) (hi : i < s.size) (h35 : yAt s i ≠ 35) (h32 : yAt s i ≠ 32) (h9 : yAt s i ≠ 9) : WdI s ws (c ++ s.extract i (i + 1)) (i + 1) := by
  rcases h with ⟨_, h1, h2, h3⟩ | ⟨h, _⟩
  · have hz : (s.extract i (i + 1)).size = 1 := by rw [ByteArray.size_extract]; omega
    refine .inl ⟨by omega, ?_, by omega, by rw [ByteArray.size_append, hz]; omega⟩
    have hbf : blkP (yAt s i).toNat = false := blk_no ⟨fun e => h32 (byt_is (k := 32) (by decide) (by rw [e])), fun e => h9 (byt_is (k := 9) (by decide) (by rw [e]))⟩
    rw [yAt_drop s i hi, wordsH, if_neg h35, hbf] at h1
    rw [h1, ycat, yAt_one s i hi]
    rfl
  · omega
theorem byt_nil {c : ByteArray} (h : c.data.toList = []) : c = ⟨#[]⟩ := by
  obtain ⟨⟨l⟩⟩ := c
  simp at h
  subst h
  rfl

set_option maxRecDepth 100000 in
set_option maxHeartbeats 4000000 in
theorem ywords (s : ByteArray) (w : World) (hs : s.size ≤ 1048000) :
    Calls Tryz.prog 61 #[.string s] w fun e w' => ∃ v, e = .returned v ∧ TxO w.heap.size v (wordsH [] s.data.toList) w' ∧ Below w.heap.size w w' := by
  go_enter Tryz.func61, Tryz.ntmps61
  go_wp2_with fail
  go_loopw [3, 4, 5] (fun u v x wr => ∃ (i : Nat) (ws : List (List UInt8)) (c : ByteArray), v = .string c ∧ x = .int .i64 (i : Nat) ∧ i ≤ s.size + 1 ∧ Hid (WdI s ws c i ∧ TxO w.heap.size u ws wr ∧ Below w.heap.size w wr)) (fun _ _ x _ => s.size + 1 - (RowKit.intOf x).toNat)
  case atStart => exact ⟨0, [], ⟨#[]⟩, rfl, rfl, Nat.zero_le _, Lib.hid ⟨.inl ⟨Nat.zero_le _, by rw [List.drop_zero]; rfl, Nat.le_refl _, Nat.le_refl _⟩, txo_nil _ _, Below.refl _ _⟩⟩
  case round =>
    obtain ⟨i, ws, c, rfl, rfl, hi, H⟩ := hrel
    by_cases hlt : i ≤ s.size
    · have e1 : (i : Int) ≤ s.size := by omega
      have hk1 : IntKind.i64.wrap ((i : Int) + 1) = ((i + 1 : Nat) : Int) := by rw [IntWalk.i64_in _ (by omega)]; omega
      have hwl : ws.length ≤ 1048576 := by rcases H.out.1 with ⟨_, _, h, _⟩ | ⟨_, _, h, _⟩ <;> omega
      obtain ⟨v', W', hrun, ht', hb'⟩ := H.out.2.1.app H.out.2.2.size hwl c
      have HRun := Lib.hid hrun
      have HB' := Lib.hid (And.intro ht' (H.out.2.2.trans hb'))
      clear hrun ht' hb' hwl
      by_cases hend : i = s.size
      · have q1 : ((i : Int) == (s.size : Int)) = true := by simp; omega
        have q2 : ¬ (i : Int) < s.size := by omega
        have HE := Lib.hid (WdI.end_ (hend ▸ H.out.1))
        have HEN := Lib.hid hend
        clear hend
        by_cases hc : c.data.toList = []
        · obtain rfl := byt_nil hc
          have HF : Hid (flW ws ⟨#[]⟩ = ws) := Lib.hid (by unfold flW; rw [if_pos hc])
          clear hc hlt
          go_wp2
          go_roundw
          case rel => exact ⟨i + 1, ws, ⟨#[]⟩, rfl, by go_num, by omega, Lib.hid ⟨.inr ⟨by have := HEN.out; omega, by rw [HE.out.1, HF.out], by have := HE.out.2; have := HEN.out; rw [HF.out] at *; omega, rfl⟩, H.out.2.1, H.out.2.2⟩⟩
          case measure => simp [RowKit.intOf]; omega
        · have HF : Hid (flW ws c = ws ++ [c.data.toList]) := Lib.hid (by unfold flW; rw [if_neg hc])
          have hcn : c.toList.isEmpty = false := by
            rw [ByteArray.toList_eq]
            cases h9 : c.data.toList with
            | nil => exact absurd h9 hc
            | cons _ _ => rfl
          clear hc hlt
          go_wp2_with (first | (at_builtin; refine wpList_append_eq rfl rfl rfl rfl HRun.out ?_; clear HRun) | fail)
          go_roundw
          case rel => exact ⟨i + 1, _, ⟨#[]⟩, rfl, by go_num, by omega, Lib.hid ⟨.inr ⟨by have := HEN.out; omega, by rw [HE.out.1, HF.out], by have := HE.out.2; have := HEN.out; rw [HF.out] at *; omega, rfl⟩, HB'.out.1, HB'.out.2⟩⟩
          case measure => simp [RowKit.intOf]; omega
      · have hlt2 : i < s.size := by omega
        have q1 : ((i : Int) == (s.size : Int)) = false := by rw [beq_eq_false_iff_ne]; omega
        have q2 : (i : Int) < s.size := by omega
        have HI := fun W => yAt_run s i hlt2 W
        obtain ⟨b, hb⟩ : ∃ b : Int, ((yAt s i).toNat : Int) = b := ⟨_, rfl⟩
        rw [hb] at HI
        have HLT := Lib.hid hlt2
        clear hend hlt hlt2
        by_cases h35 : b = 35
        · subst h35
          have HE := Lib.hid (H.out.1.rem HLT.out (byt_is (k := 35) (by decide) hb))
          by_cases hc : c.data.toList = []
          · obtain rfl := byt_nil hc
            have HF : Hid (flW ws ⟨#[]⟩ = ws) := Lib.hid (by unfold flW; rw [if_pos hc])
            clear hc hb
            go_wp2
            go_ret
            exact ⟨_, rfl, by rw [HE.out, HF.out]; exact H.out.2.1, H.out.2.2⟩
          · have HF : Hid (flW ws c = ws ++ [c.data.toList]) := Lib.hid (by unfold flW; rw [if_neg hc])
            have hcn : c.toList.isEmpty = false := by
              rw [ByteArray.toList_eq]
              cases h9 : c.data.toList with
              | nil => exact absurd h9 hc
              | cons _ _ => rfl
            clear hc hb
            go_wp2_with (first | (at_builtin; refine wpList_append_eq rfl rfl rfl rfl HRun.out ?_; clear HRun) | fail)
            go_ret
            exact ⟨_, rfl, by rw [HE.out, HF.out]; exact HB'.out.1, HB'.out.2⟩
        · have r35 : (b == 35) = false := beq_eq_false_iff_ne.2 h35
          by_cases hbl : b = 32 ∨ b = 9
          · have HE := Lib.hid (H.out.1.blk HLT.out (by rcases hbl with h | h; exact .inl (byt_is (k := 32) (by decide) (hb.trans h)); exact .inr (byt_is (k := 9) (by decide) (hb.trans h))))
            by_cases hc : c.data.toList = []
            · obtain rfl := byt_nil hc
              have HF : Hid (flW ws ⟨#[]⟩ = ws) := Lib.hid (by unfold flW; rw [if_pos hc])
              clear hc hb
              rcases hbl with rfl | rfl
              all_goals
                go_wp2
                go_roundw
                case rel => exact ⟨i + 1, ws, ⟨#[]⟩, rfl, by go_num, by have := HLT.out; omega, Lib.hid ⟨by have := HE.out; rwa [HF.out] at this, H.out.2.1, H.out.2.2⟩⟩
                case measure => have := HLT.out; simp [RowKit.intOf]; omega
            · have HF : Hid (flW ws c = ws ++ [c.data.toList]) := Lib.hid (by unfold flW; rw [if_neg hc])
              have hcn : c.toList.isEmpty = false := by
                rw [ByteArray.toList_eq]
                cases h9 : c.data.toList with
                | nil => exact absurd h9 hc
                | cons _ _ => rfl
              clear hc hb
              rcases hbl with rfl | rfl
              all_goals
                go_wp2_with (first | (at_builtin; refine wpList_append_eq rfl rfl rfl rfl HRun.out ?_; clear HRun) | fail)
                go_roundw
                case rel => exact ⟨i + 1, _, ⟨#[]⟩, rfl, by go_num, by have := HLT.out; omega, Lib.hid ⟨by have := HE.out; rwa [HF.out] at this, HB'.out.1, HB'.out.2⟩⟩
                case measure => have := HLT.out; simp [RowKit.intOf]; omega
          · have r32 : (b == 32) = false := beq_eq_false_iff_ne.2 (fun h => hbl (.inl h))
            have r9 : (b == 9) = false := beq_eq_false_iff_ne.2 (fun h => hbl (.inr h))
            have HE := Lib.hid (H.out.1.byte HLT.out (fun e => h35 (by rw [← hb, e]; rfl)) (fun e => hbl (.inl (by rw [← hb, e]; rfl))) (fun e => hbl (.inr (by rw [← hb, e]; rfl))))
            have s1 : (0 : Int) ≤ i := by omega
            have s2 : (i : Int) ≤ ((i + 1 : Nat) : Int) := by omega
            have s3 : ((i + 1 : Nat) : Int) ≤ s.size := by omega
            have hz : ¬ c.size + (s.extract i (i + 1)).size > 9223372036854775807 := by
              rw [ByteArray.size_extract]
              rcases H.out.1 with ⟨_, _, _, h⟩ | ⟨_, _, _, h⟩ <;> omega
            clear hb hbl
            go_wp2
            go_roundw
            case rel => exact ⟨i + 1, ws, _, rfl, by go_num, by have := HLT.out; omega, Lib.hid ⟨HE.out, H.out.2.1, H.out.2.2⟩⟩
            case measure => have := HLT.out; simp [RowKit.intOf]; omega
    · have e1 : ¬ (i : Int) ≤ s.size := by omega
      have HE : Hid (wordsH [] s.data.toList = ws) := Lib.hid (by rcases H.out.1 with ⟨h, _⟩ | ⟨_, h, _⟩; omega; exact h)
      clear hlt
      go_wp2
      go_ret
      exact ⟨_, rfl, by rw [HE.out]; exact H.out.2.1, H.out.2.2⟩
end Go.Proofs.YthhepebkfokddaaGreatDoor
