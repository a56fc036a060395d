/- Parts of the proof of what the last text says. -/
import Derived.Test.YthhepebkfokddaaGreatDoorGx18
import Derived.Test.YthhepebkfokddaaGreatDoorGx21
import Derived.Test.YthhepebkfokddaaGreatDoorGx2
import Derived.Test.YthhepebkfokddaaGreatDoorGx19
import Derived.OwnWalk
import Derived.Test.YthhepebkfokddaaGreatDoorProg
import Derived.WalkKit
import Derived.LaidEql
import Derived.Stop.Asserts
import Derived.RowKitTokens
import Derived.Lib.Hide
import Derived.Test.YthhepebkfokddaaGreatDoorGx5
import Derived.Deep.RegionHeldLaw
namespace Go.Proofs.YthhepebkfokddaaGreatDoor
open Go Go.RowKit Go.Kt Go.Kt.Rg Go.Maps
theorem tinfoStr : (Tryz.prog.info? 9).map (fun i => (i.zero, i.size, i.bytes)) = some (some (.string ⟨#[]⟩), 1, 16) := by kernel_rfl
def encS (ws : List (List UInt8)) : List Value := ws.map fun x => .string ⟨x.toArray⟩
def TxO (H : Nat) (v : Value) (ws : List (List UInt8)) (W : World) : Prop := OwnS (fun b => H ≤ b) 9 1 v ws.length (encS ws) W
theorem txo_nil (H : Nat) (W : World) : TxO H (.slice none 0 0) [] W := own_nil _ _ _ _
theorem TxO.app {H : Nat} {v : Value} {ws : List (List UInt8)} {W : World} (h : TxO H v ws W) (hz : H ≤ W.heap.size) (hn : ws.length ≤ 1048576) (x : ByteArray) :
 ∃ v' W', (∀ ty, (Builtin.append_ #[59, 59] ty #[v, .slice (some ⟨W.heap.size, 0, none⟩) 1 1]).run Tryz.prog (W.alloc (.cells #[.string x] 9)) = .ok v' W') ∧ TxO H v' (ws ++ [x.data.toList]) W' ∧ Below H W W' := by
 obtain ⟨g, cap, w3, hrun, hown3, hk3, hg3, hz3⟩ := append_x (P := Tryz.prog) W 59 9 Tryz.underlying59 tinfoStr rfl (by omega) h [.string x] rfl
  (by intro u hu; simp at hu; subst hu; rfl) (by unfold maxLen; omega) (by omega)
 have hgg : H ≤ g := by
  rcases hg3 with hx | hx
  ·exact h.2 _ hx
  ·omega
 refine ⟨_, w3, hrun, ?_, hk3.below hz (fun b hb => h.2 b hb)⟩
 have e : encS (ws ++ [x.data.toList]) = encS ws ++ [.string x] := by simp [encS]
 unfold TxO
 rw [e, List.length_append]
 exact hown3.weaken (fun b hb => by subst hb; exact hgg)
theorem yAt_one (s : ByteArray) (i : Nat) (h : i < s.size) : (s.extract i (i + 1)).data.toList = [yAt s i] := by
 have := Lib.extract_toList s i (i + 1)
 rw [ByteArray.toList_eq] at this
 rw [this, yAt_drop s i h, Nat.add_sub_cancel_left]
 rfl
theorem ycat (a b : ByteArray) : (a ++ b).data.toList = a.data.toList ++ b.data.toList := by rw [ByteArray.data_append, Array.toList_append]
theorem byt_is {b : UInt8} {k : Nat} (hk : k < 256) (h : (b.toNat : Int) = (k : Nat)) : b = UInt8.ofNat k := by
 apply UInt8.toNat_inj.1
 rw [UInt8.toNat_ofNat_of_lt' hk]
 omega
def WdI (s : ByteArray) (ws : List (List UInt8)) (c : ByteArray) (i : Nat) : Prop :=
 (i ≤ s.size ∧ wordsH [] s.data.toList = ws ++ wordsH c.data.toList (s.data.toList.drop i) ∧ ws.length ≤ i ∧ c.size ≤ i) ∨ (i = s.size + 1 ∧ wordsH [] s.data.toList = ws ∧ ws.length ≤ i ∧ c.size = 0)
def flW (ws : List (List UInt8)) (c : ByteArray) : List (List UInt8) := if c.data.toList = [] then ws else ws ++ [c.data.toList]
theorem fl_fire {ws : List (List UInt8)} {c : ByteArray} : flW ws c = ws ++ if c.data.toList = [] then [] else [c.data.toList] := by
 unfold flW
 split
 ·rw [List.append_nil]
 ·rfl
theorem WdI.end_ {s c : ByteArray} {ws : List (List UInt8)} (h : WdI s ws c s.size) : wordsH [] s.data.toList = flW ws c ∧ (flW ws c).length ≤ s.size + 1 := by
 rcases h with ⟨_, h1, h2, _⟩ | ⟨h, _⟩
 ·rw [List.drop_eq_nil_of_le (by rw [← Lib.size_eq]; exact Nat.le_refl _), wordsH] at h1
  refine ⟨by rw [h1, fl_fire], ?_⟩
  unfold flW
  split
  ·omega
  ·simp; omega
 ·omega
theorem WdI.rem {s c : ByteArray} {ws : List (List UInt8)} {i : Nat} (h : WdI s ws c i) (hi : i < s.size) (hb : yAt s i = 35) : wordsH [] s.data.toList = flW ws c := by
 rcases h with ⟨_, h1, _⟩ | ⟨h, _⟩
 ·rw [yAt_drop s i hi, wordsH, if_pos hb] at h1
  rw [h1, fl_fire]
 ·omega
theorem WdI.blk {s c : ByteArray} {ws : List (List UInt8)} {i : Nat} (h : WdI s ws c i) (hi : i < s.size) (hb : yAt s i = 32 ∨ yAt s i = 9) : WdI s (flW ws c) ⟨#[]⟩ (i + 1) := by
 rcases h with ⟨_, h1, h2, _⟩ | ⟨h, _⟩
 ·refine .inl ⟨by omega, ?_, ?_, Nat.zero_le _⟩
  ·rw [yAt_drop s i hi, wordsH, if_neg (by rcases hb with h | h <;> (rw [h]; decide)), if_pos (by rcases hb with h | h <;> (rw [h]; decide))] at h1
   rw [h1, fl_fire]
   split
   ·simp
   ·simp
  ·unfold flW
   split
   ·omega
   ·simp; omega
 ·omega
theorem WdI.byte {s c : ByteArray} {ws : List (List UInt8)} {i : Nat} (h : WdI s ws c i) (hi : i < s.size) (h35 : yAt s i ≠ 35) (h32 : yAt s i ≠ 32) (h9 : yAt s i ≠ 9) : WdI s ws (c ++ s.extract i (i + 1)) (i + 1) := by
 rcases h with ⟨_, h1, h2, h3⟩ | ⟨h, _⟩
 ·have hz : (s.extract i (i + 1)).size = 1 := by rw [ByteArray.size_extract]; omega
  refine .inl ⟨by omega, ?_, by omega, by rw [ByteArray.size_append, hz]; omega⟩
  have hbf : blkP (yAt s i).toNat = false := blk_no ⟨fun e => h32 (byt_is (k := 32) (by decide) (by rw [e])), fun e => h9 (byt_is (k := 9) (by decide) (by rw [e]))⟩
  rw [yAt_drop s i hi, wordsH, if_neg h35, hbf] at h1
  rw [h1, ycat, yAt_one s i hi]
  rfl
 ·omega
theorem byt_nil {c : ByteArray} (h : c.data.toList = []) : c = ⟨#[]⟩ := by
 obtain ⟨⟨l⟩⟩ := c
 simp at h
 subst h
 rfl
set_option maxRecDepth 100000 in
set_option maxHeartbeats 4000000 in
theorem ywords (s : ByteArray) (w : World) (hs : s.size ≤ 1048000) :
 Calls Tryz.prog 61 #[.string s] w fun e w' => ∃ v, e = .returned v ∧ TxO w.heap.size v (wordsH [] s.data.toList) w' ∧ Below w.heap.size w w' := by
 go_enter Tryz.func61, Tryz.ntmps61
 go_wp2_with fail
 go_loopw [3, 4, 5] (fun u v x wr => ∃ (i : Nat) (ws : List (List UInt8)) (c : ByteArray), v = .string c ∧ x = .int .i64 (i : Nat) ∧ i ≤ s.size + 1 ∧ Hid (WdI s ws c i ∧ TxO w.heap.size u ws wr ∧ Below w.heap.size w wr)) (fun _ _ x _ => s.size + 1 - (RowKit.intOf x).toNat)
 case atStart => exact ⟨0, [], ⟨#[]⟩, rfl, rfl, Nat.zero_le _, Lib.hid ⟨.inl ⟨Nat.zero_le _, by rw [List.drop_zero]; rfl, Nat.le_refl _, Nat.le_refl _⟩, txo_nil _ _, Below.refl _ _⟩⟩
 case round =>
  obtain ⟨i, ws, c, rfl, rfl, hi, H⟩ := hrel
  by_cases hlt : i ≤ s.size
  ·have e1 : (i : Int) ≤ s.size := by omega
   have hk1 : IntKind.i64.wrap ((i : Int) + 1) = ((i + 1 : Nat) : Int) := by rw [IntWalk.i64_in _ (by omega)]; omega
   have hwl : ws.length ≤ 1048576 := by rcases H.out.1 with ⟨_, _, h, _⟩ | ⟨_, _, h, _⟩ <;> omega
   obtain ⟨v', W', hrun, ht', hb'⟩ := H.out.2.1.app H.out.2.2.size hwl c
   have HRun := Lib.hid hrun
   have HB' := Lib.hid (And.intro ht' (H.out.2.2.trans hb'))
   clear hrun ht' hb' hwl
   by_cases hend : i = s.size
   ·have q1 : ((i : Int) == (s.size : Int)) = true := by simp; omega
    have q2 : ¬ (i : Int) < s.size := by omega
    have HE := Lib.hid (WdI.end_ (hend ▸ H.out.1))
    have HEN := Lib.hid hend
    clear hend
    by_cases hc : c.data.toList = []
    ·obtain rfl := byt_nil hc
     have HF : Hid (flW ws ⟨#[]⟩ = ws) := Lib.hid (by unfold flW; rw [if_pos hc])
     clear hc hlt
     go_wp2
     go_roundw
     case rel => exact ⟨i + 1, ws, ⟨#[]⟩, rfl, by go_num, by omega, Lib.hid ⟨.inr ⟨by have := HEN.out; omega, by rw [HE.out.1, HF.out], by have := HE.out.2; have := HEN.out; rw [HF.out] at *; omega, rfl⟩, H.out.2.1, H.out.2.2⟩⟩
     case measure => simp [RowKit.intOf]; omega
    ·have HF : Hid (flW ws c = ws ++ [c.data.toList]) := Lib.hid (by unfold flW; rw [if_neg hc])
     have hcn : c.toList.isEmpty = false := by
      rw [ByteArray.toList_eq]
      cases h9 : c.data.toList with
      | nil => exact absurd h9 hc
      | cons _ _ => rfl
     clear hc hlt
     go_wp2_with (first | (at_builtin; refine wpList_append_eq rfl rfl rfl rfl HRun.out ?_; clear HRun) | fail)
     go_roundw
     case rel => exact ⟨i + 1, _, ⟨#[]⟩, rfl, by go_num, by omega, Lib.hid ⟨.inr ⟨by have := HEN.out; omega, by rw [HE.out.1, HF.out], by have := HE.out.2; have := HEN.out; rw [HF.out] at *; omega, rfl⟩, HB'.out.1, HB'.out.2⟩⟩
     case measure => simp [RowKit.intOf]; omega
   ·have hlt2 : i < s.size := by omega
    have q1 : ((i : Int) == (s.size : Int)) = false := by rw [beq_eq_false_iff_ne]; omega
    have q2 : (i : Int) < s.size := by omega
    have HI := fun W => yAt_run s i hlt2 W
    obtain ⟨b, hb⟩ : ∃ b : Int, ((yAt s i).toNat : Int) = b := ⟨_, rfl⟩
    rw [hb] at HI
    have HLT := Lib.hid hlt2
    clear hend hlt hlt2
    by_cases h35 : b = 35
    ·subst h35
     have HE := Lib.hid (H.out.1.rem HLT.out (byt_is (k := 35) (by decide) hb))
     by_cases hc : c.data.toList = []
     ·obtain rfl := byt_nil hc
      have HF : Hid (flW ws ⟨#[]⟩ = ws) := Lib.hid (by unfold flW; rw [if_pos hc])
      clear hc hb
      go_wp2
      go_ret
      exact ⟨_, rfl, by rw [HE.out, HF.out]; exact H.out.2.1, H.out.2.2⟩
     ·have HF : Hid (flW ws c = ws ++ [c.data.toList]) := Lib.hid (by unfold flW; rw [if_neg hc])
      have hcn : c.toList.isEmpty = false := by
       rw [ByteArray.toList_eq]
       cases h9 : c.data.toList with
       | nil => exact absurd h9 hc
       | cons _ _ => rfl
      clear hc hb
      go_wp2_with (first | (at_builtin; refine wpList_append_eq rfl rfl rfl rfl HRun.out ?_; clear HRun) | fail)
      go_ret
      exact ⟨_, rfl, by rw [HE.out, HF.out]; exact HB'.out.1, HB'.out.2⟩
    ·have r35 : (b == 35) = false := beq_eq_false_iff_ne.2 h35
     by_cases hbl : b = 32 ∨ b = 9
     ·have HE := Lib.hid (H.out.1.blk HLT.out (by rcases hbl with h | h; exact .inl (byt_is (k := 32) (by decide) (hb.trans h)); exact .inr (byt_is (k := 9) (by decide) (hb.trans h))))
      by_cases hc : c.data.toList = []
      ·obtain rfl := byt_nil hc
       have HF : Hid (flW ws ⟨#[]⟩ = ws) := Lib.hid (by unfold flW; rw [if_pos hc])
       clear hc hb
       rcases hbl with rfl | rfl
       all_goals
        go_wp2
        go_roundw
        case rel => exact ⟨i + 1, ws, ⟨#[]⟩, rfl, by go_num, by have := HLT.out; omega, Lib.hid ⟨by have := HE.out; rwa [HF.out] at this, H.out.2.1, H.out.2.2⟩⟩
        case measure => have := HLT.out; simp [RowKit.intOf]; omega
      ·have HF : Hid (flW ws c = ws ++ [c.data.toList]) := Lib.hid (by unfold flW; rw [if_neg hc])
       have hcn : c.toList.isEmpty = false := by
        rw [ByteArray.toList_eq]
        cases h9 : c.data.toList with
        | nil => exact absurd h9 hc
        | cons _ _ => rfl
       clear hc hb
       rcases hbl with rfl | rfl
       all_goals
        go_wp2_with (first | (at_builtin; refine wpList_append_eq rfl rfl rfl rfl HRun.out ?_; clear HRun) | fail)
        go_roundw
        case rel => exact ⟨i + 1, _, ⟨#[]⟩, rfl, by go_num, by have := HLT.out; omega, Lib.hid ⟨by have := HE.out; rwa [HF.out] at this, HB'.out.1, HB'.out.2⟩⟩
        case measure => have := HLT.out; simp [RowKit.intOf]; omega
     ·have r32 : (b == 32) = false := beq_eq_false_iff_ne.2 (fun h => hbl (.inl h))
      have r9 : (b == 9) = false := beq_eq_false_iff_ne.2 (fun h => hbl (.inr h))
      have HE := Lib.hid (H.out.1.byte HLT.out (fun e => h35 (by rw [← hb, e]; rfl)) (fun e => hbl (.inl (by rw [← hb, e]; rfl))) (fun e => hbl (.inr (by rw [← hb, e]; rfl))))
      have s1 : (0 : Int) ≤ i := by omega
      have s2 : (i : Int) ≤ ((i + 1 : Nat) : Int) := by omega
      have s3 : ((i + 1 : Nat) : Int) ≤ s.size := by omega
      have hz : ¬ c.size + (s.extract i (i + 1)).size > 9223372036854775807 := by
       rw [ByteArray.size_extract]
       rcases H.out.1 with ⟨_, _, _, h⟩ | ⟨_, _, _, h⟩ <;> omega
      clear hb hbl
      go_wp2
      go_roundw
      case rel => exact ⟨i + 1, ws, _, rfl, by go_num, by have := HLT.out; omega, Lib.hid ⟨HE.out, H.out.2.1, H.out.2.2⟩⟩
      case measure => have := HLT.out; simp [RowKit.intOf]; omega
  ·have e1 : ¬ (i : Int) ≤ s.size := by omega
   have HE : Hid (wordsH [] s.data.toList = ws) := Lib.hid (by rcases H.out.1 with ⟨h, _⟩ | ⟨_, h, _⟩; omega; exact h)
   clear hlt
   go_wp2
   go_ret
   exact ⟨_, rfl, by rw [HE.out]; exact H.out.2.1, H.out.2.2⟩
end Go.Proofs.YthhepebkfokddaaGreatDoor
namespace Go.Proofs.YthhepebkfokddaaGreatDoor
open Go Go.RowKit Go.Kt Go.Kt.Rg Go.Maps
def lnT (l : List UInt8) : List UInt8 := Lib.trimSuffix (Lib.trimSuffix l [10]) [13]
theorem words_lnT (l : List UInt8) : wordsH [] (lnT l) = wrdP l := (wrdP_H l).symm
def lnsP (l : List UInt8) : List (List UInt8) := (linesP l).map lnT
def LnI (s : ByteArray) (ws : List (List UInt8)) (f i : Nat) : Prop :=
 (f ≤ i ∧ i ≤ s.size ∧ lnsP s.data.toList = ws ++ lnsP (s.data.toList.drop f) ∧ (∀ j, f ≤ j → j < i → yAt s j ≠ 10) ∧ ws.length ≤ f) ∨ (i = s.size + 1 ∧ f ≤ i ∧ lnsP s.data.toList = ws ∧ ws.length ≤ i)
def lnC' (s : ByteArray) (f i : Nat) : List UInt8 := (s.data.toList.drop f).take (i - f)
theorem lnC_no {s : ByteArray} {f i : Nat} (h : ∀ j, f ≤ j → j < i → yAt s j ≠ 10) : ∀ x ∈ lnC' s f i, x ≠ 10 := by
 intro x hx
 obtain ⟨k, hk⟩ := List.getElem?_of_mem hx
 unfold lnC' at hk
 rw [List.getElem?_take] at hk
 split at hk
 ·rename_i hlt
  rw [List.getElem?_drop] at hk
  have := h (f + k) (by omega) (by omega)
  unfold yAt at this
  rw [List.getD_eq_getElem?_getD, hk] at this
  exact this
 ·cases hk
theorem lnC_drop {s : ByteArray} {f i : Nat} (h : f ≤ i) : s.data.toList.drop f = lnC' s f i ++ s.data.toList.drop i := by
 unfold lnC'
 conv => lhs; rw [← List.take_append_drop (i - f) (s.data.toList.drop f)]
 rw [List.drop_drop, show f + (i - f) = i by omega]
theorem LnI.skip {s : ByteArray} {ws : List (List UInt8)} {f i : Nat} (h : LnI s ws f i) (hi : i < s.size) (hb : yAt s i ≠ 10) : LnI s ws f (i + 1) := by
 rcases h with ⟨h1, h2, h3, h4, h5⟩ | ⟨h, _⟩
 ·refine .inl ⟨by omega, by omega, h3, fun j hj hj2 => ?_, h5⟩
  by_cases e : j = i
  ·subst e; exact hb
  ·exact h4 j hj (by omega)
 ·omega
theorem LnI.none {s : ByteArray} {ws : List (List UInt8)} (h : LnI s ws s.size s.size) : LnI s ws s.size (s.size + 1) := by
 rcases h with ⟨h1, h2, h3, h4, h5⟩ | ⟨h, _⟩
 ·rw [List.drop_eq_nil_of_le (by rw [← Lib.size_eq]; exact Nat.le_refl _)] at h3
  exact .inr ⟨rfl, by omega, by rw [h3]; simp [lnsP, linesP_nil], by omega⟩
 ·omega
theorem LnI.cut {s : ByteArray} {ws : List (List UInt8)} {f i : Nat} (h : LnI s ws f i) (hi : i < s.size) (hb : yAt s i = 10) : LnI s (ws ++ [Lib.trimSuffix (lnC' s f i) [13]]) (i + 1) (i + 1) := by
 rcases h with ⟨h1, h2, h3, h4, h5⟩ | ⟨h, _⟩
 ·refine .inl ⟨Nat.le_refl _, by omega, ?_, fun j hj hj2 => by omega, by simp; omega⟩
  rw [h3, lnC_drop h1, yAt_drop s i hi, hb]
  unfold lnsP
  rw [lines_cons _ _ (lnC_no h4), List.map_cons, lnT, trims_end, List.append_assoc]
  rfl
 ·omega
theorem LnI.last {s : ByteArray} {ws : List (List UInt8)} {f : Nat} (h : LnI s ws f s.size) (hf : f < s.size) : LnI s (ws ++ [Lib.trimSuffix (lnC' s f s.size) [13]]) (s.size + 1) (s.size + 1) := by
 rcases h with ⟨h1, h2, h3, h4, h5⟩ | ⟨h, _⟩
 ·refine .inr ⟨rfl, Nat.le_refl _, ?_, by simp; omega⟩
  rw [h3, lnC_drop h1, List.drop_eq_nil_of_le (by rw [← Lib.size_eq]; exact Nat.le_refl _), List.append_nil]
  have hne : lnC' s f s.size ≠ [] := fun e => by
   have := congrArg List.length e
   have hln : s.data.toList.length = s.size := (Lib.size_eq s).symm
   simp only [lnC', List.length_take, List.length_drop, List.length_nil] at this
   omega
  unfold lnsP
  rw [lines_one _ (lnC_no h4), if_neg hne, List.map_singleton, lnT, trims10 _ (lnC_no h4)]
 ·omega
theorem lnC_ext (s : ByteArray) (f i : Nat) : (s.extract f i).data.toList = lnC' s f i := by
 have := Lib.extract_toList s f i
 rw [ByteArray.toList_eq] at this
 exact this
theorem trim_yes {t : ByteArray} {n : Nat} (hn : t.size = n + 1) (hb : yAt t n = 13) : (t.extract 0 n).data.toList = Lib.trimSuffix t.data.toList [13] := by
 have h1 : t.data.toList = t.data.toList.take n ++ [13] := by
  have h := List.take_append_drop n t.data.toList
  rw [yAt_drop t n (by omega), hb, List.drop_eq_nil_of_le (by rw [← Lib.size_eq]; omega)] at h
  exact h.symm
 have h2 := Lib.extract_toList t 0 n
 rw [ByteArray.toList_eq] at h2
 rw [h2, List.drop_zero, Nat.sub_zero]
 conv => rhs; rw [h1]
 rw [trims_end]
theorem trim_no {t : ByteArray} {n : Nat} (hn : t.size = n + 1) (hb : yAt t n ≠ 13) : t.data.toList = Lib.trimSuffix t.data.toList [13] := by
 refine (trims_not 13 _ fun e => hb ?_).symm
 rw [List.getLast?_eq_getElem?, ← Lib.size_eq, hn, Nat.add_sub_cancel] at e
 unfold yAt
 rw [List.getD_eq_getElem?_getD, e]; rfl
theorem slFT (s : ByteArray) (f i : Nat) (h1 : f ≤ i) (h2 : i ≤ s.size) (X : World) : (Instr.sliceAt 9 (.string s) (some (.int .i64 (f : Nat))) (some (.int .i64 (i : Nat))) none).run Tryz.prog X = .ok (.string (s.extract f i)) X := by
 have q0 : (0 : Int) ≤ f := by omega
 have q1 : (f : Int) ≤ i := by omega
 have q2 : (i : Int) ≤ s.size := by omega
 go_simp
theorem slT0 (T : ByteArray) (i : Nat) (hT : i ≤ T.size) (X : World) : (Instr.sliceAt 9 (.string T) none (some (.int .i64 (i : Nat))) none).run Tryz.prog X = .ok (.string (T.extract 0 i)) X := by
 have q : (i : Int) ≤ T.size := by omega
 go_simp
set_option maxRecDepth 100000 in
set_option maxHeartbeats 4000000 in
theorem ylines (s : ByteArray) (w : World) (hs : s.size ≤ 1048000) :
 Calls Tryz.prog 60 #[.string s] w fun e w' => ∃ v, e = .returned v ∧ TxO w.heap.size v (lnsP s.data.toList) w' ∧ Below w.heap.size w w' := by
 go_enter Tryz.func60, Tryz.ntmps60
 go_wp2_with fail
 go_loopw [3, 4, 5] (fun u v x wr => ∃ (f i : Nat) (ws : List (List UInt8)), v = .int .i64 (f : Nat) ∧ x = .int .i64 (i : Nat) ∧ i ≤ s.size + 1 ∧ Hid (LnI s ws f i ∧ TxO w.heap.size u ws wr ∧ Below w.heap.size w wr)) (fun _ _ x _ => s.size + 1 - (RowKit.intOf x).toNat)
 case atStart => exact ⟨0, 0, [], rfl, rfl, Nat.zero_le _, Lib.hid ⟨.inl ⟨Nat.le_refl _, Nat.zero_le _, by rw [List.drop_zero]; rfl, fun j h1 h2 => by omega, Nat.le_refl _⟩, txo_nil _ _, Below.refl _ _⟩⟩
 case round =>
  obtain ⟨f, i, ws, rfl, rfl, hi, H⟩ := hrel
  by_cases hlt : i ≤ s.size
  ·have e1 : (i : Int) ≤ s.size := by omega
   have hk1 : IntKind.i64.wrap ((i : Int) + 1) = ((i + 1 : Nat) : Int) := by rw [IntWalk.i64_in _ (by omega)]; omega
   have hfi : f ≤ i := by rcases H.out.1 with ⟨h, _⟩ | ⟨h, _⟩ <;> omega
   have hwl : ws.length ≤ 1048576 := by rcases H.out.1 with ⟨_, _, _, _, h⟩ | ⟨_, _, _, h⟩ <;> omega
   have APP := Lib.hid (fun c => H.out.2.1.app H.out.2.2.size hwl c)
   clear hwl
   by_cases hend : i = s.size
   ·by_cases hf : f = i
    ·subst hf
     have q1 : ((f : Int) == (s.size : Int)) = true := by simp; omega
     have q2 : ¬ (f : Int) < s.size := by omega
     have HE := Lib.hid (show LnI s ws f (f + 1) by rw [hend] at H ⊢; exact H.out.1.none)
     clear hend hlt hfi
     go_wp2
     go_roundw
     case rel => exact ⟨f, f + 1, ws, rfl, by go_num, by omega, Lib.hid ⟨HE.out, H.out.2.1, H.out.2.2⟩⟩
     case measure => simp [RowKit.intOf]; omega
    ·have q1 : ((i : Int) == (s.size : Int)) = true := by simp; omega
     have q2 : ¬ (i : Int) < s.size := by omega
     have q3 : ((f : Int) == (i : Int)) = false := by rw [beq_eq_false_iff_ne]; omega
     have HE := Lib.hid (show LnI s (ws ++ [Lib.trimSuffix (lnC' s f i) [13]]) (i + 1) (i + 1) by rw [hend] at H ⊢; exact H.out.1.last (by omega))
     have HS := fun W => slFT s f i hfi hlt W
     obtain ⟨T, hT⟩ : ∃ T, s.extract f i = T := ⟨_, rfl⟩
     have hTl : T.data.toList = lnC' s f i := by rw [← hT]; exact lnC_ext s f i
     have hTz : T.size ≤ s.size := by rw [← hT, ByteArray.size_extract]; omega
     rw [hT] at HS
     have HTL := Lib.hid hTl
     clear hT hTl hlt hfi hend hf
     rcases Nat.eq_zero_or_pos T.size with hz | hz
     ·have hT0 : T.data.toList = [] := List.length_eq_zero_iff.1 (by rw [← Lib.size_eq]; exact hz)
      obtain rfl := byt_nil hT0
      obtain ⟨v', W', hrun, ht', hb'⟩ := APP.out ⟨#[]⟩
      have HRun := Lib.hid hrun
      have HN : Hid (Lib.trimSuffix (lnC' s f i) [13] = []) := Lib.hid (by rw [← HTL.out]; rfl)
      have HB' := Lib.hid (And.intro ht' (H.out.2.2.trans hb'))
      clear hrun ht' hb' hz hT0 hTz
      go_wp2_with (first | (at_builtin; refine wpList_append_eq rfl rfl rfl rfl HRun.out ?_; clear HRun) | fail)
      go_roundw
      case rel => exact ⟨i + 1, i + 1, _, by go_num, by go_num, by omega, Lib.hid ⟨by have := HE.out; rwa [HN.out] at this, HB'.out.1, HB'.out.2⟩⟩
      case measure => simp [RowKit.intOf]; omega
     ·obtain ⟨n, hn⟩ : ∃ n, T.size = n + 1 := ⟨T.size - 1, by omega⟩
      have hie : T.toList.isEmpty = false := by
       rw [ByteArray.toList_eq]
       cases h9 : T.data.toList with
       | nil => exact absurd ((Lib.size_eq T).trans (congrArg List.length h9)) (by rw [hn]; simp)
       | cons _ _ => rfl
      have hw2 : IntKind.i64.wrap ((T.size : Int) - 1) = (n : Nat) := by rw [IntWalk.i64_in _ (by omega)]; omega
      have HI2 := fun W => yAt_run T n (by omega) W
      obtain ⟨c, hc⟩ : ∃ c : Int, ((yAt T n).toNat : Int) = c := ⟨_, rfl⟩
      rw [hc] at HI2
      by_cases h13 : c = 13
      ·subst h13
       have HS2 := fun W => slT0 T n (by omega) W
       have hT2 := trim_yes hn (byt_is (k := 13) (by decide) hc)
       obtain ⟨T2, hTT⟩ : ∃ T2, T.extract 0 n = T2 := ⟨_, rfl⟩
       rw [hTT] at HS2 hT2
       obtain ⟨v', W', hrun, ht', hb'⟩ := APP.out T2
       have HRun := Lib.hid hrun
       have HN : Hid (Lib.trimSuffix (lnC' s f i) [13] = T2.data.toList) := Lib.hid (by rw [← HTL.out, hT2])
       have HB' := Lib.hid (And.intro ht' (H.out.2.2.trans hb'))
       clear hrun ht' hb' hz hc hTT hT2 hn hTz
       go_wp2_with (first | (at_builtin; refine wpList_append_eq rfl rfl rfl rfl HRun.out ?_; clear HRun) | fail)
       go_roundw
       case rel => exact ⟨i + 1, i + 1, _, by go_num, by go_num, by omega, Lib.hid ⟨by have := HE.out; rwa [HN.out] at this, HB'.out.1, HB'.out.2⟩⟩
       case measure => simp [RowKit.intOf]; omega
      ·have r13 : (c == 13) = false := beq_eq_false_iff_ne.2 h13
       have hT2 := trim_no hn (fun e => h13 (by rw [← hc, e]; rfl))
       obtain ⟨v', W', hrun, ht', hb'⟩ := APP.out T
       have HRun := Lib.hid hrun
       have HN : Hid (Lib.trimSuffix (lnC' s f i) [13] = T.data.toList) := Lib.hid (by rw [← HTL.out]; exact hT2.symm)
       have HB' := Lib.hid (And.intro ht' (H.out.2.2.trans hb'))
       clear hrun ht' hb' hz hc hT2 hn hTz
       go_wp2_with (first | (at_builtin; refine wpList_append_eq rfl rfl rfl rfl HRun.out ?_; clear HRun) | fail)
       go_roundw
       case rel => exact ⟨i + 1, i + 1, _, by go_num, by go_num, by omega, Lib.hid ⟨by have := HE.out; rwa [HN.out] at this, HB'.out.1, HB'.out.2⟩⟩
       case measure => simp [RowKit.intOf]; omega
   ·have hlt2 : i < s.size := by omega
    have q1 : ((i : Int) == (s.size : Int)) = false := by rw [beq_eq_false_iff_ne]; omega
    have q2 : (i : Int) < s.size := by omega
    have HI := fun W => yAt_run s i hlt2 W
    obtain ⟨b, hb⟩ : ∃ b : Int, ((yAt s i).toNat : Int) = b := ⟨_, rfl⟩
    rw [hb] at HI
    by_cases h10 : b = 10
    ·subst h10
     have HE := Lib.hid (H.out.1.cut hlt2 (byt_is (k := 10) (by decide) hb))
     clear hb
     have HS := fun W => slFT s f i hfi hlt W
     obtain ⟨T, hT⟩ : ∃ T, s.extract f i = T := ⟨_, rfl⟩
     have hTl : T.data.toList = lnC' s f i := by rw [← hT]; exact lnC_ext s f i
     have hTz : T.size ≤ s.size := by rw [← hT, ByteArray.size_extract]; omega
     rw [hT] at HS
     have HTL := Lib.hid hTl
     clear hT hTl hlt hfi hend
     rcases Nat.eq_zero_or_pos T.size with hz | hz
     ·have hT0 : T.data.toList = [] := List.length_eq_zero_iff.1 (by rw [← Lib.size_eq]; exact hz)
      obtain rfl := byt_nil hT0
      obtain ⟨v', W', hrun, ht', hb'⟩ := APP.out ⟨#[]⟩
      have HRun := Lib.hid hrun
      have HN : Hid (Lib.trimSuffix (lnC' s f i) [13] = []) := Lib.hid (by rw [← HTL.out]; rfl)
      have HB' := Lib.hid (And.intro ht' (H.out.2.2.trans hb'))
      clear hrun ht' hb' hz hT0 hTz
      go_wp2_with (first | (at_builtin; refine wpList_append_eq rfl rfl rfl rfl HRun.out ?_; clear HRun) | fail)
      go_roundw
      case rel => exact ⟨i + 1, i + 1, _, by go_num, by go_num, by omega, Lib.hid ⟨by have := HE.out; rwa [HN.out] at this, HB'.out.1, HB'.out.2⟩⟩
      case measure => simp [RowKit.intOf]; omega
     ·obtain ⟨n, hn⟩ : ∃ n, T.size = n + 1 := ⟨T.size - 1, by omega⟩
      have hie : T.toList.isEmpty = false := by
       rw [ByteArray.toList_eq]
       cases h9 : T.data.toList with
       | nil => exact absurd ((Lib.size_eq T).trans (congrArg List.length h9)) (by rw [hn]; simp)
       | cons _ _ => rfl
      have hw2 : IntKind.i64.wrap ((T.size : Int) - 1) = (n : Nat) := by rw [IntWalk.i64_in _ (by omega)]; omega
      have HI2 := fun W => yAt_run T n (by omega) W
      obtain ⟨c, hc⟩ : ∃ c : Int, ((yAt T n).toNat : Int) = c := ⟨_, rfl⟩
      rw [hc] at HI2
      by_cases h13 : c = 13
      ·subst h13
       have HS2 := fun W => slT0 T n (by omega) W
       have hT2 := trim_yes hn (byt_is (k := 13) (by decide) hc)
       obtain ⟨T2, hTT⟩ : ∃ T2, T.extract 0 n = T2 := ⟨_, rfl⟩
       rw [hTT] at HS2 hT2
       obtain ⟨v', W', hrun, ht', hb'⟩ := APP.out T2
       have HRun := Lib.hid hrun
       have HN : Hid (Lib.trimSuffix (lnC' s f i) [13] = T2.data.toList) := Lib.hid (by rw [← HTL.out, hT2])
       have HB' := Lib.hid (And.intro ht' (H.out.2.2.trans hb'))
       clear hrun ht' hb' hz hc hTT hT2 hn hTz
       go_wp2_with (first | (at_builtin; refine wpList_append_eq rfl rfl rfl rfl HRun.out ?_; clear HRun) | fail)
       go_roundw
       case rel => exact ⟨i + 1, i + 1, _, by go_num, by go_num, by omega, Lib.hid ⟨by have := HE.out; rwa [HN.out] at this, HB'.out.1, HB'.out.2⟩⟩
       case measure => simp [RowKit.intOf]; omega
      ·have r13 : (c == 13) = false := beq_eq_false_iff_ne.2 h13
       have hT2 := trim_no hn (fun e => h13 (by rw [← hc, e]; rfl))
       obtain ⟨v', W', hrun, ht', hb'⟩ := APP.out T
       have HRun := Lib.hid hrun
       have HN : Hid (Lib.trimSuffix (lnC' s f i) [13] = T.data.toList) := Lib.hid (by rw [← HTL.out]; exact hT2.symm)
       have HB' := Lib.hid (And.intro ht' (H.out.2.2.trans hb'))
       clear hrun ht' hb' hz hc hT2 hn hTz
       go_wp2_with (first | (at_builtin; refine wpList_append_eq rfl rfl rfl rfl HRun.out ?_; clear HRun) | fail)
       go_roundw
       case rel => exact ⟨i + 1, i + 1, _, by go_num, by go_num, by omega, Lib.hid ⟨by have := HE.out; rwa [HN.out] at this, HB'.out.1, HB'.out.2⟩⟩
       case measure => simp [RowKit.intOf]; omega
    ·have r10 : (b == 10) = false := beq_eq_false_iff_ne.2 h10
     have HE := Lib.hid (H.out.1.skip hlt2 (fun e => h10 (by rw [← hb, e]; rfl)))
     clear hb hend hlt hfi
     go_wp2
     go_roundw
     case rel => exact ⟨f, i + 1, ws, rfl, by go_num, by omega, Lib.hid ⟨HE.out, H.out.2.1, H.out.2.2⟩⟩
     case measure => simp [RowKit.intOf]; omega
  ·have e1 : ¬ (i : Int) ≤ s.size := by omega
   have HE : Hid (lnsP s.data.toList = ws) := Lib.hid (by rcases H.out.1 with ⟨_, h, _⟩ | ⟨_, _, h, _⟩; omega; exact h)
   clear hlt
   go_wp2
   go_ret
   exact ⟨_, rfl, by rw [HE.out]; exact H.out.2.1, H.out.2.2⟩
end Go.Proofs.YthhepebkfokddaaGreatDoor
namespace Go.Kt
open Go

section
variable {P : Program} {ops : Array Oper} {Q : Exit → Act → World → Prop} {md : Region.Mode}

def GStep (P : Program) (md : Region.Mode) (ops : Array Oper) (Q : Exit → Act → World → Prop) (S : World → Prop) (R : World → World → Prop) (p : Nat → Value → World → Prop) (a0 : Act) (i : Nat) (o : Oper) : Prop :=
  ∀ a w, S w → Like ops a0 a → (∀ j k, waitsB md o j = true → slotB ops j k = true → p j (a.tmps.getD k undef) w) →
    (Region.wanted o (yielded ops a.tmps) = true ∧ o.wp P a w (fun a' w' => ∃ v, a' = a.put o.dst v ∧ S w' ∧ R w w' ∧ p i v w') Q) ∨ (Region.wanted o (yielded ops a.tmps) = false ∧ R w w ∧ p i undef w)
def GSteps (P : Program) (md : Region.Mode) (ops : Array Oper) (Q : Exit → Act → World → Prop) (S : World → Prop) (R : World → World → Prop) (p : Nat → Value → World → Prop) (a0 : Act) : Nat → List Oper → Prop
  | _, [] => True
  | i, o :: r => GStep P md ops Q S R p a0 i o ∧ GSteps P md ops Q S R p a0 (i + 1) r
theorem GSteps.get {S : World → Prop} {R : World → World → Prop} {p : Nat → Value → World → Prop} {a0 : Act} : ∀ (l : List Oper) (i : Nat), GSteps P md ops Q S R p a0 i l → ∀ j o, l[j]? = some o → GStep P md ops Q S R p a0 (i + j) o
  | [], _, _, j, o, h => by simp at h
  | x :: r, i, hs, 0, o, h => by simp at h; subst h; exact hs.1
  | x :: r, i, hs, j + 1, o, h => by
    have := GSteps.get r (i + 1) hs.2 j o (by simpa using h)
    rw [show i + (j + 1) = i + 1 + j by omega]; exact this

theorem wp_region_guarded {id : Nat} {a0 : Act} {w0 : World} (S : World → Prop) (R : World → World → Prop) (p : Nat → Value → World → Prop) (hm : P.follows .mixedOrders = true) (hap : apartB ops a0.tmps.size = true) (hfw : forwardB .any ops = true)
    (hS : S w0.drew) (hp : ∀ i v w w', S w → S w' → R w w' → p i v w → p i v w') (hs : GSteps P .any ops Q S R p a0 0 ops.toList)
    (hd : ∀ a w, S w → Like ops a0 a → (∀ j k, slotB ops j k = true → p j (a.tmps.getD k undef) w) → (∀ j, j < ops.size → ∃ v, p j v w) → Q .normal a w) : (Code.region id ops true).wp P Q a0 w0 := by
  have hdst : ∀ (i : Nat) (o : Oper) (k : Nat), ops[i]? = some o → o.dst = some k → k < a0.tmps.size ∧ ∀ (j : Nat) (oj : Oper), ops[j]? = some oj → oj.dst = some k → i = j := by
    intro i o k ho hk
    have hi := (Array.getElem?_eq_some_iff.1 ho).1
    have h1 := List.all_eq_true.1 hap i (List.mem_range.2 hi)
    have h2 : ops.getD i default = o := by simp [Array.getD_eq_getD_getElem?, ho]
    rw [h2, hk] at h1
    simp only [Bool.and_eq_true, decide_eq_true_eq] at h1
    refine ⟨h1.1, fun j oj hj hjk => ?_⟩
    have hj' := (Array.getElem?_eq_some_iff.1 hj).1
    have h3 := List.all_eq_true.1 h1.2 j (List.mem_range.2 hj')
    have h4 : ops.getD j default = oj := by simp [Array.getD_eq_getD_getElem?, hj]
    rw [h4, hjk] at h3
    simpa using h3
  refine wp_region_any hm ?_
  refine wpAny_inv (fun listed a w => listed.size = ops.size ∧ S w ∧ Like ops a0 a ∧ (∀ j, listed.getD j false = true → ∃ v, p j v w) ∧ ∀ j k, listed.getD j false = true → slotB ops j k = true → p j (a.tmps.getD k undef) w) ?_ ?_ _ _ _ _ ?_ ⟨by simp, hS, ⟨rfl, rfl, fun _ _ => rfl⟩, ?_, ?_⟩
  · rintro listed a w i ⟨hz, hSw, hL, hE, hP⟩ hi
    obtain ⟨hjun, o, ho, hall⟩ := mem_ready.1 hi
    have hilt := (Array.getElem?_eq_some_iff.1 ho).1
    have hst := GSteps.get ops.toList 0 hs i o (by simpa using ho)
    rw [Nat.zero_add] at hst
    have hst2 := hst a w hSw hL (fun j k hj hk => hP j k (by
      unfold waitsB at hj
      obtain ⟨e, he, h2⟩ := Array.any_eq_true'.1 hj
      simp only [Bool.and_eq_true, beq_iff_eq] at h2
      have := hall e he h2.2
      rw [h2.1] at this
      exact this) hk)
    suffices key : ∀ (v : Value) (w' : World), S w' → R w w' → p i v w' → (listed.setIfInBounds i true).size = ops.size ∧ S w' ∧ Like ops a0 (a.put o.dst v) ∧ (∀ j, (listed.setIfInBounds i true).getD j false = true → ∃ v, p j v w') ∧ ∀ j k, (listed.setIfInBounds i true).getD j false = true → slotB ops j k = true → p j ((a.put o.dst v).tmps.getD k undef) w' by
      rcases hst2 with ⟨hw, hx⟩ | ⟨hw, hR0, hp0⟩
      · unfold wpOp
        simp only [ho, hw, if_true]
        refine .inl (Oper.wp_mono ?_ hx)
        rintro a' w' ⟨v, rfl, hS', hR', hpv⟩
        exact key v w' hS' hR' hpv
      · unfold wpOp
        simp only [ho, hw, Bool.false_eq_true, if_false]
        exact key undef w hSw hR0 hp0
    intro v w' hS' hR' hpv
    refine ⟨by simpa using hz, hS', ⟨?_, ?_, fun k hk => ?_⟩, fun j hj => ?_, fun j k hj hk => ?_⟩
    · cases h : o.dst <;> exact hL.defers
    · cases h : o.dst
      · exact hL.size
      · simp only [Act.put, Array.size_setIfInBounds]; exact hL.size
    · cases h : o.dst with
      | none => exact hL.far k hk
      | some d =>
        have hne : d ≠ k := fun e => by
          subst e
          unfold outside at hk
          have := Array.all_eq_true.1 hk i hilt
          rw [(Array.getElem?_eq_some_iff.1 ho).2, h] at this
          simp at this
        simp only [Act.put, Array.getD_eq_getD_getElem?, Array.getElem?_setIfInBounds, if_neg hne]
        have := hL.far k hk
        simpa only [Array.getD_eq_getD_getElem?] using this
    · by_cases hji : j = i
      · subst hji; exact ⟨v, hpv⟩
      · have hjl : listed.getD j false = true := by
          simp only [Array.getD_eq_getD_getElem?, Array.getElem?_setIfInBounds, if_neg (Ne.symm hji)] at hj ⊢
          exact hj
        obtain ⟨u, hu⟩ := hE j hjl
        exact ⟨u, hp j _ w w' hSw hS' hR' hu⟩
    · obtain ⟨oj, hoj, hjk⟩ : ∃ oj, ops[j]? = some oj ∧ oj.dst = some k := by
        unfold slotB at hk
        cases h : ops[j]? with
        | none => rw [h] at hk; cases hk
        | some oj => rw [h] at hk; exact ⟨oj, rfl, by simpa using hk⟩
      by_cases hji : j = i
      · subst hji
        rw [hoj] at ho
        cases ho
        have hkz := (hdst j _ k hoj hjk).1
        rw [hjk]
        have : (a.put (some k) v).tmps.getD k undef = v := by
          have : k < a.tmps.size := by rw [hL.size]; exact hkz
          simp [Act.put, Array.getD_eq_getD_getElem?, this]
        rw [this]
        exact hpv
      · have hjl : listed.getD j false = true := by
          simp only [Array.getD_eq_getD_getElem?, Array.getElem?_setIfInBounds, if_neg (Ne.symm hji)] at hj ⊢
          exact hj
        have h1 := hp j _ w w' hSw hS' hR' (hP j k hjl hk)
        cases h : o.dst with
        | none => exact h1
        | some d =>
          have hne : d ≠ k := fun e => by
            subst e
            exact hji ((hdst i o d ho h).2 j oj hoj hjk).symm
          simp only [Act.put, Array.getD_eq_getD_getElem?, Array.getElem?_setIfInBounds, if_neg hne] at h1 ⊢
          exact h1
  · rintro listed a w ⟨hz, hSw, hL, hE, hP⟩ hr
    have hall : ∀ n j, j < n → j < ops.size → listed.getD j false = true := by
      intro n
      induction n with
      | zero => intro j h; omega
      | succ n ih =>
        intro j hjn hj
        cases hl : listed.getD j true with
        | true =>
          have : j < listed.size := by omega
          simpa [Array.getD_eq_getD_getElem?, this] using hl
        | false =>
          exfalso
          have hmem : j ∈ Region.ready .any ops listed := mem_ready.2 ⟨hl, ops[j], by simp [hj], fun e he hb => by
            have h1 := List.all_eq_true.1 hfw j (List.mem_range.2 hj)
            have h2 : ops.getD j default = ops[j] := by simp [Array.getD_eq_getD_getElem?, hj]
            rw [h2] at h1
            have h3 := Array.all_eq_true_iff_forall_mem.1 h1 e he
            rw [hb] at h3
            simp at h3
            exact ih e.on (by omega) (by omega)⟩
          rw [hr] at hmem
          cases hmem
    refine hd a w hSw hL (fun j k hk => hP j k (hall (j + 1) j (by omega) ?_) hk) (fun j hj => hE j (hall (j + 1) j (by omega) hj))
    unfold slotB at hk
    cases h : ops[j]? with
    | none => rw [h] at hk; cases hk
    | some oj => exact (Array.getElem?_eq_some_iff.1 h).1
  · unfold unlisted
    exact Nat.le_trans (List.length_filter_le _ _) (by simp)
  · intro j hj
    simp only [Array.getD_eq_getD_getElem?, Array.getElem?_replicate] at hj
    split at hj <;> simp at hj
  · intro j k hj
    simp only [Array.getD_eq_getD_getElem?, Array.getElem?_replicate] at hj
    split at hj <;> simp at hj
end
section
variable {P : Program} {ops : Array Oper} {Q : Exit → Act → World → Prop}
theorem GSteps.cons {S : World → Prop} {R : World → World → Prop} {p : Nat → Value → World → Prop} {a0 : Act} {md : Region.Mode} {i : Nat} {o : Oper} {r : List Oper}
    (h : GStep P md ops Q S R p a0 i o) (hr : GSteps P md ops Q S R p a0 (i + 1) r) : GSteps P md ops Q S R p a0 i (o :: r) := ⟨h, hr⟩
theorem GSteps.nil {S : World → Prop} {R : World → World → Prop} {p : Nat → Value → World → Prop} {a0 : Act} {md : Region.Mode} {i : Nat} : GSteps P md ops Q S R p a0 i [] := trivial
end
end Go.Kt
namespace Go.Proofs.YthhepebkfokddaaGreatDoor
open Go Go.RowKit Go.Kt Go.Kt.Rg Go.Maps
theorem exec_asgE {P : Program} {o : Oper} {a : Act} {w : World} {x : Operand} {u : Value} (ho : o.op = .assign x) (hx : a.eval x = u) : (execOp a.eval o).run P w = .ok (.value u) w := by
 unfold execOp; rw [ho]; simp only [hx]; rfl
theorem spn_some {l : List UInt8} {i : Nat} (h : Lib.index l [46, 46] = (i : Int)) : spnP l = spnO (numP (l.take i)) (numP (l.drop (i + 2))) := by
 unfold spnP Lib.cut
 rw [h, if_pos (by omega), Int.toNat_natCast]
 rfl
theorem spn_none {l : List UInt8} (h : Lib.index l [46, 46] = -1) : ((spnP l).2.1 : Int) = (pntP l).1 ∧ ((spnP l).2.2 : Int) = (pntP l).1 ∧ (spnP l).1 = (pntP l).2 := by
 have e : spnP l = spnO (numP l) (numP l) := by
  unfold spnP Lib.cut
  rw [h, if_neg (by omega)]
  rfl
 rw [e]
 unfold pntP
 cases numP l with
 | none => exact ⟨rfl, rfl, rfl⟩
 | some n =>
   rw [spnO_some]
   simp only
   by_cases hv : Lib.validRune (n : Int) = false
   ·rw [if_pos (.inl hv), if_pos hv]; exact ⟨rfl, rfl, rfl⟩
   ·rw [if_neg (fun h => by rcases h with h | h <;> exact hv h), if_neg (Nat.lt_irrefl n), if_neg hv]; exact ⟨rfl, rfl, rfl⟩
theorem oc_none {l : List UInt8} {i : Nat} (h : ∀ j, j < i → Lib.occAt l [46, 46] j = false) (hi : l.length ≤ i + 1) : Lib.index l [46, 46] = -1 := Lib.index_none fun j hj => by
 by_cases hlt : j < i
 ·exact h j hlt
 ·cases ho : Lib.occAt l [46, 46] j with
  | false => rfl
  | true =>
    exfalso
    rcases Lib.occAt_room ho with h2 | h2
    ·simp at h2; omega
    ·cases h2
def nmV (o : Option Nat) : Int := match o with
 | some n => (n : Int)
 | none => -1
theorem numG_V (l : List UInt8) : numG 16 4 6 l = nmV (numP l) := by rw [numG_P]; rfl
theorem slFE (T : ByteArray) (i : Nat) (hT : i ≤ T.size) (X : World) : (Instr.sliceAt 9 (.string T) (some (.int .i64 (i : Nat))) none none).run Tryz.prog X = .ok (.string (T.extract i T.size)) X := by
 have q : (i : Int) ≤ T.size := by omega
 go_simp
theorem ext_to (s : ByteArray) (i : Nat) : (s.extract 0 i).data.toList = s.data.toList.take i := by
 have := Lib.extract_toList s 0 i
 rw [ByteArray.toList_eq] at this
 rw [this]; simp
theorem ext_end (s : ByteArray) (i : Nat) : (s.extract i s.size).data.toList = s.data.toList.drop i := by
 have := Lib.extract_toList s i s.size
 rw [ByteArray.toList_eq] at this
 rw [this, List.take_of_length_le (by rw [List.length_drop, ← Lib.size_eq]; exact Nat.le_refl _)]
def pE5 (i : Nat) (s sA sB : ByteArray) (na nb : Int) (jx : Nat) (v : Value) (_W : World) : Prop := match jx with
 | 0 => v = .string s
 | 1 => v = .int .i64 (i : Nat)
 | 2 => v = .string sA
 | 3 => v = .int .i64 na
 | 4 => v = .string s
 | 5 => v = .int .i64 (i : Nat)
 | 6 => v = .int .i64 ((i + 2 : Nat) : Int)
 | 7 => v = .string sB
 | 8 => v = .int .i64 nb
 | 9 => v = .int .i64 na
 | 10 => v = .int .i64 nb
 | _ => True
set_option maxRecDepth 100000 in
set_option maxHeartbeats 4000000 in
theorem yends (s : ByteArray) (w : World) (hs : s.size ≤ 1048000) :
 Calls Tryz.prog 96 #[.string s] w fun e w' => e = .returned (.tuple #[.int .i64 ((spnP s.data.toList).2.1 : Nat), .int .i64 ((spnP s.data.toList).2.2 : Nat), .int .i64 ((spnP s.data.toList).1 : Nat)]) ∧ Below w.heap.size w w' := by
 have hln : s.data.toList.length = s.size := (Lib.size_eq s).symm
 have HLN := Lib.hid hln
 clear hln
 go_enter Tryz.func96, Tryz.ntmps96
 go_wp2_with fail
 go_loopw [5] (fun x wr => ∃ (i : Nat), x = .int .i64 (i : Nat) ∧ i ≤ s.size ∧ Hid ((∀ j, j < i → Lib.occAt s.data.toList [46, 46] j = false) ∧ Below w.heap.size w wr)) (fun x _ => s.size - (RowKit.intOf x).toNat)
 case atStart => exact ⟨0, rfl, Nat.zero_le _, Lib.hid ⟨fun j h => by omega, Below.refl _ _⟩⟩
 case round =>
  obtain ⟨i, rfl, hi, H⟩ := hrel
  have hk1 : IntKind.i64.wrap ((i : Int) + 1) = ((i + 1 : Nat) : Int) := by rw [IntWalk.i64_in _ (by omega)]; omega
  by_cases hlt : i + 1 < s.size
  ·have e1 : ((i + 1 : Nat) : Int) < s.size := by omega
   have hk2 : IntKind.i64.wrap ((i : Int) + 2) = ((i + 2 : Nat) : Int) := by rw [IntWalk.i64_in _ (by omega)]; omega
   have HS := fun W => slFT s i (i + 2) (by omega) (by omega) W
   obtain ⟨T, hT⟩ : ∃ T, s.extract i (i + 2) = T := ⟨_, rfl⟩
   have hTl : T.data.toList = (s.data.toList.drop i).take 2 := by
    rw [← hT]
    have := Lib.extract_toList s i (i + 2)
    rw [ByteArray.toList_eq] at this
    rw [this, Nat.add_sub_cancel_left]
   have hoc : Lib.occAt s.data.toList [46, 46] i = (T.data.toList == [46, 46]) := by
    rw [Lib.occAt_iff_take _ _ _ (by have := HLN.out; simp; omega), hTl]; rfl
   clear hTl
   by_cases hdd : T.data.toList = [46, 46]
   ·have hT1 : ((s.extract i (i + 2)).toList == [46, 46]) = true := by rw [hT, ByteArray.toList_eq, hdd]; rfl
    have hix : Lib.index s.data.toList [46, 46] = (i : Int) := Lib.index_first (by have := HLN.out; omega) (by rw [hoc, hdd]; rfl) H.out.1
    have hsp := spn_some hix
    have hslA := fun X => slT0 s i (by omega) X
    have hslB := fun X => slFE s (i + 2) (by omega) X
    have CA := Lib.hid (fun X => ynumber (s.extract 0 i) 16 4 6 X (by rw [ByteArray.size_extract]; omega) (.inl ⟨rfl, rfl, rfl⟩))
    have CB := Lib.hid (fun X => ynumber (s.extract (i + 2) s.size) 16 4 6 X (by rw [ByteArray.size_extract]; omega) (.inl ⟨rfl, rfl, rfl⟩))
    rw [numG_V, ext_to] at CA
    rw [numG_V, ext_end] at CB
    obtain ⟨sA, hsA⟩ : ∃ T, s.extract 0 i = T := ⟨_, rfl⟩
    obtain ⟨sB, hsB⟩ : ∃ T, s.extract (i + 2) s.size = T := ⟨_, rfl⟩
    rw [hsA] at CA hslA
    rw [hsB] at CB hslB
    obtain ⟨o1, ho1⟩ : ∃ o, numP (s.data.toList.take i) = o := ⟨_, rfl⟩
    obtain ⟨o2, ho2⟩ : ∃ o, numP (s.data.toList.drop (i + 2)) = o := ⟨_, rfl⟩
    rw [ho1] at CA hsp
    rw [ho2] at CB hsp
    have HSP := Lib.hid hsp
    have HB := Lib.hid H.out.2
    have hadd : ∀ (X : World) (x y : Operand), (do eqGuard .add 3 x y (.int .i64 (i : Nat)) (.int .i64 2); binOp .add 3 (.int .i64 (i : Nat)) (.int .i64 2) : Sem Value).run Tryz.prog X = .ok (.int .i64 ((i + 2 : Nat) : Int)) X := fun X x y => by go_simp
    obtain ⟨na, hna⟩ : ∃ x, nmV o1 = x := ⟨_, rfl⟩
    obtain ⟨nb, hnb⟩ : ∃ x, nmV o2 = x := ⟨_, rfl⟩
    rw [hna] at CA
    rw [hnb] at CB
    have HNA := Lib.hid (And.intro hna hnb)
    have CC := Lib.hid (fun n W => ychar n W)
    clear hsA hsB ho1 ho2 hsp hix hoc hdd hna hnb hlt hT
    go_wp2_with fail
    refine wp_region_guarded (fun X => Below wr.heap.size wr X) (fun U V => Below U.heap.size U V) (pE5 i s sA sB na nb) (by kernel_rfl) (by kernel_rfl) (by kernel_rfl) ?hS ?hp ?hs ?hd
    case hS => exact below_drewN (Below.refl _ _) 1
    case hp => exact fun i v U V _ _ _ hv => hv
    case hs =>
     refine GSteps.cons ?_ (GSteps.cons ?_ (GSteps.cons ?_ (GSteps.cons ?_ (GSteps.cons ?_ (GSteps.cons ?_ (GSteps.cons ?_ (GSteps.cons ?_ (GSteps.cons ?_ (GSteps.cons ?_ (GSteps.cons ?_ (GSteps.nil)))))))))))
     ·intro a X hX hL hd
      refine .inl ⟨rfl, ?_⟩
      have e0 : a.eval (.tmp 0) = .string s := hL.far 0 (by kernel_rfl)
      exact wp_value (exec_move rfl e0) ⟨_, rfl, hX, Below.refl _ _, rfl⟩
     ·intro a X hX hL hd
      refine .inl ⟨rfl, ?_⟩
      have e0 : a.eval (.tmp 5) = .int .i64 (i : Nat) := hL.far 5 (by kernel_rfl)
      exact wp_value (exec_move rfl e0) ⟨_, rfl, hX, Below.refl _ _, rfl⟩
     ·intro a X hX hL hd
      refine .inl ⟨rfl, ?_⟩
      have e0 : a.eval (.tmp 23) = .string s := hd 0 23 (by kernel_rfl) (by kernel_rfl)
      have e1 : a.eval (.tmp 24) = .int .i64 (i : Nat) := hd 1 24 (by kernel_rfl) (by kernel_rfl)
      exact wp_value (exec_slice rfl e0 rfl (by rw [Option.map_some, e1]) rfl (hslA X)) ⟨_, rfl, hX, Below.refl _ _, rfl⟩
     ·intro a X hX hL hd
      refine .inl ⟨rfl, ?_⟩
      have e0 : a.eval (.tmp 25) = .string sA := hd 2 25 (by kernel_rfl) (by kernel_rfl)
      refine wp_enter (exec_call (vs := #[.string sA, .int .i64 16, .int .i64 4, .int .i64 6]) rfl (by simp only [List.map_toArray, List.map_cons, List.map_nil, e0]; rfl) Tryz.func97 rfl rfl) ?_
      refine (CA.out X).mono ?_
      rintro e w' ⟨rfl, hb⟩
      exact ⟨_, rfl, _, rfl, hX.trans (hb.mono hX.size), hb, rfl⟩
     ·intro a X hX hL hd
      refine .inl ⟨rfl, ?_⟩
      have e0 : a.eval (.tmp 0) = .string s := hL.far 0 (by kernel_rfl)
      exact wp_value (exec_move rfl e0) ⟨_, rfl, hX, Below.refl _ _, rfl⟩
     ·intro a X hX hL hd
      refine .inl ⟨rfl, ?_⟩
      have e0 : a.eval (.tmp 5) = .int .i64 (i : Nat) := hL.far 5 (by kernel_rfl)
      exact wp_value (exec_move rfl e0) ⟨_, rfl, hX, Below.refl _ _, rfl⟩
     ·intro a X hX hL hd
      refine .inl ⟨rfl, ?_⟩
      have e0 : a.eval (.tmp 28) = .int .i64 (i : Nat) := hd 5 28 (by kernel_rfl) (by kernel_rfl)
      exact wp_value (exec_binop rfl e0 rfl (hadd X _ _)) ⟨_, rfl, hX, Below.refl _ _, rfl⟩
     ·intro a X hX hL hd
      refine .inl ⟨rfl, ?_⟩
      have e0 : a.eval (.tmp 27) = .string s := hd 4 27 (by kernel_rfl) (by kernel_rfl)
      have e1 : a.eval (.tmp 29) = .int .i64 ((i + 2 : Nat) : Int) := hd 6 29 (by kernel_rfl) (by kernel_rfl)
      exact wp_value (exec_slice rfl e0 (by rw [Option.map_some, e1]) rfl rfl (hslB X)) ⟨_, rfl, hX, Below.refl _ _, rfl⟩
     ·intro a X hX hL hd
      refine .inl ⟨rfl, ?_⟩
      have e0 : a.eval (.tmp 30) = .string sB := hd 7 30 (by kernel_rfl) (by kernel_rfl)
      refine wp_enter (exec_call (vs := #[.string sB, .int .i64 16, .int .i64 4, .int .i64 6]) rfl (by simp only [List.map_toArray, List.map_cons, List.map_nil, e0]; rfl) Tryz.func97 rfl rfl) ?_
      refine (CB.out X).mono ?_
      rintro e w' ⟨rfl, hb⟩
      exact ⟨_, rfl, _, rfl, hX.trans (hb.mono hX.size), hb, rfl⟩
     ·intro a X hX hL hd
      refine .inl ⟨rfl, ?_⟩
      have e0 : a.eval (.tmp 26) = .int .i64 na := hd 3 26 (by kernel_rfl) (by kernel_rfl)
      exact wp_value (exec_asgE rfl e0) ⟨_, rfl, hX, Below.refl _ _, rfl⟩
     ·intro a X hX hL hd
      refine .inl ⟨rfl, ?_⟩
      have e0 : a.eval (.tmp 31) = .int .i64 nb := hd 8 31 (by kernel_rfl) (by kernel_rfl)
      exact wp_value (exec_asgE rfl e0) ⟨_, rfl, hX, Below.refl _ _, rfl⟩
    case hd =>
     intro a X hX hL hd _
     have h6 : a.tmps.getD 6 undef = .int .i64 na := hd 9 6 (by kernel_rfl)
     have h7 : a.tmps.getD 7 undef = .int .i64 nb := hd 10 7 (by kernel_rfl)
     obtain ⟨f, ha, hf⟩ := hL.out [23, 24, 25, 26, 27, 28, 29, 30, 31, 6, 7] (by kernel_rfl)
     have h6' : f 6 = .int .i64 na := (hf 6).trans h6
     have h7' : f 7 = .int .i64 nb := (hf 7).trans h7
     simp only [List.foldl_cons, List.foldl_nil, List.setIfInBounds_toArray, List.set_cons_zero, List.set_cons_succ, h6', h7'] at ha
     clear hf hd hL h6 h7
     subst ha
     have HX := Lib.hid (HB.out.trans (hX.mono HB.out.size))
     clear hX
     have nofault : ∀ no : Nat, spnO o1 o2 = (no, 0, 0) → ∀ W, Below w.heap.size w W → (Ending.returned (.tuple #[.int .i64 0, .int .i64 0, .int .i64 (no : Nat)]) = .returned (.tuple #[.int .i64 ((spnP s.data.toList).2.1 : Nat), .int .i64 ((spnP s.data.toList).2.2 : Nat), .int .i64 ((spnP s.data.toList).1 : Nat)])) ∧ Below w.heap.size w W := fun no h W hW => by
      rw [HSP.out, h]; exact ⟨rfl, hW⟩
     have NF := Lib.hid nofault
     clear nofault CA CB hslA hslB
     cases o1 with
     | none =>
       obtain rfl : (-1 : Int) = na := HNA.out.1
       have HF : Hid (spnO none o2 = (11, 0, 0)) := Lib.hid (by unfold spnO; rfl)
       go_wp2
       go_ret3
       exact NF.out 11 HF.out _ HX.out
     | some lo =>
       obtain rfl : (lo : Int) = na := HNA.out.1
       have g1 : ¬ (lo : Int) < 0 := by omega
       cases o2 with
       | none =>
         obtain rfl : (-1 : Int) = nb := HNA.out.2
         have HF : Hid (spnO (some lo) none = (11, 0, 0)) := Lib.hid (by unfold spnO; rfl)
         go_wp2
         go_ret3
         exact NF.out 11 HF.out _ HX.out
       | some hi' =>
         obtain rfl : (hi' : Int) = nb := HNA.out.2
         have g2 : ¬ (hi' : Int) < 0 := by omega
         cases v1 : Lib.validRune (lo : Int) with
         | false =>
           have HF : Hid (spnO (some lo) (some hi') = (8, 0, 0)) := Lib.hid (by rw [spnO_some, if_pos (.inl v1)])
           have C1 := Lib.hid (fun W => v1 ▸ CC.out (lo : Int) W)
           clear v1
           go_wp2_with fail
           refine (C1.out _).mono ?_
           rintro e w2 ⟨rfl, hb2⟩
           have HB2 := Lib.hid (HX.out.trans (hb2.mono HX.out.size))
           clear hb2
           go_wp2
           go_ret3
           exact NF.out 8 HF.out _ HB2.out
         | true =>
           have C1 := Lib.hid (fun W => v1 ▸ CC.out (lo : Int) W)
           go_wp2_with fail
           refine (C1.out _).mono ?_
           rintro e w2 ⟨rfl, hb2⟩
           have HB2 := Lib.hid (HX.out.trans (hb2.mono HX.out.size))
           clear hb2
           cases v2 : Lib.validRune (hi' : Int) with
           | false =>
             have HF : Hid (spnO (some lo) (some hi') = (8, 0, 0)) := Lib.hid (by rw [spnO_some, if_pos (.inr v2)])
             have C2 := Lib.hid (fun W => v2 ▸ CC.out (hi' : Int) W)
             clear v1 v2
             go_wp2_with fail
             refine (C2.out _).mono ?_
             rintro e w3 ⟨rfl, hb3⟩
             have HB3 := Lib.hid (HB2.out.trans (hb3.mono HB2.out.size))
             clear hb3
             go_wp2
             go_ret3
             exact NF.out 8 HF.out _ HB3.out
           | true =>
             have hv : ¬ (Lib.validRune (lo : Int) = false ∨ Lib.validRune (hi' : Int) = false) := by rw [v1, v2]; decide
             have C2 := Lib.hid (fun W => v2 ▸ CC.out (hi' : Int) W)
             by_cases hlt : hi' < lo
             ·have HF : Hid (spnO (some lo) (some hi') = (1, 0, 0)) := Lib.hid (by rw [spnO_some, if_neg hv, if_pos hlt])
              have g3 : (hi' : Int) < lo := by omega
              clear v1 v2 hv hlt
              go_wp2_with fail
              refine (C2.out _).mono ?_
              rintro e w3 ⟨rfl, hb3⟩
              have HB3 := Lib.hid (HB2.out.trans (hb3.mono HB2.out.size))
              clear hb3
              go_wp2
              go_ret3
              exact NF.out 1 HF.out _ HB3.out
             ·have HF : Hid (spnO (some lo) (some hi') = (0, lo, hi')) := Lib.hid (by rw [spnO_some, if_neg hv, if_neg hlt])
              have g3 : (decide ((hi' : Int) < (lo : Int))) = false := by simp; omega
              have G3 := Lib.hid g3
              clear v1 v2 hv hlt g1 g2 g3
              go_wp2_with fail
              refine (C2.out _).mono ?_
              rintro e w3 ⟨rfl, hb3⟩
              have HB3 := Lib.hid (HB2.out.trans (hb3.mono HB2.out.size))
              clear hb3
              obtain ⟨x, hx⟩ : ∃ x : Int, (hi' : Int) = x := ⟨_, rfl⟩
              obtain ⟨y, hy⟩ : ∃ y : Int, (lo : Int) = y := ⟨_, rfl⟩
              have g3 := G3.out
              rw [hx, hy] at g3
              rw [hx, hy]
              have HXY := Lib.hid (And.intro hx hy)
              clear hx hy hs hk1 hk2 e1
              go_wp2
              go_ret3
              exact ⟨by rw [HSP.out, HF.out, ← HXY.out.1, ← HXY.out.2]; rfl, HB3.out⟩
   ·have hocf : Lib.occAt s.data.toList [46, 46] i = false := by rw [hoc]; simpa using hdd
    have hT1 : ((s.extract i (i + 2)).toList == [46, 46]) = false := by rw [hT, ByteArray.toList_eq]; simpa using hdd
    have HE := Lib.hid (show ∀ j, j < i + 1 → Lib.occAt s.data.toList [46, 46] j = false from fun j hj => by
     by_cases e : j = i
     ·subst e; exact hocf
     ·exact H.out.1 j (by omega))
    clear hdd hoc hocf hT
    go_wp2
    go_roundw
    case rel => exact ⟨i + 1, by go_num, by omega, Lib.hid ⟨HE.out, H.out.2⟩⟩
    case measure => simp [RowKit.intOf]; omega
  ·have e1 : ¬ ((i + 1 : Nat) : Int) < s.size := by omega
   obtain ⟨q1, q2, q3⟩ := spn_none (oc_none H.out.1 (by have := HLN.out; omega))
   have CP := Lib.hid (ypoint s wr (by omega))
   have HQ := Lib.hid (And.intro q1 (And.intro q2 q3))
   clear q1 q2 q3 hlt
   go_wp2_with fail
   refine CP.out.mono ?_
   rintro e w2 ⟨rfl, hb2⟩
   have HB := Lib.hid (H.out.2.trans (hb2.mono H.out.2.size))
   clear hb2
   go_wp2
   go_ret3
   exact ⟨by rw [HQ.out.1, HQ.out.2.1, HQ.out.2.2]; rfl, HB.out⟩
end Go.Proofs.YthhepebkfokddaaGreatDoor
namespace Go.Proofs.YthhepebkfokddaaGreatDoor
open Go Go.RowKit Go.Kt Go.Extern.Stop Go.Stop Go.Extern
abbrev fv (k l a : Int) : Value := .agg #[.int .i64 k, .int .i64 l, .int .i64 a]
def xComparable : Array Value → Sem Value := ReflectliteType.method fun t => do Rtype.noPackHeld "Comparable" t; pure (.bool (← typeInfo t).comparable)
end Go.Proofs.YthhepebkfokddaaGreatDoor
namespace Go.Proofs.YthhepebkfokddaaGreatDoor
open Go Go.RowKit Go.Kt Go.Extern.Stop Go.Stop Go.Extern
def xValueOf (args : Array Value) : Sem Value := ReflectliteValue.unpack (args.getD 0 (.tuple #[]))
def xType : Array Value → Sem Value := ReflectliteValue.methodAny (ReflectliteValue.valueError "reflectlite.Value.Type" 0) fun t _ _ _ => ReflectliteType.toType t
def xKind : Array Value → Sem Value := ReflectliteType.abiMethod fun t => do pure (.int .u8 (← Rtype.kind t))
def xIsNil : Array Value → Sem Value := ReflectliteValue.method (ReflectliteValue.valueError "reflectlite.Value.IsNil" 0) ReflectliteValue.isNil
def xElemT : Array Value → Sem Value := ReflectliteType.method ReflectliteType.elem
def xImplements : Array Value → Sem Value := ReflectliteType.relation "Implements" ReflectliteType.implements_
def xAssignable : Array Value → Sem Value := ReflectliteType.relation "AssignableTo" ReflectliteType.assignableTo
def xElemV : Array Value → Sem Value := ReflectliteValue.method (ReflectliteValue.valueError "reflectlite.Value.Elem" 0) ReflectliteValue.elem
def xSet : Array Value → Sem Value := ReflectliteValue.set
abbrev tyH (t : Nat) : Value := .pointer (some ⟨10, t, none⟩)
abbrev vagg (t : Nat) (a : Addr) (f : Int) : Value := .agg #[tyH t, .pointer (some a), .int .u64 f]
end Go.Proofs.YthhepebkfokddaaGreatDoor
namespace Go.Proofs.YthhepebkfokddaaGreatDoor
open Go Go.RowKit Go.Kt Go.Extern.Stop Go.Stop Go.Extern
def AsOut (g : Nat) (k l a : Int) (w : World) (e : Ending) (w' : World) : Prop :=
 e = .returned (.bool true) ∧ w'.heap[g]? = some (.cells #[.int .i64 k, .int .i64 l, .int .i64 a] 90 (0, 0)) ∧ Keep (fun b => b = g) w w'
end Go.Proofs.YthhepebkfokddaaGreatDoor
namespace Go.Proofs.YthhepebkfokddaaGreatDoor
open Go Go.RowKit Go.Kt
end Go.Proofs.YthhepebkfokddaaGreatDoor
