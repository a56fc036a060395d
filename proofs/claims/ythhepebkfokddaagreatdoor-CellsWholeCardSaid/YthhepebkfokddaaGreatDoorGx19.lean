/- Parts of the proof of what the last text says. -/
import Derived.Test.YthhepebkfokddaaGreatDoorGx17
import Derived.Test.YthhepebkfokddaaGreatDoorGx18
import Derived.Test.YthhepebkfokddaaGreatDoorGx12
import Derived.Test.YthhepebkfokddaaGreatDoorGx3
import Derived.Lib.AppendZeros
import Derived.Test.YthhepebkfokddaaGreatDoorJix
import Derived.Test.YthhepebkfokddaaGreatDoorGx11
namespace Go.Proofs.YthhepebkfokddaaGreatDoor
open Go Go.RowKit Go.Kt
def withP (s : ByteArray) (a : Int) : Bool := decide (1 < (decP s (a - 1)).2) || decide (2 < (decP s (a - 2)).2) || decide (3 < (decP s (a - 3)).2)
def edgP (S : RdS) (s : ByteArray) (a : Int) : Bool :=
 if s.size = 0 ∨ a < 0 ∨ s.size < a then false else if a = 0 ∨ a = s.size then true else if withP s a then false else edgU (untP S s (a - (befP s a).2)) (untP S s a)
theorem within_back (s : ByteArray) (i k : Nat) (hi : i < s.size) (h1 : 1 ≤ k) (h : (k : Int) < (decP s ((i : Int) - k)).2) : i ∉ PL s := by
 by_cases hk : k ≤ i
 ·obtain ⟨p, rfl⟩ : ∃ p, i = p + k := ⟨i - k, by omega⟩
  rw [show ((p + k : Nat) : Int) - k = (p : Int) by omega, decP_in s p (by omega)] at h
  simp only at h
  rcases decode_wide s p (by omega) with ⟨_, h4⟩ | ⟨u, u1, u4, u5, h6, h7⟩
  ·rw [h4] at h
   simp only at h
   omega
  ·exact no_unit_within s p u (p + k) (by omega) u1 u4 h6 (by omega) (by omega) s.size 0 (Nat.zero_le _)
 ·exfalso
  unfold decP at h
  rw [if_neg (by omega)] at h
  simp only at h
  omega
theorem withP_iff (s : ByteArray) (i : Nat) (hi : i < s.size) : withP s i = true ↔ i ∉ PL s := by
 constructor
 ·intro h
  unfold withP at h
  simp only [Bool.or_eq_true, decide_eq_true_eq] at h
  rcases h with (h | h) | h
  ·exact within_back s i 1 hi (by omega) (by simpa using h)
  ·exact within_back s i 2 hi (by omega) (by simpa using h)
  ·exact within_back s i 3 hi (by omega) (by simpa using h)
 ·intro h
  obtain ⟨n, hn, h1, h2⟩ := unit_of s i hi
  have hne : pos s n ≠ i := fun e => h (e ▸ pos_mem s n hn)
  have hst := pos_step s n hn
  have hsu := pos_succ s n hn
  have hlt := pos_lt s n hn
  have key : ∀ k : Nat, i = pos s n + k → (k : Int) < (decP s ((i : Int) - k)).2 := fun k hk => by
   rw [show (i : Int) - k = (pos s n : Int) by omega, decP_in s _ hlt]
   simp only
   omega
  unfold withP
  simp only [Bool.or_eq_true, decide_eq_true_eq]
  rcases (by omega : i = pos s n + 1 ∨ i = pos s n + 2 ∨ i = pos s n + 3) with e | e | e
  ·exact .inl (.inl (by simpa using key 1 e))
  ·exact .inl (.inr (by simpa using key 2 e))
  ·exact .inr (by simpa using key 3 e)
theorem edgP_unit (S : RdS) (s : ByteArray) (n : Nat) (hn : n + 1 < (units s).length) : edgP S s (pos s (n + 1)) = edgU (untP S s (pos s n)) (untP S s (pos s (n + 1))) := by
 have hlt := pos_lt s (n + 1) hn
 have hst := (pos_step s n (by omega)).1
 have hw : withP s (pos s (n + 1)) = false := by
  have := (withP_iff s (pos s (n + 1)) hlt)
  cases hb : withP s (pos s (n + 1)) with
  | false => rfl
  | true => exact absurd (pos_mem s (n + 1) hn) (this.1 hb)
 have hb := before_unit s (pos s n) (pos_lt s n (by omega)) (pos_mem s n (by omega))
 have hsu := pos_succ s n (by omega)
 unfold edgP
 rw [if_neg (by omega), if_neg (by omega), hw]
 simp only [Bool.false_eq_true, if_false]
 rw [show ((pos s (n + 1) : Nat) : Int) = (pos s n : Int) + (Utf8.decode s (pos s n)).2 by omega, hb]
 simp only
 rw [Int.add_sub_cancel]
theorem edgP_within (S : RdS) (s : ByteArray) (i : Nat) (h0 : 0 < i) (hi : i < s.size) (h : i ∉ PL s) : edgP S s i = false := by
 unfold edgP
 rw [if_neg (by omega), if_neg (by omega), (withP_iff s i hi).2 h]
 rfl
theorem edgP_ends (S : RdS) (s : ByteArray) (a : Int) (h : a = 0 ∨ a = s.size) : edgP S s a = decide (s.size ≠ 0) := by
 unfold edgP
 by_cases hz : s.size = 0
 ·rw [if_pos (.inl hz)]; simp [hz]
 ·rw [if_neg (by omega), if_pos h]; simp [hz]
def celStep (S : RdS) (s : ByteArray) (z : List (Nat × Nat) × Nat × CU) (p : Nat × Nat) : List (Nat × Nat) × Nat × CU :=
 if 0 < p.1 ∧ edgU z.2.2 (untP S s p.1) = true then (z.1 ++ [(z.2.1, p.1)], p.1, untP S s p.1) else (z.1, z.2.1, untP S s p.1)
def celF (S : RdS) (s : ByteArray) (l : List (Nat × Nat)) : List (Nat × Nat) × Nat × CU := l.foldl (celStep S s) ([], 0, ⟨0, false, false, false, 0⟩)
def celL (S : RdS) (s : ByteArray) : List (Nat × Nat) := if s.size = 0 then [] else (celF S s (units s)).1 ++ [((celF S s (units s)).2.1, s.size)]
theorem celF_snoc (S : RdS) (s : ByteArray) (l : List (Nat × Nat)) (p : Nat × Nat) : celF S s (l ++ [p]) = celStep S s (celF S s l) p := by simp [celF]
theorem celF_pre (S : RdS) (s : ByteArray) (l r : List (Nat × Nat)) : (celF S s l).1 <+: (celF S s (l ++ r)).1 := by
 induction r generalizing l with
 | nil => rw [List.append_nil]; exact List.prefix_refl _
 | cons p t ih =>
   have h1 : (celF S s l).1 <+: (celF S s (l ++ [p])).1 := by
    rw [celF_snoc]
    unfold celStep
    split
    ·exact List.prefix_append _ _
    ·exact List.prefix_refl _
   have h2 := ih (l ++ [p])
   rw [List.append_assoc, List.singleton_append] at h2
   exact h1.trans h2
theorem celL_pre (S : RdS) (s : ByteArray) (l : List (Nat × Nat)) (h : l <+: units s) (hs : s.size ≠ 0) : (celF S s l).1 <+: celL S s := by
 obtain ⟨r, hr⟩ := h
 unfold celL
 rw [if_neg hs, ← hr]
 exact (celF_pre S s l r).trans (List.prefix_append _ _)
theorem untP_han (S : RdS) (s : ByteArray) (a : Int) : 0 ≤ (untP S s a).han ∧ (untP S s a).han ≤ 5 := by
 unfold untP
 split
 ·exact ⟨by decide, by decide⟩
 ·exact hanK_in _
theorem celF_han (S : RdS) (s : ByteArray) (l : List (Nat × Nat)) : 0 ≤ (celF S s l).2.2.han ∧ (celF S s l).2.2.han ≤ 5 := by
 rcases List.eq_nil_or_concat l with rfl | ⟨r, p, rfl⟩
 ·exact ⟨Int.le_refl 0, (by decide : (0 : Int) ≤ 5)⟩
 ·rw [List.concat_eq_append, celF_snoc]
  unfold celStep
  split
  ·exact untP_han S s _
  ·exact untP_han S s _
end Go.Proofs.YthhepebkfokddaaGreatDoor
namespace Go.Proofs.YthhepebkfokddaaGreatDoor
open Go Go.RowKit Go.Kt Go.Kt.Rg Go.Maps
def toZ (l : List Nat) : List Int := l.map fun x : Nat => (x : Int)
theorem toZ_len (l : List Nat) : (toZ l).length = l.length := by simp [toZ]
def encZ (l : List Int) : List Value := l.map fun x => .int .i32 x
def NewZ (H : Nat) (l : List Int) (e : Ending) (w' : World) : Prop :=
 ∃ ao cp, e = .returned (.slice ao l.length cp) ∧ OwnS (fun b => H ≤ b) 21 1 (.slice ao l.length cp) l.length (encZ l) w'
def dcpV (S : RdS) (r : Int) : List Nat := if sylP r then partsP (r - 44032).toNat else (atZ S.ds r).getD []
def fldV (S : RdS) (r : Int) : List Int := match atZ S.fs r with
 | some l => toZ l
 | none => [r]
set_option maxRecDepth 100000 in
theorem DecM.look1 {ρ : Nat → Nat} {k B n : Nat} {d : Nat → Option (List Nat)} {w : World} (h : DecM ρ k B n d w) {r : Int} (hr : I32 r) :
 ∃ v, (Instr.lookup 54 (.map (some B)) (.int .i32 r) false).run Tryz.prog w = .ok v w ∧ (Instr.lookup 54 (.map (some B)) (.int .i32 r) true).run Tryz.prog w = .ok (.tuple #[v, .bool (atZ d r).isSome]) w ∧
  ((atZ d r = none ∧ v = .slice none 0 0) ∨ ∃ l, atZ d r = some l ∧ PtV ρ v l w) := by
 obtain ⟨_, vs, h1, h2, h3⟩ := h
 have hkey : keyOf Tryz.prog 21 (.int .i32 r) = some (.int .i32 r) := keyOf_int_mk Tryz.underlying21 hr.wf
 have hl1 := h1.look1 (int_keyed Tryz.underlying21) Tryz.underlying54 (z := .slice none 0 0) rfl hkey
 have hl2 := h1.look (int_keyed Tryz.underlying21) Tryz.underlying54 (z := .slice none 0 0) rfl hkey
 rw [ptF_atZ] at hl1 hl2
 have hs : (atZ vs r).isSome = (atZ d r).isSome := by
  unfold atZ
  split
  ·exact h2 _
  ·rfl
 rw [hs] at hl2
 refine ⟨_, hl1, hl2, ?_⟩
 cases hv : atZ vs r with
 | none =>
   rw [hv] at hs
   refine .inl ⟨?_, rfl⟩
   cases hd : atZ d r with
   | none => rfl
   | some l => rw [hd] at hs; cases hs
 | some v =>
   rw [hv] at hs
   cases hd : atZ d r with
   | none => rw [hd] at hs; cases hs
   | some l =>
     refine .inr ⟨l, rfl, ?_⟩
     unfold atZ at hv hd
     by_cases h0 : 0 ≤ r
     ·rw [if_pos h0] at hv hd
      exact h3 _ _ _ hv hd
     ·rw [if_neg h0] at hv; cases hv
end Go.Proofs.YthhepebkfokddaaGreatDoor
namespace Go.Proofs.YthhepebkfokddaaGreatDoor
open Go Go.RowKit Go.Kt Go.Kt.Rg
def SlW (w : World) (v : Value) (l : List (Nat × Nat × Int)) : Prop :=
 ∃ ao cp, v = .slice ao l.length cp ∧ (l = [] ∨ ∃ g, ao = some ⟨g, 0, none⟩ ∧ ∀ (i : Nat) (r : Nat × Nat × Int), l[i]? = some r → w.cell? ⟨g, i * 3, none⟩ = some (.int .i32 r.1) ∧ w.cell? ⟨g, i * 3 + 1, none⟩ = some (.int .i32 r.2.1) ∧ w.cell? ⟨g, i * 3 + 2, none⟩ = some (.int .i64 r.2.2))
theorem SlW.below {v : Value} {l : List (Nat × Nat × Int)} {A B : World} (h : SlW A v l) (hb : Below A.heap.size A B) : SlW B v l := by
 obtain ⟨ao, cp, rfl, h⟩ := h
 refine ⟨ao, cp, rfl, ?_⟩
 rcases h with h | ⟨g, e, h⟩
 ·exact .inl h
 ·exact .inr ⟨g, e, fun i r hr => ⟨(hb.cell (lt_of_cell (h i r hr).1)).trans (h i r hr).1, (hb.cell (lt_of_cell (h i r hr).2.1)).trans (h i r hr).2.1, (hb.cell (lt_of_cell (h i r hr).2.2)).trans (h i r hr).2.2⟩⟩
theorem rwE_len (l : List (Nat × Nat × Int)) : (rwE l).length = l.length * 3 := by
 induction l with
 | nil => rfl
 | cons x t ih => simp [rwE] at ih ⊢; omega
theorem rwE_append (l m : List (Nat × Nat × Int)) : rwE (l ++ m) = rwE l ++ rwE m := by simp [rwE]
theorem rwE_get (l : List (Nat × Nat × Int)) (i : Nat) (x : Nat × Nat × Int) (h : l[i]? = some x) : (rwE l)[i * 3]? = some (.int .i32 x.1) ∧ (rwE l)[i * 3 + 1]? = some (.int .i32 x.2.1) ∧ (rwE l)[i * 3 + 2]? = some (.int .i64 x.2.2) := by
 induction l generalizing i with
 | nil => cases h
 | cons y t ih =>
   have e : rwE (y :: t) = [.int .i32 y.1, .int .i32 y.2.1, .int .i64 y.2.2] ++ rwE t := by simp [rwE]
   cases i with
   | zero =>
     simp at h
     subst h
     rw [e]
     simp
   | succ i =>
     simp at h
     have h9 := ih i h
     rw [e, show (i + 1) * 3 = i * 3 + 3 by omega]
     refine ⟨?_, ?_, ?_⟩
     ·rw [List.getElem?_append_right (by simp)]
      simpa using h9.1
     ·rw [List.getElem?_append_right (by simp)]
      rw [show i * 3 + 3 + 1 - [Value.int .i32 y.1, .int .i32 y.2.1, .int .i64 y.2.2].length = i * 3 + 1 by simp]
      exact h9.2.1
     ·rw [List.getElem?_append_right (by simp)]
      rw [show i * 3 + 3 + 2 - [Value.int .i32 y.1, .int .i32 y.2.1, .int .i64 y.2.2].length = i * 3 + 2 by simp]
      exact h9.2.2
theorem own_slw {Y : Nat → Prop} {v : Value} {l : List (Nat × Nat × Int)} {w : World} (h : OwnS Y 106 3 v l.length (rwE l) w) : SlW w v l := by
 rcases h.shape with ⟨hv, h0⟩ | ⟨gb, cap, hv, hg, hgl⟩
 ·exact ⟨none, 0, by rw [hv, h0], .inl (List.length_eq_zero_iff.1 h0)⟩
 ·refine ⟨_, cap, hv, .inr ⟨gb, rfl, fun i r hr => ?_⟩⟩
  subst hv
  obtain ⟨e1, e2, e3⟩ := rwE_get l i r hr
  exact ⟨h.atN e1, h.atN e2, h.atN e3⟩
theorem SlW.rows {w : World} {v : Value} {l : List (Nat × Nat × Int)} (h : OwnS (fun _ => True) 106 3 v l.length (rwE l) w) (hne : l ≠ []) : RowsV v l w := by
 rcases h.shape with ⟨_, h0⟩ | ⟨gb, cap, hv, hg, hgl⟩
 ·exact absurd (List.length_eq_zero_iff.1 h0) hne
 ·subst hv
  have hc : l.length ≤ cap := by
   rcases h.1.2 with ⟨hv, _⟩ | ⟨g', cap', cur, hv, _, hgg, hnc, hcm, _⟩
   ·cases hv
   ·cases hv; exact hnc
  refine ⟨gb, cap, rfl, hc, fun i r hr => ?_⟩
  obtain ⟨e1, e2, e3⟩ := rwE_get l i r hr
  exact ⟨h.atN e1, h.atN e2, h.atN e3⟩
theorem append_slw {B : Nat} {v x : Value} {l m : List (Nat × Nat × Int)} {W : World} (hown : OwnS (fun b => B ≤ b) 106 3 v l.length (rwE l) W) (hBW : B ≤ W.heap.size) (hS : SlW W x m) (hn : l.length + m.length ≤ 2199023255552) :
 ∃ v' w', (∀ ty, (Builtin.append_ #[53, 53] ty #[v, x]).run Tryz.prog W = .ok v' w') ∧ OwnS (fun b => B ≤ b) 106 3 v' (l ++ m).length (rwE (l ++ m)) w' ∧ Keep (fun b => v.ownBlock = some b) W w' := by
 obtain ⟨i, hi, hz, hs1, hb1⟩ := info_parts tinfoRow
 obtain ⟨ao, cap, rfl, h⟩ := hS
 cases ao with
 | none =>
   have hm : m = [] := by
    rcases h with h | ⟨g, e, _⟩
    ·exact h
    ·cases e
   subst hm
   refine ⟨v, W, fun ty => append_no_more _ ty _ i 3 Tryz.underlying53 hi v _ _ hown.1 cap, ?_, Keep.refl _ _⟩
   rw [List.append_nil]; exact hown
 | some a =>
   have hcell : ∀ j u, (rwE m)[j]? = some u → W.cell? (a.add j) = some u := by
    intro j u hj
    rcases h with h | ⟨g, e, h⟩
    ·subst h; simp [rwE] at hj
    ·obtain rfl := Option.some.inj e
     have hjl : j < m.length * 3 := by rw [← rwE_len]; exact (List.getElem?_eq_some_iff.1 hj).1
     obtain ⟨y, hy⟩ : ∃ y, m[j / 3]? = some y := ⟨_, List.getElem?_eq_getElem (by omega)⟩
     have e := rwE_get m _ y hy
     have c := h _ y hy
     rw [Addr.add_lit, Nat.zero_add]
     rcases (by omega : j % 3 = 0 ∨ j % 3 = 1 ∨ j % 3 = 2) with k | k | k
     ·rw [show j / 3 * 3 = j by omega] at e c
      rw [e.1] at hj
      rw [c.1]; exact hj
     ·rw [show j / 3 * 3 + 1 = j by omega] at e c
      rw [e.2.1] at hj
      rw [c.2.1]; exact hj
     ·rw [show j / 3 * 3 + 2 = j by omega] at e c
      rw [e.2.2] at hj
      rw [c.2.2]; exact hj
   have h1 : ∀ u ∈ rwE m, u.oneCell' = true := by
    intro u hu
    simp only [rwE, List.mem_flatMap] at hu
    obtain ⟨y, _, hy⟩ := hu
    simp at hy
    rcases hy with rfl | rfl | rfl <;> rfl
   obtain ⟨v', w', hrun, r1, r2, _⟩ := run_append_own (P := Tryz.prog) W B 53 0 106 i _ 3 16 Tryz.underlying53 hi hz hs1 hb1 rfl (by omega) v l.length (rwE l) (own_to_base hown (fun _ h => h)) a m.length cap (rwE m) (rwE_len m) hcell h1
    (by unfold maxLen; omega) (by omega) hBW
   refine ⟨v', w', fun ty => hrun, ?_, keep_grown r2⟩
   rw [List.length_append, rwE_append]
   exact own_from_base r1
set_option maxRecDepth 100000 in
theorem pgrow_any (n : Nat) (w : World) (hn : n ≤ 2199023255552) :
 Calls Tryz.prog 92 #[.slice none 0 0, .int .i64 n] w fun e w' => ∃ v, e = .returned v ∧ OwnS (fun b => w.heap.size ≤ b) 106 3 v 0 (rwE []) w' ∧ Below w.heap.size w w' := by
 obtain ⟨i, hi, hz, hs1, hb1⟩ := info_parts tinfoRow
 by_cases h0 : n = 0
 ·subst h0
  go_enter Tryz.func92, Tryz.ntmps92
  go_wp2
  go_ret
  exact ⟨_, rfl, own_nil _ _ _ _, Below.refl _ _⟩
 ·have hn0 : 0 < (n : Int) := by omega
  have happ := Lib.run_append_nil_zeros (P := Tryz.prog) w 53 3 0 106 i _ .i64 .i64 Tryz.underlying53 Tryz.underlying3 hi hz n (by omega) (by rw [hs1]; omega) (by omega) (by rw [hb1]; omega)
  have hge := grownCap_ge w n 0 106
  have hcm : grownCap w n 0 106 ≤ maxLen := grownCap_le_maxLen w n 0 106 (by unfold maxLen; omega)
  have hml : maxLen ≤ 9223372036854775807 := by unfold maxLen; omega
  generalize grownCap w n 0 106 = C at *
  have HR : Hid (∀ ty, (Builtin.append_ #[53, 3] ty #[.slice none 0 0, .int .i64 n]).run Tryz.prog w = _) := Lib.hid fun ty => happ
  obtain ⟨V, hV⟩ : ∃ V, w.drew.alloc (.cells (Builtin.zeroCells (Value.agg #[.int .i32 0, .int .i32 0, .int .i64 0]).cells n ++ Builtin.zeroCells (Value.agg #[.int .i32 0, .int .i32 0, .int .i64 0]).cells (C - n)) 106) = V := ⟨_, rfl⟩
  rw [hV] at HR
  have ho : OwnS (fun b => w.heap.size ≤ b) 106 3 (.slice (some ⟨w.heap.size, 0, none⟩) 0 C) 0 (rwE []) V := by
   refine ⟨⟨rfl, .inr ⟨w.heap.size, C, _, rfl, Nat.zero_le _, by rw [← hV]; exact heap_alloc_new w.drew _, Nat.zero_le _, hcm, ?_, rfl⟩⟩, fun g hg => by cases hg; exact Nat.le_refl _⟩
   rw [Array.size_append, size_zeroCells, size_zeroCells]
   show n * 3 + (C - n) * 3 = C * 3
   omega
  have hb : Below w.heap.size w V := by rw [← hV]; exact (show Below w.heap.size w w.drew from below_drewN (Below.refl _ w) 1).alloc (Nat.le_refl _) _
  have HO := Lib.hid (And.intro ho hb)
  have hC : (C : Int) ≤ 9223372036854775807 := by omega
  clear happ hV ho hb hcm hml
  go_enter Tryz.func92, Tryz.ntmps92
  go_wp2_with (at_builtin; refine wpList_append_eq rfl rfl rfl rfl HR.out ?_)
  go_ret
  exact ⟨_, rfl, HO.out.1, HO.out.2⟩
def catW (l1 l2 l3 : List (Nat × Nat × Int)) : Nat → List (Nat × Nat × Int)
 | 0 => []
 | 1 => l1
 | 2 => l1 ++ l2
 | _ => l1 ++ l2 ++ l3
set_option maxRecDepth 100000 in
set_option maxHeartbeats 2000000 in
theorem pconcat_any (l1 l2 l3 : List (Nat × Nat × Int)) (v1 v2 v3 : Value) (h : Nat) (w : World) (c1 : w.cell? ⟨h, 0, none⟩ = some v1) (c2 : w.cell? ⟨h, 1, none⟩ = some v2) (c3 : w.cell? ⟨h, 2, none⟩ = some v3) (h1 : SlW w v1 l1) (h2 : SlW w v2 l2) (h3 : SlW w v3 l3) (m1 : l1.length ≤ 1112192) (m2 : l2.length ≤ 1112192) (m3 : l3.length ≤ 1112192) :
 Calls Tryz.prog 50 #[.slice (some ⟨h, 0, none⟩) 3 3] w fun e w' => ∃ v, e = .returned v ∧ OwnS (fun b => w.heap.size ≤ b) 106 3 v (l1 ++ l2 ++ l3).length (rwE (l1 ++ l2 ++ l3)) w' ∧ Below w.heap.size w w' := by
 have H1 := Lib.hid h1
 have H2 := Lib.hid h2
 have H3 := Lib.hid h3
 obtain ⟨a1, cp1, rfl, _⟩ := h1
 obtain ⟨a2, cp2, rfl, _⟩ := h2
 obtain ⟨a3, cp3, rfl, _⟩ := h3
 obtain ⟨n1, hn1⟩ : ∃ n, l1.length = n := ⟨_, rfl⟩
 obtain ⟨n2, hn2⟩ : ∃ n, l2.length = n := ⟨_, rfl⟩
 obtain ⟨n3, hn3⟩ : ∃ n, l3.length = n := ⟨_, rfl⟩
 rw [hn1] at c1 m1 H1
 rw [hn2] at c2 m2 H2
 rw [hn3] at c3 m3 H3
 have HN := Lib.hid (And.intro hn1 (And.intro hn2 hn3))
 have CG0 := pgrow_any (n1 + n2 + n3) w (by omega)
 rw [Int.natCast_add, Int.natCast_add] at CG0
 have CG := Lib.hid CG0
 clear CG0
 have lh := lt_of_cell c1
 clear hn1 hn2 hn3
 go_enter Tryz.func50, Tryz.ntmps50
 go_wp2
 go_loop [3, 11] (fun a x => ∃ k : Nat, x = .int .i64 k ∧ ((k = 0 ∧ a = .int .i64 0) ∨ (k = 1 ∧ a = .int .i64 n1) ∨ (k = 2 ∧ a = .int .i64 ((n1 : Int) + n2)) ∨ (k = 3 ∧ a = .int .i64 ((n1 : Int) + n2 + n3)))) (fun _ x => 3 - (RowKit.intOf x).toNat)
 case atStart => exact ⟨0, rfl, .inl ⟨rfl, rfl⟩⟩
 case round =>
  obtain ⟨k, rfl, hk⟩ := hrel
  rcases hk with ⟨rfl, rfl⟩ | ⟨rfl, rfl⟩ | ⟨rfl, rfl⟩ | ⟨rfl, rfl⟩
  ·go_wp2
   go_round
   case rel => exact ⟨1, by go_num, .inr (.inl ⟨rfl, by go_num⟩)⟩
   case measure => simp [RowKit.intOf]
  ·go_wp2
   go_round
   case rel => exact ⟨2, by go_num, .inr (.inr (.inl ⟨rfl, by go_num⟩))⟩
   case measure => simp [RowKit.intOf]
  ·go_wp2
   go_round
   case rel => exact ⟨3, by go_num, .inr (.inr (.inr ⟨rfl, by go_num⟩))⟩
   case measure => simp [RowKit.intOf]
  ·go_wp2_with fail
   refine CG.out.mono ?_
   rintro e w1 ⟨v0, rfl, ho, hb⟩
   have q1 := (hb.cell lh).trans c1
   have q2 := (hb.cell lh).trans c2
   have q3 := (hb.cell lh).trans c3
   have HO := Lib.hid (And.intro ho hb)
   clear ho hb
   go_wp2_with fail
   go_loopw [6, 27] (fun s x wr => ∃ k : Nat, x = .int .i64 k ∧ k ≤ 3 ∧ OwnS (fun b => w.heap.size ≤ b) 106 3 s (catW l1 l2 l3 k).length (rwE (catW l1 l2 l3 k)) wr ∧ Below w.heap.size w wr) (fun _ x _ => 3 - (RowKit.intOf x).toNat)
   case atStart => exact ⟨0, rfl, by omega, HO.out.1, HO.out.2⟩
   case round =>
    obtain ⟨k, rfl, hk, ho2, hb2⟩ := hrel
    have HI := Lib.hid (And.intro ho2 hb2)
    have z1 := (hb2.cell lh).trans c1
    have z2 := (hb2.cell lh).trans c2
    have z3 := (hb2.cell lh).trans c3
    clear ho2 hb2 q1 q2 q3
    rcases (by omega : k = 0 ∨ k = 1 ∨ k = 2 ∨ k = 3) with rfl | rfl | rfl | rfl
    ·obtain ⟨v', w', hrun, hown, hkp⟩ := append_slw HI.out.1 HI.out.2.size (H1.out.below HI.out.2) (by show 0 + l1.length ≤ _; rw [HN.out.1]; omega)
     have hbb := HI.out.2.trans (hkp.below HI.out.2.size fun b h => HI.out.1.2 b h)
     have HRun := Lib.hid hrun
     have HG := Lib.hid (And.intro hown hbb)
     clear hrun hown hkp hbb
     go_wp2_with (at_builtin; refine wpList_append_eq rfl rfl rfl rfl HRun.out ?_)
     go_roundw
     case rel => exact ⟨1, by go_num, by omega, HG.out.1, HG.out.2⟩
     case measure => simp [RowKit.intOf]
    ·obtain ⟨v', w', hrun, hown, hkp⟩ := append_slw HI.out.1 HI.out.2.size (H2.out.below HI.out.2) (by show l1.length + l2.length ≤ _; rw [HN.out.1, HN.out.2.1]; omega)
     have hbb := HI.out.2.trans (hkp.below HI.out.2.size fun b h => HI.out.1.2 b h)
     have HRun := Lib.hid hrun
     have HG := Lib.hid (And.intro hown hbb)
     clear hrun hown hkp hbb
     go_wp2_with (at_builtin; refine wpList_append_eq rfl rfl rfl rfl HRun.out ?_)
     go_roundw
     case rel => exact ⟨2, by go_num, by omega, HG.out.1, HG.out.2⟩
     case measure => simp [RowKit.intOf]
    ·obtain ⟨v', w', hrun, hown, hkp⟩ := append_slw HI.out.1 HI.out.2.size (H3.out.below HI.out.2) (by show (l1 ++ l2).length + l3.length ≤ _; rw [List.length_append, HN.out.1, HN.out.2.1, HN.out.2.2]; omega)
     have hbb := HI.out.2.trans (hkp.below HI.out.2.size fun b h => HI.out.1.2 b h)
     have HRun := Lib.hid hrun
     have HG := Lib.hid (And.intro hown hbb)
     clear hrun hown hkp hbb
     go_wp2_with (at_builtin; refine wpList_append_eq rfl rfl rfl rfl HRun.out ?_)
     go_roundw
     case rel => exact ⟨3, by go_num, by omega, HG.out.1, HG.out.2⟩
     case measure => simp [RowKit.intOf]
    ·go_wp2
     go_ret
     exact ⟨_, rfl, HI.out.1, HI.out.2⟩
end Go.Proofs.YthhepebkfokddaaGreatDoor
namespace Go.Proofs.YthhepebkfokddaaGreatDoor
open Go Go.RowKit Go.Kt Go.Kt.Rg Go.Maps
def jamP (n : Int) : Bool := leadP n || vowP n || tailP n
theorem jam_iff (n : Int) : jamP n = decide ((4352 ≤ n ∧ n ≤ 4370) ∨ (4449 ≤ n ∧ n ≤ 4469) ∨ (4520 ≤ n ∧ n ≤ 4546)) := by
 rw [Bool.eq_iff_iff]
 simp [jamP, leadP, vowP, tailP]
 omega
theorem syl_iff (n : Int) : sylP n = decide (44032 ≤ n ∧ n ≤ 55203) := by
 rw [Bool.eq_iff_iff]
 simp [sylP]
 omega
theorem han_two (n : Int) : hanP n = (sylP n || jamP n) := by
 unfold hanP jamP
 simp [Bool.or_assoc]
set_option maxRecDepth 100000 in
theorem ysyl (n : Int) (w : World) : Calls Tryz.prog 100 #[.int .i64 n] w fun e w' => e = .returned (.bool (sylP n)) ∧ Below w.heap.size w w' := by
 by_cases h2 : 44032 ≤ n
 ·by_cases h4 : n ≤ 55203
  ·have HR : Hid (sylP n = true) := Lib.hid (by rw [syl_iff]; simp; omega)
   go_enter Tryz.func100, Tryz.ntmps100
   go_wp2
   go_ret
   exact ⟨by rw [HR.out]; rfl, Below.refl _ _⟩
  ·have HR : Hid (sylP n = false) := Lib.hid (by rw [syl_iff]; simp; omega)
   go_enter Tryz.func100, Tryz.ntmps100
   go_wp2
   go_ret
   exact ⟨by rw [HR.out]; rfl, Below.refl _ _⟩
 ·have HR : Hid (sylP n = false) := Lib.hid (by rw [syl_iff]; simp; omega)
  go_enter Tryz.func100, Tryz.ntmps100
  go_wp2
  go_ret
  exact ⟨by rw [HR.out]; rfl, Below.refl _ _⟩
set_option maxRecDepth 100000 in
theorem yjam (n : Int) (w : World) : Calls Tryz.prog 101 #[.int .i64 n] w fun e w' => e = .returned (.bool (jamP n)) ∧ Below w.heap.size w w' := by
 by_cases h2 : 4352 ≤ n
 ·by_cases h4 : n ≤ 4370
  ·have HR : Hid (jamP n = true) := Lib.hid (by rw [jam_iff]; simp; omega)
   go_enter Tryz.func101, Tryz.ntmps101
   go_wp2
   go_ret
   exact ⟨by rw [HR.out]; rfl, Below.refl _ _⟩
  ·by_cases h6 : 4449 ≤ n
   ·by_cases h8 : n ≤ 4469
    ·have HR : Hid (jamP n = true) := Lib.hid (by rw [jam_iff]; simp; omega)
     go_enter Tryz.func101, Tryz.ntmps101
     go_wp2
     go_ret
     exact ⟨by rw [HR.out]; rfl, Below.refl _ _⟩
    ·by_cases h10 : 4520 ≤ n
     ·by_cases h12 : n ≤ 4546
      ·have HR : Hid (jamP n = true) := Lib.hid (by rw [jam_iff]; simp; omega)
       go_enter Tryz.func101, Tryz.ntmps101
       go_wp2
       go_ret
       exact ⟨by rw [HR.out]; rfl, Below.refl _ _⟩
      ·have HR : Hid (jamP n = false) := Lib.hid (by rw [jam_iff]; simp; omega)
       go_enter Tryz.func101, Tryz.ntmps101
       go_wp2
       go_ret
       exact ⟨by rw [HR.out]; rfl, Below.refl _ _⟩
     ·have HR : Hid (jamP n = false) := Lib.hid (by rw [jam_iff]; simp; omega)
      go_enter Tryz.func101, Tryz.ntmps101
      go_wp2
      go_ret
      exact ⟨by rw [HR.out]; rfl, Below.refl _ _⟩
   ·by_cases h8 : 4520 ≤ n
    ·by_cases h10 : n ≤ 4546
     ·have HR : Hid (jamP n = true) := Lib.hid (by rw [jam_iff]; simp; omega)
      go_enter Tryz.func101, Tryz.ntmps101
      go_wp2
      go_ret
      exact ⟨by rw [HR.out]; rfl, Below.refl _ _⟩
     ·have HR : Hid (jamP n = false) := Lib.hid (by rw [jam_iff]; simp; omega)
      go_enter Tryz.func101, Tryz.ntmps101
      go_wp2
      go_ret
      exact ⟨by rw [HR.out]; rfl, Below.refl _ _⟩
    ·have HR : Hid (jamP n = false) := Lib.hid (by rw [jam_iff]; simp; omega)
     go_enter Tryz.func101, Tryz.ntmps101
     go_wp2
     go_ret
     exact ⟨by rw [HR.out]; rfl, Below.refl _ _⟩
 ·by_cases h4 : 4449 ≤ n
  ·by_cases h6 : n ≤ 4469
   ·have HR : Hid (jamP n = true) := Lib.hid (by rw [jam_iff]; simp; omega)
    go_enter Tryz.func101, Tryz.ntmps101
    go_wp2
    go_ret
    exact ⟨by rw [HR.out]; rfl, Below.refl _ _⟩
   ·by_cases h8 : 4520 ≤ n
    ·by_cases h10 : n ≤ 4546
     ·have HR : Hid (jamP n = true) := Lib.hid (by rw [jam_iff]; simp; omega)
      go_enter Tryz.func101, Tryz.ntmps101
      go_wp2
      go_ret
      exact ⟨by rw [HR.out]; rfl, Below.refl _ _⟩
     ·have HR : Hid (jamP n = false) := Lib.hid (by rw [jam_iff]; simp; omega)
      go_enter Tryz.func101, Tryz.ntmps101
      go_wp2
      go_ret
      exact ⟨by rw [HR.out]; rfl, Below.refl _ _⟩
    ·have HR : Hid (jamP n = false) := Lib.hid (by rw [jam_iff]; simp; omega)
     go_enter Tryz.func101, Tryz.ntmps101
     go_wp2
     go_ret
     exact ⟨by rw [HR.out]; rfl, Below.refl _ _⟩
  ·by_cases h6 : 4520 ≤ n
   ·by_cases h8 : n ≤ 4546
    ·have HR : Hid (jamP n = true) := Lib.hid (by rw [jam_iff]; simp; omega)
     go_enter Tryz.func101, Tryz.ntmps101
     go_wp2
     go_ret
     exact ⟨by rw [HR.out]; rfl, Below.refl _ _⟩
    ·have HR : Hid (jamP n = false) := Lib.hid (by rw [jam_iff]; simp; omega)
     go_enter Tryz.func101, Tryz.ntmps101
     go_wp2
     go_ret
     exact ⟨by rw [HR.out]; rfl, Below.refl _ _⟩
   ·have HR : Hid (jamP n = false) := Lib.hid (by rw [jam_iff]; simp; omega)
    go_enter Tryz.func101, Tryz.ntmps101
    go_wp2
    go_ret
    exact ⟨by rw [HR.out]; rfl, Below.refl _ _⟩
end Go.Proofs.YthhepebkfokddaaGreatDoor
namespace Go.Proofs.YthhepebkfokddaaGreatDoor
open Go Go.RowKit Go.Kt Go.Kt.Rg Go.Maps
def RfW (w : World) (v : Value) (l : List (Nat × Nat × Int)) : Prop :=
 ∃ ao cp, v = .slice ao l.length cp ∧ (l = [] ∨ ∃ g, ao = some ⟨g, 0, none⟩ ∧ ∀ (i : Nat) (r : Nat × Nat × Int), l[i]? = some r → w.cell? ⟨g, i * 3, none⟩ = some (.int .i64 r.1) ∧ w.cell? ⟨g, i * 3 + 1, none⟩ = some (.int .i64 r.2.1) ∧ w.cell? ⟨g, i * 3 + 2, none⟩ = some (.int .i64 r.2.2))
theorem RfW.below {v : Value} {l : List (Nat × Nat × Int)} {A B : World} (h : RfW A v l) (hb : Below A.heap.size A B) : RfW B v l := by
 obtain ⟨ao, cp, rfl, h⟩ := h
 refine ⟨ao, cp, rfl, ?_⟩
 rcases h with h | ⟨g, e, h⟩
 ·exact .inl h
 ·exact .inr ⟨g, e, fun i r hr => ⟨(hb.cell (lt_of_cell (h i r hr).1)).trans (h i r hr).1, (hb.cell (lt_of_cell (h i r hr).2.1)).trans (h i r hr).2.1, (hb.cell (lt_of_cell (h i r hr).2.2)).trans (h i r hr).2.2⟩⟩
def lastZ : List (Nat × Nat × Int) → Int → Option Int
 | [], _ => none
 | x :: t, e => match lastZ t e with
   | some v => some v
   | none => if (x.1 : Int) ≤ e ∧ e ≤ (x.2.1 : Int) then some x.2.2 else none
end Go.Proofs.YthhepebkfokddaaGreatDoor
namespace Go.Proofs.YthhepebkfokddaaGreatDoor
open Go Go.RowKit Go.Kt Go.Kt.Rg Go.Maps
theorem dig16 (b : UInt8) : digB 16 b = match digV b.toNat with
 | some d => if 16 ≤ d then none else some d
 | none => none := by
 unfold digB
 cases digV b.toNat with
 | none => rfl
 | some d =>
   simp only
   by_cases h : d < 16
   ·rw [if_pos h, if_neg (by omega)]
   ·rw [if_neg h, if_pos (by omega)]
theorem numF_pu : ∀ (l : List UInt8) (k n : Nat), k + l.length ≤ 6 → n < 16 ^ k → numF 16 n l = puF 16777215 n l := by
 intro l
 induction l with
 | nil => intro k n _ _; rw [numF, puF]
 | cons b t ih =>
   intro k n hk hn
   rw [numF, puF, dig16]
   cases digV b.toNat with
   | none => rfl
   | some d =>
     simp only
     by_cases h : 16 ≤ d
     ·rw [if_pos h, if_pos h]
     ·rw [if_neg h, if_neg h]
      simp only [List.length_cons] at hk
      have h1 : 16 * n + d < 16 ^ (k + 1) := by rw [Nat.pow_succ]; omega
      have h2 : 16 ^ (k + 1) ≤ 16 ^ 6 := Nat.pow_le_pow_right (by decide) (by omega)
      have h3 : (16 : Nat) ^ 6 = 16777216 := by decide
      rw [if_neg (by omega), Nat.mul_comm n 16]
      exact ih (k + 1) _ (by omega) h1
theorem numG_P (l : List UInt8) : numG 16 4 6 l = match numP l with
 | some n => (n : Int)
 | none => -1 := by
 unfold numG numP
 by_cases h : l.length < 4 ∨ 6 < l.length
 ·rw [if_pos h, if_neg (by omega)]
 ·rw [if_neg h, if_pos (by omega)]
  unfold puV
  rw [if_neg (fun e => by subst e; simp at h), numF_pu l 0 0 (by omega) (by decide)]
  rfl
set_option maxRecDepth 100000 in
theorem ychar (n : Int) (w : World) : Calls Tryz.prog 123 #[.int .i64 n] w fun e w' => e = .returned (.bool (Lib.validRune n)) ∧ Below w.heap.size w w' := by
 by_cases h0 : 0 ≤ n
 ·by_cases h1 : n ≤ 1114111
  ·by_cases h2 : n < 55296
   ·have HR : Hid (Lib.validRune n = true) := Lib.hid (by simp [Lib.validRune]; omega)
    go_enter Tryz.func123, Tryz.ntmps123
    go_wp2
    go_ret
    exact ⟨by rw [HR.out]; rfl, Below.refl _ _⟩
   ·by_cases h3 : 57343 < n
    ·have HR : Hid (Lib.validRune n = true) := Lib.hid (by simp [Lib.validRune]; omega)
     go_enter Tryz.func123, Tryz.ntmps123
     go_wp2
     go_ret
     exact ⟨by rw [HR.out]; rfl, Below.refl _ _⟩
    ·have HR : Hid (Lib.validRune n = false) := Lib.hid (by simp [Lib.validRune]; omega)
     go_enter Tryz.func123, Tryz.ntmps123
     go_wp2
     go_ret
     exact ⟨by rw [HR.out]; rfl, Below.refl _ _⟩
  ·have HR : Hid (Lib.validRune n = false) := Lib.hid (by simp [Lib.validRune]; omega)
   go_enter Tryz.func123, Tryz.ntmps123
   go_wp2
   go_ret
   exact ⟨by rw [HR.out]; rfl, Below.refl _ _⟩
 ·have HR : Hid (Lib.validRune n = false) := Lib.hid (by simp [Lib.validRune]; omega)
  go_enter Tryz.func123, Tryz.ntmps123
  go_wp2
  go_ret
  exact ⟨by rw [HR.out]; rfl, Below.refl _ _⟩
def pntP (l : List UInt8) : Int × Nat := match numP l with
 | some n => if Lib.validRune (n : Int) = false then (0, 8) else (n, 0)
 | none => (0, 11)
set_option maxRecDepth 100000 in
theorem ypoint (s : ByteArray) (w : World) (hs : s.size ≤ 140737488351232) : Calls Tryz.prog 98 #[.string s] w fun e w' => e = .returned (.tuple #[.int .i64 (pntP s.data.toList).1, .int .i64 ((pntP s.data.toList).2 : Nat)]) ∧ Below w.heap.size w w' := by
 have CN := Lib.hid (ynumber s 16 4 6 w hs (.inl ⟨rfl, rfl, rfl⟩))
 rw [numG_P] at CN
 have CC := Lib.hid (fun n W => ychar n W)
 obtain ⟨l, hl⟩ : ∃ l, s.data.toList = l := ⟨_, rfl⟩
 rw [hl] at CN ⊢
 cases hn : numP l with
 | none =>
   have HR : Hid (pntP l = (0, 11)) := Lib.hid (by unfold pntP; rw [hn])
   rw [hn] at CN
   simp only at CN
   clear hn hs hl
   go_enter Tryz.func98, Tryz.ntmps98
   go_wp2_with fail
   refine CN.out.mono ?_
   rintro e w1 ⟨rfl, hb1⟩
   go_wp2
   go_ret2
   exact ⟨by rw [HR.out]; rfl, hb1⟩
 | some n =>
   rw [hn] at CN
   simp only at CN
   have hneg : ¬ (n : Int) < 0 := by omega
   cases hv : Lib.validRune (n : Int) with
   | false =>
     have HR : Hid (pntP l = (0, 8)) := Lib.hid (by unfold pntP; rw [hn]; simp only; rw [if_pos hv])
     have CC := Lib.hid (fun W => hv ▸ CC.out (n : Int) W)
     clear hn hs hl hv
     go_enter Tryz.func98, Tryz.ntmps98
     go_wp2_with fail
     refine CN.out.mono ?_
     rintro e w1 ⟨rfl, hb1⟩
     have HB := Lib.hid hb1
     clear hb1
     go_wp2_with fail
     refine (CC.out _).mono ?_
     rintro e w2 ⟨rfl, hb2⟩
     have HB2 := Lib.hid (HB.out.trans (hb2.mono HB.out.size))
     clear hb2
     go_wp2
     go_ret2
     exact ⟨by rw [HR.out]; rfl, HB2.out⟩
   | true =>
     have HR : Hid (pntP l = ((n : Int), 0)) := Lib.hid (by unfold pntP; rw [hn]; simp only; rw [if_neg (by rw [hv]; decide)])
     have CC := Lib.hid (fun W => hv ▸ CC.out (n : Int) W)
     clear hn hs hl hv
     go_enter Tryz.func98, Tryz.ntmps98
     go_wp2_with fail
     refine CN.out.mono ?_
     rintro e w1 ⟨rfl, hb1⟩
     have HB := Lib.hid hb1
     clear hb1
     go_wp2_with fail
     refine (CC.out _).mono ?_
     rintro e w2 ⟨rfl, hb2⟩
     have HB2 := Lib.hid (HB.out.trans (hb2.mono HB.out.size))
     clear hb2
     go_wp2
     go_ret2
     exact ⟨by rw [HR.out]; rfl, HB2.out⟩
end Go.Proofs.YthhepebkfokddaaGreatDoor
