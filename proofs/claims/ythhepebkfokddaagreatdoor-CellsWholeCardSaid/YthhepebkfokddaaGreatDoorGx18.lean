/- Parts of the proof of what the last text says. -/
import Derived.Test.YthhepebkfokddaaGreatDoorGx15
import Derived.Test.YthhepebkfokddaaGreatDoorGx4
import Derived.Test.YthhepebkfokddaaGreatDoorGx16
namespace Go.Proofs.YthhepebkfokddaaGreatDoor
open Go
def seg (s : ByteArray) (i j : Nat) : List UInt8 := (s.extract i j).data.toList
def fixF (s : ByteArray) : Nat → Nat → List UInt8
 | 0, _ => []
 | f + 1, i => if i < s.size then (Utf8.encode (Utf8.decode s i).1).data.toList ++ fixF s f (i + (Utf8.decode s i).2) else []
def fffd : List UInt8 := [239, 191, 189]
end Go.Proofs.YthhepebkfokddaaGreatDoor
namespace Go.Proofs.YthhepebkfokddaaGreatDoor
open Go
def mendR (s by' : ByteArray) (whole : Bool) : Nat → Nat → List UInt8
 | 0, _ => []
 | f + 1, i => if i < s.size then (if wideI s i = 0 then rep by'.data.toList (if whole then 1 else badK s i) ++ mendR s by' whole f (i + badK s i) else seg s i (i + (wideI s i).toNat) ++ mendR s by' whole f (i + (wideI s i).toNat)) else []
def sumK (l : List (Nat × Nat)) : Nat := (l.map (·.2)).sum
end Go.Proofs.YthhepebkfokddaaGreatDoor
namespace Go.Proofs.YthhepebkfokddaaGreatDoor
open Go
def bt (l : List UInt8) (i : Nat) : Nat := (l.getD i 0).toNat
def Chr (c : List UInt8) : Prop := 1 ≤ c.length ∧ c.length ≤ 4 ∧ CharAt c.length (bt c 0) (bt c 1) (bt c 2) (bt c 3)
inductive Vd : List UInt8 → Prop
 | nil : Vd []
 | cons (c l : List UInt8) : Chr c → Vd l → Vd (c ++ l)
end Go.Proofs.YthhepebkfokddaaGreatDoor
namespace Go.Proofs.YthhepebkfokddaaGreatDoor
open Go
theorem no_unit_within (s : ByteArray) (p v i : Nat) (hp : p < s.size) (hv1 : 1 ≤ v) (hv4 : v ≤ 4) (hw : wideI s p = v) (h1 : p < i) (h2 : i < p + v) : ∀ f j, j ≤ p → i ∉ placesF s f j
 | 0, _, _ => by simp [placesF, unitsF]
 | f + 1, j, hj => by
   intro hm
   have hj' : j < s.size := by omega
   obtain ⟨d1, d2, d3⟩ := dec_width s j hj'
   rw [placesF_in s f j hj'] at hm
   rcases List.mem_cons.1 hm with h | h
   ·omega
   ·rcases Nat.lt_or_ge p (j + (Utf8.decode s j).2) with hlt | hge
    ·rcases Nat.eq_or_lt_of_le hj with e | hjp
     ·subst e
      rcases decode_wide s j hj' with ⟨h3, _⟩ | ⟨u, _, _, _, h6, h7⟩
      ·omega
      ·have := placesF_ge s f _ _ h; omega
     ·have hc := in_char s j (p - j) hj' (by omega) (by omega)
      rw [Nat.add_sub_cancel' hj] at hc
      have := wide_cont s p hc.1 hc.2
      omega
    ·exact no_unit_within s p v i hp hv1 hv4 hw h1 h2 f _ hge h
theorem units_dec (s : ByteArray) : ∀ f i p, p ∈ unitsF s f i → p.2 = (Utf8.decode s p.1).1 ∧ p.1 < s.size
 | 0, _, p, h => by simp [unitsF] at h
 | f + 1, i, p, h => by
   rw [unitsF] at h
   split at h
   ·rcases List.mem_cons.1 h with h | h
    ·subst h; exact ⟨rfl, by assumption⟩
    ·exact units_dec s f _ p h
   ·simp at h
theorem before_unit (s : ByteArray) (i : Nat) (hi : i < s.size) (hm : i ∈ placesF s s.size 0) : befP s ((i : Int) + (Utf8.decode s i).2) = (((Utf8.decode s i).1 : Int), ((Utf8.decode s i).2 : Int)) := by
 obtain ⟨d1, d2, d3⟩ := dec_width s i hi
 rw [show ((i : Int) + (Utf8.decode s i).2) = ((i + (Utf8.decode s i).2 : Nat) : Int) by omega, befP_in s _ (by omega) d3]
 rcases decode_wide s i hi with ⟨h3, h4⟩ | ⟨u, u1, u4, u5, h6, h7⟩
 ·rw [h4]
  refine befK_none (fun v hv => ?_) 5 1 (by omega)
  obtain ⟨v1, v4, vn, hw⟩ := hv
  rcases Nat.eq_or_lt_of_le v1 with e | e
  ·subst e
   rw [show i + 1 - 1 = i by omega] at hw
   omega
  ·exact no_unit_within s (i + 1 - v) v i (by omega) v1 v4 hw (by omega) (by omega) s.size 0 (Nat.zero_le _) hm
 ·rw [h7]
  have he : Ends s (i + u) u := ⟨u1, u4, by omega, by rw [Nat.add_sub_cancel]; exact h6⟩
  have := befK_ends (by omega) he 5 1 (by omega) u1 (by omega)
  rw [Nat.add_sub_cancel] at this
  exact this
def fixR (x : Int) : Int := if Utf8.valid x then x else 65533
end Go.Proofs.YthhepebkfokddaaGreatDoor
namespace Go.Proofs.YthhepebkfokddaaGreatDoor
open Go Go.RowKit Go.Kt Go.Kt.Bits
def PL (s : ByteArray) : List Nat := placesF s s.size 0
theorem PL_units (s : ByteArray) : PL s = (units s).map (·.1) := rfl
theorem PL_len (s : ByteArray) : (PL s).length = (units s).length := by simp [PL_units]
theorem placesF_rise (s : ByteArray) : ∀ f i, (placesF s f i).Pairwise (· < ·)
 | 0, i => by simp [placesF, unitsF]
 | f + 1, i => by
   by_cases h : i < s.size
   ·rw [placesF_in s f i h]
    obtain ⟨d1, _, _⟩ := dec_width s i h
    refine List.pairwise_cons.2 ⟨fun x hx => ?_, placesF_rise s f _⟩
    have := placesF_ge s f _ x hx
    omega
   ·rw [placesF_end s (f + 1) i (by omega)]; exact List.Pairwise.nil
theorem PL_rise (s : ByteArray) : (PL s).Pairwise (· < ·) := placesF_rise s _ _
theorem PL_lt (s : ByteArray) (x : Nat) (h : x ∈ PL s) : x < s.size := by
 obtain ⟨p, hp, rfl⟩ := List.mem_map.1 h
 exact (units_dec s s.size 0 p hp).2
def kindB (k r : Nat) : Bool := if k = 0 then true else if k = 1 then decide (65535 < r) else decide (r = 10)
def isK (s : ByteArray) (k x : Nat) : Bool := decide (x ∈ PL s) && kindB k (Utf8.decode s x).1
def kl (s : ByteArray) (k : Nat) : List Nat := (PL s).filter fun x => kindB k (Utf8.decode s x).1
def isP (k : Nat) (pre : List (Nat × Nat)) (x : Nat) : Bool := pre.any fun u => kindB k u.2 && decide (u.1 = x)
def pos (s : ByteArray) (n : Nat) : Nat := (PL s).getD n s.size
theorem pos_in (s : ByteArray) (n : Nat) (h : n < (units s).length) : ∃ hn : n < (PL s).length, pos s n = (PL s)[n] := by
 have hn : n < (PL s).length := by rw [PL_len]; exact h
 exact ⟨hn, by unfold pos; rw [List.getD_eq_getElem?_getD, List.getElem?_eq_getElem hn]; rfl⟩
theorem pos_end (s : ByteArray) (n : Nat) (h : (units s).length ≤ n) : pos s n = s.size := by
 unfold pos; rw [List.getD_eq_getElem?_getD, List.getElem?_eq_none (by rw [PL_len]; exact h)]; rfl
theorem placesF_getD0 (s : ByteArray) (f i : Nat) (hi : i ≤ s.size) (hf : s.size ≤ f + i) : (placesF s f i).getD 0 s.size = i := by
 by_cases h : i < s.size
 ·obtain ⟨f', rfl⟩ : ∃ f', f = f' + 1 := ⟨f - 1, by omega⟩
  rw [placesF_in s f' i h]; rfl
 ·rw [placesF_end s f i (by omega)]; simp; omega
theorem placesF_succ (s : ByteArray) : ∀ n f i, i ≤ s.size → s.size ≤ f + i → n < (placesF s f i).length →
 (placesF s f i).getD (n + 1) s.size = (placesF s f i).getD n s.size + (Utf8.decode s ((placesF s f i).getD n s.size)).2
 | n, f, i, hi, hf, hn => by
   by_cases h : i < s.size
   ·obtain ⟨f', rfl⟩ : ∃ f', f = f' + 1 := ⟨f - 1, by omega⟩
    obtain ⟨d1, _, d3⟩ := dec_width s i h
    rw [placesF_in s f' i h] at hn ⊢
    cases n with
    | zero =>
      rw [List.getD_cons_succ, List.getD_cons_zero]
      exact placesF_getD0 s f' _ d3 (by omega)
    | succ n =>
      rw [List.getD_cons_succ, List.getD_cons_succ]
      exact placesF_succ s n f' _ d3 (by omega) (by simpa using hn)
   ·rw [placesF_end s f i (by omega)] at hn; simp at hn
theorem pos_zero (s : ByteArray) : pos s 0 = 0 := placesF_getD0 s s.size 0 (Nat.zero_le _) (by omega)
theorem pos_succ (s : ByteArray) (n : Nat) (h : n < (units s).length) : pos s (n + 1) = pos s n + (Utf8.decode s (pos s n)).2 :=
 placesF_succ s n s.size 0 (Nat.zero_le _) (by omega) (by rw [show (placesF s s.size 0).length = (units s).length from PL_len s]; exact h)
theorem pos_mem (s : ByteArray) (n : Nat) (h : n < (units s).length) : pos s n ∈ PL s := by
 obtain ⟨hn, e⟩ := pos_in s n h; rw [e]; exact List.getElem_mem hn
theorem pos_lt (s : ByteArray) (n : Nat) (h : n < (units s).length) : pos s n < s.size := PL_lt s _ (pos_mem s n h)
theorem pos_le (s : ByteArray) (n : Nat) : pos s n ≤ s.size := by
 rcases Nat.lt_or_ge n (units s).length with h | h
 ·exact Nat.le_of_lt (pos_lt s n h)
 ·rw [pos_end s n h]; exact Nat.le_refl _
theorem pos_step (s : ByteArray) (n : Nat) (h : n < (units s).length) : pos s n < pos s (n + 1) ∧ pos s (n + 1) ≤ pos s n + 4 := by
 obtain ⟨d1, d2, _⟩ := dec_width s _ (pos_lt s n h)
 rw [pos_succ s n h]; omega
theorem unit_of (s : ByteArray) (a : Nat) (h : a < s.size) : ∃ n, n < (units s).length ∧ pos s n ≤ a ∧ a < pos s (n + 1) := by
 have : ∀ m, m ≤ (units s).length → a < pos s m → ∃ n, n < m ∧ pos s n ≤ a ∧ a < pos s (n + 1) := by
  intro m
  induction m with
  | zero => intro _ h; rw [pos_zero] at h; omega
  | succ m ih =>
    intro hm ha
    by_cases hlt : a < pos s m
    ·obtain ⟨n, h1, h2, h3⟩ := ih (by omega) hlt
     exact ⟨n, by omega, h2, h3⟩
    ·exact ⟨m, by omega, by omega, ha⟩
 obtain ⟨n, h1, h2, h3⟩ := this (units s).length (Nat.le_refl _) (by rw [pos_end s _ (Nat.le_refl _)]; exact h)
 exact ⟨n, h1, h2, h3⟩
end Go.Proofs.YthhepebkfokddaaGreatDoor
namespace Go.Proofs.YthhepebkfokddaaGreatDoor
open Go Go.RowKit Go.Kt Go.Shelf
attribute [local go_sem] Oper.semAt_some
theorem unitsF_split (s : ByteArray) : ∀ (F i0 : Nat) (front : List (Nat × Nat)) (x : Nat × Nat) (rest : List (Nat × Nat)), unitsF s F i0 = front ++ x :: rest → s.size ≤ i0 + F →
 x.1 < s.size ∧ x.2 = (Utf8.decode s x.1).1 ∧ ∃ f', rest = unitsF s f' (x.1 + (Utf8.decode s x.1).2) ∧ s.size ≤ x.1 + (Utf8.decode s x.1).2 + f'
 | 0, _, front, x, rest, h, _ => by simp [unitsF] at h
 | F + 1, i0, front, x, rest, h, hf => by
   by_cases hi : i0 < s.size
   ·obtain ⟨d1, d2, d3⟩ := dec_width s i0 hi
    rw [unitsF, if_pos hi] at h
    cases front with
    | nil =>
      simp only [List.nil_append, List.cons.injEq] at h
      obtain ⟨h1, h2⟩ := h
      subst h1
      exact ⟨hi, rfl, F, h2.symm, by simp only; omega⟩
    | cons y t =>
      simp only [List.cons_append, List.cons.injEq] at h
      exact unitsF_split s F _ t x rest h.2 (by omega)
   ·rw [unitsF, if_neg hi] at h
    simp at h
theorem unitsF_nil {s : ByteArray} {f e : Nat} (h : unitsF s f e = []) (hf : s.size ≤ e + f) : s.size ≤ e := by
 rcases Nat.lt_or_ge e s.size with h1 | h1
 ·cases f with
  | zero => omega
  | succ f => rw [unitsF, if_pos h1] at h; cases h
 ·exact h1
theorem unitsF_head {s : ByteArray} {f e : Nat} {x : Nat × Nat} {r : List (Nat × Nat)} (h : unitsF s f e = x :: r) : x.1 = e := by
 cases f with
 | zero => simp [unitsF] at h
 | succ f =>
   rw [unitsF] at h
   split at h
   ·simp only [List.cons.injEq] at h; rw [← h.1]
   ·cases h
def Fr (s : ByteArray) (front : List (Nat × Nat)) (e : Nat) : Prop := ∃ f, units s = front ++ unitsF s f e ∧ (unitsF s f e = [] → s.size ≤ e) ∧ e ≤ s.size
theorem Fr.all (s : ByteArray) : Fr s (units s) s.size := ⟨0, by simp [unitsF], fun _ => Nat.le_refl _, Nat.le_refl _⟩
theorem Fr.zero {s : ByteArray} {e : Nat} (h : Fr s [] e) : e = 0 := by
 obtain ⟨f, h1, h2, h3⟩ := h
 rw [List.nil_append] at h1
 rcases Nat.eq_zero_or_pos s.size with hz | hz
 ·omega
 ·cases hu : units s with
  | nil =>
    have := unitsF_nil (show unitsF s s.size 0 = [] from hu) (by omega)
    omega
  | cons x r =>
    rw [hu] at h1
    have e1 := unitsF_head h1.symm
    have e2 := unitsF_head (show unitsF s s.size 0 = x :: r from hu)
    omega
theorem Fr.snoc {s : ByteArray} {front : List (Nat × Nat)} {x : Nat × Nat} {e : Nat} (h : Fr s (front ++ [x]) e) : x.1 < s.size ∧ x.2 = (Utf8.decode s x.1).1 ∧ e = x.1 + (Utf8.decode s x.1).2 ∧ Fr s front x.1 := by
 obtain ⟨f, h1, h2, h3⟩ := h
 rw [List.append_assoc] at h1
 have h1' : unitsF s s.size 0 = front ++ x :: unitsF s f e := h1
 obtain ⟨a1, a2, f', a3, a4⟩ := unitsF_split s s.size 0 front x _ h1' (by omega)
 obtain ⟨d1, d2, d3⟩ := dec_width s x.1 a1
 refine ⟨a1, a2, ?_, f' + 1, ?_, fun h => (by rw [unitsF, if_pos a1] at h; cases h), by omega⟩
 ·cases hu : unitsF s f e with
  | nil =>
    have k1 := h2 hu
    rw [hu] at a3
    have k2 := unitsF_nil a3.symm a4
    omega
  | cons y r =>
    have k1 := unitsF_head hu
    rw [hu] at a3
    have k2 := unitsF_head a3.symm
    omega
 ·rw [h1, unitsF, if_pos a1, ← a3, ← a2]; rfl
set_option maxRecDepth 100000 in
set_option maxHeartbeats 1000000 in
theorem back_iter (s : ByteArray) (bs : Nat) (w0 : World) (hc : w0.cell? ⟨bs, 0, none⟩ = some (.string s)) (hs : s.size ≤ 4611686018427387904) (hT : Lib.Utf8Tabs 3 4 w0) (_hbs2 : 5 ≤ bs) :
 Iter Tryz.prog 67 #[.pointer (some ⟨bs, 0, none⟩)] enc2 (units s).reverse (fun b => b = bs ∨ b < 5) w0 := by
 intro l X J Jx W hNd hX hsame hsz hJ hJx hY h0
 have hcW : W.cell? ⟨bs, 0, none⟩ = some (.string s) := (World.cell?_of_block (w := w0) (a := ⟨bs, 0, none⟩) (hsame bs (.inl rfl))).trans hc
 have hTW : Lib.Utf8Tabs 3 4 W := ⟨fun c hc => (World.cell?_of_block (w := w0) (a := ⟨3, c, none⟩) (hsame 3 (.inr (by omega)))).trans (hT.1 c hc), fun i hi => ⟨(World.cell?_of_block (w := w0) (a := ⟨4, 2 * i, none⟩) (hsame 4 (.inr (by omega)))).trans (hT.2 i hi).1, (World.cell?_of_block (w := w0) (a := ⟨4, 2 * i + 1, none⟩) (hsame 4 (.inr (by omega)))).trans (hT.2 i hi).2⟩⟩
 have hbs : bs < W.heap.size := lt_of_cell hcW
 have hXb : ¬ X bs := hNd bs (.inl rfl)
 have hX0 : ¬ X 3 := hNd 3 (.inr (by omega))
 have hX1 : ¬ X 4 := hNd 4 (.inr (by omega))
 have KeepT : Hid (∀ V : World, Keep X W V → Lib.Utf8Tabs 3 4 V) := Lib.hid fun V hk => ⟨fun c hc => hk.cell (hTW.1 c hc) hX0, fun i hi => ⟨hk.cell (hTW.2 i hi).1 hX1, hk.cell (hTW.2 i hi).2 hX1⟩⟩
 clear hTW hT
 have hfn : ∀ k, Fence.wide.fn k := fun _ => trivial
 have hdep : Fence.wide.depth = none := rfl
 refine (callsIn_wide (n := 0)).1 ?_
 refine callsIn_of_wp Tryz.func67 rfl trivial ?_ rfl
 simp only [Tryz.ntmps67, List.size_toArray, List.length_cons, List.length_nil, Nat.reduceAdd, Nat.reduceSub, Array.replicate_succ, Array.replicate_zero, List.push_toArray, List.append_toArray, List.nil_append, List.cons_append]
 gi_wp2
 gi_loopw [3, 4, 5] (fun v _ _ wr => ∃ (front pre : List (Nat × Nat)) (Y : Nat → Prop) (e : Nat), (∀ b, Y b → W.heap.size ≤ b) ∧ v = .int .i64 e ∧ Fr s front e ∧ pre ++ front.reverse = (units s).reverse ∧ J pre Y wr ∧ Keep X W wr)
  (fun v _ _ _ => (RowKit.intOf v).toNat)
 case atStart => exact ⟨units s, [], _, s.size, fun _ h => h.elim, rfl, Fr.all s, rfl, h0, Keep.refl _ _⟩
 case round =>
  obtain ⟨front, pre, Y, e, hYl, rfl, hfr, hp, hJs, hk⟩ := hrel
  have hcr := hk.cell hcW hXb
  rcases List.eq_nil_or_concat front with rfl | ⟨fr, x, rfl⟩
  ·obtain rfl := hfr.zero
   rw [List.reverse_nil, List.append_nil] at hp
   have Hp := Lib.hid hp
   clear hp hfr
   gi_wp2
   go_end0
   exact ⟨⟨_, rfl⟩, hk, .inl ⟨Y, fun b hb => by have := hYl b hb; omega, Hp.out ▸ hJs⟩⟩
  ·rw [List.concat_eq_append] at hfr hp
   obtain ⟨x1, x2, x3, hfr'⟩ := hfr.snoc
   obtain ⟨d1, d2, d3⟩ := dec_width s x.1 x1
   have hm : x.1 ∈ placesF s s.size 0 := by
    obtain ⟨f, h1, _, _⟩ := hfr
    unfold placesF
    have h1' : unitsF s s.size 0 = (fr ++ [x]) ++ unitsF s f e := h1
    rw [h1']
    simp
   have hbe := before_unit s x.1 x1 hm
   rw [show ((x.1 : Int) + (Utf8.decode s x.1).2) = ((e : Nat) : Int) by rw [x3]; simp] at hbe
   have C := Lib.hid (fun (V : World) (hV : Keep X W V) => utfBefore_any s e V (KeepT.out V hV) hs)
   rw [hbe] at C
   have hp2 : (pre ++ [x]) ++ fr.reverse = (units s).reverse := by rw [← hp]; simp
   have hpre : pre ++ [x] <+: (units s).reverse := ⟨fr.reverse, hp2⟩
   have Hdat := Lib.hid (And.intro hp2 (And.intro hfr' (And.intro hpre x3)))
   have he0 : (0 : Int) < e := by omega
   rw [← x2] at C
   have hwd : ((e : Nat) : Int) - ((Utf8.decode s x.1).2 : Nat) = ((x.1 : Nat) : Int) := by omega
   have hxs : x.1 ≤ 4611686018427387904 := by omega
   generalize (Utf8.decode s x.1).2 = wd at *
   clear hp hp2 hpre hfr hfr' x2 x3 hm hbe
   obtain ⟨at', r⟩ := x
   simp only at C hwd hxs x1 d2 d3
   gi_wp2_with fail
   refine (callsIn_wide.2 (C.out _ hk)).mono ?_
   rintro e1 V1 ⟨rfl, hb1⟩
   have hk1 : Keep X W V1 := hk.trans (.of_all hb1)
   have hJ1 : J pre Y V1 := hJ _ _ _ _ (.of_all hb1) hJs
   obtain ⟨fn, tmps, assign, body, hy, hR⟩ := hY pre (at', r) Y V1 Hdat.out.2.2.1 hJ1 (by have := hb1.size; have := hk.size; omega) (fun b hb => by have := hYl b hb; omega)
   have HK1 := Lib.hid hk1
   clear hb1 hJ1
   gi_wp2_with fail
   refine hR.mono ?_
   rintro e3 V3 ⟨Y', hk4, hY', (⟨rfl, hJ3⟩ | ⟨rfl, hJx3⟩)⟩
   all_goals have hk3 := HK1.out
   all_goals have hzk := hk3.size
   all_goals have hkW : Keep X W V3 := ⟨hk4.os.trans hk3.os, hk4.tape.trans hk3.tape, hk4.output.trans hk3.output, Nat.le_trans hk3.size hk4.size, fun b hb hx => (hk4.same b (Nat.lt_of_lt_of_le hb hk3.size) (fun h => by rcases h with h | h; exact hx h; have := hYl b h; omega)).trans (hk3.same b hb hx)⟩
   ·clear hk4 hk3
    gi_wp2
    go_roundw
    case rel => exact ⟨fr, pre ++ [(at', r)], Y', at', fun b hb => by rcases hY' b hb with h | h; exact hYl b h; omega, rfl, Hdat.out.2.1, Hdat.out.1, hJ3, hkW⟩
    case measure => simp [RowKit.intOf]; have := Hdat.out.2.2.2; omega
   ·clear hk4 hk3
    gi_wp2
    refine bodyPost_ret (results_none rfl _ _ _) rfl ?_
    exact ⟨⟨_, rfl⟩, hkW, .inr ⟨_, Y', Hdat.out.2.2.1, fun b hb => by rcases hY' b hb with h | h; have := hYl b h; omega; omega, hJx3⟩⟩
end Go.Proofs.YthhepebkfokddaaGreatDoor
namespace Go.Proofs.YthhepebkfokddaaGreatDoor
open Go Go.RowKit Go.Kt Go.Kt.Rg Go.Maps
def yAt (s : ByteArray) (i : Nat) : UInt8 := s.data.toList.getD i 0
theorem yAt_run (s : ByteArray) (i : Nat) (h : i < s.size) (w : World) : (Instr.index 9 (.string s) (.int .i64 (i : Int))).run Tryz.prog w = .ok (.int .u8 ((yAt s i).toNat : Int)) w := by
 have h' : i < s.data.toList.length := by rw [← Lib.size_eq]; exact h
 have e : ((yAt s i).toNat : Int) = ((s[i]'h).toNat : Int) := by
  unfold yAt
  rw [List.getD_eq_getElem?_getD, List.getElem?_eq_getElem h']; rfl
 rw [run_index_string (h := Tryz.underlying9), dif_pos (by omega), e]; rfl
theorem yAt_drop (s : ByteArray) (i : Nat) (h : i < s.size) : s.data.toList.drop i = yAt s i :: s.data.toList.drop (i + 1) := by
 have h' : i < s.data.toList.length := by rw [← Lib.size_eq]; exact h
 unfold yAt
 rw [List.drop_eq_getElem_cons h', List.getD_eq_getElem?_getD, List.getElem?_eq_getElem h']; rfl
/-! ### Digits -/
def lowD : ByteArray := ⟨#[48, 49, 50, 51, 52, 53, 54, 55, 56, 57, 97, 98, 99, 100, 101, 102]⟩
def uppD : ByteArray := ⟨#[48, 49, 50, 51, 52, 53, 54, 55, 56, 57, 65, 66, 67, 68, 69, 70]⟩
def digB (base : Nat) (b : UInt8) : Option Nat := match digV b.toNat with
 | some d => if d < base then some d else none
 | none => none
theorem dig_low : ∀ k : Fin 16, (digV (yAt lowD k).toNat = some k.1) ∧ (digV (yAt uppD k).toNat = some k.1) := by decide
theorem dig_only : ∀ b : Fin 256, ∀ k : Fin 16, digV b.1 = some k.1 → b.1 = (yAt lowD k).toNat ∨ b.1 = (yAt uppD k).toNat := of_decide_eq_true (by kernel_rfl)
def dK (b : UInt8) (k : Nat) : Int := match digV b.toNat with
 | some d => if d < k then (d : Int) else -1
 | none => -1
theorem dK_zero (b : UInt8) : dK b 0 = -1 := by
 unfold dK
 split
 ·rw [if_neg (by omega)]
 ·rfl
theorem dK_yes {b : UInt8} {k : Nat} (hk : k < 16) (h : b.toNat = (yAt lowD k).toNat ∨ b.toNat = (yAt uppD k).toNat) : dK b (k + 1) = k := by
 have h1 := dig_low ⟨k, hk⟩
 have : digV b.toNat = some k := by
  rcases h with h | h
  ·rw [h]; exact h1.1
  ·rw [h]; exact h1.2
 unfold dK
 rw [this]
 simp
theorem dK_no {b : UInt8} {k : Nat} (hk : k < 16) (h1 : b.toNat ≠ (yAt lowD k).toNat) (h2 : b.toNat ≠ (yAt uppD k).toNat) : dK b (k + 1) = dK b k := by
 have hne : digV b.toNat ≠ some k := fun e => by
  rcases dig_only ⟨b.toNat, b.toNat_lt⟩ ⟨k, hk⟩ e with h | h
  ·exact h1 h
  ·exact h2 h
 unfold dK
 cases hd : digV b.toNat with
 | none => rfl
 | some d =>
   simp only
   have : d ≠ k := fun e => hne (by rw [hd, e])
   by_cases h : d < k
   ·rw [if_pos h, if_pos (by omega)]
   ·rw [if_neg h, if_neg (by omega)]
theorem dK_dig (b : UInt8) (base : Nat) : dK b base = match digB base b with
 | some d => (d : Int)
 | none => -1 := by
 unfold dK digB
 cases digV b.toNat with
 | none => rfl
 | some d =>
   simp only
   by_cases h : d < base
   ·rw [if_pos h, if_pos h]
   ·rw [if_neg h, if_neg h]
theorem digB_lt {base d : Nat} {b : UInt8} (h : digB base b = some d) : d < base := by
 unfold digB at h
 split at h
 ·split at h
  ·cases h; assumption
  ·cases h
 ·cases h
def numF (base : Nat) : Nat → List UInt8 → Option Nat
 | n, [] => some n
 | n, b :: t => match digB base b with
   | some d => numF base (base * n + d) t
   | none => none
def numG (base least most : Nat) (l : List UInt8) : Int := if l.length < least ∨ most < l.length then -1 else match numF base 0 l with
 | some n => (n : Int)
 | none => -1
set_option maxRecDepth 100000 in
set_option maxHeartbeats 4000000 in
theorem ynumber (s : ByteArray) (base least most : Nat) (w : World) (hs : s.size ≤ 140737488351232) (hB : (base = 16 ∧ least = 4 ∧ most = 6) ∨ (base = 10 ∧ least = 1 ∧ most = 18)) :
 Calls Tryz.prog 97 #[.string s, .int .i64 (base : Nat), .int .i64 (least : Nat), .int .i64 (most : Nat)] w fun e w' => e = .returned (.int .i64 (numG base least most s.data.toList)) ∧ Below w.heap.size w w' := by
 have hln : s.data.toList.length = s.size := (Lib.size_eq s).symm
 by_cases h1 : s.size < least
 ·have g1 : (s.size : Int) < (least : Nat) := by omega
  have HR : Hid (numG base least most s.data.toList = -1) := Lib.hid (by unfold numG; rw [if_pos (.inl (by omega))])
  clear h1 hln hB
  go_enter Tryz.func97, Tryz.ntmps97
  go_wp2
  go_ret
  exact ⟨by rw [HR.out]; rfl, Below.refl _ _⟩
 have g1 : ¬ (s.size : Int) < (least : Nat) := by omega
 by_cases h2 : most < s.size
 ·have g2 : ((most : Nat) : Int) < s.size := by omega
  have HR : Hid (numG base least most s.data.toList = -1) := Lib.hid (by unfold numG; rw [if_pos (.inr (by omega))])
  clear h1 h2 hln hB
  go_enter Tryz.func97, Tryz.ntmps97
  go_wp2
  go_ret
  exact ⟨by rw [HR.out]; rfl, Below.refl _ _⟩
 have g2 : ¬ ((most : Nat) : Int) < s.size := by omega
 obtain ⟨R, hR⟩ : ∃ R, numG base least most s.data.toList = R := ⟨_, rfl⟩
 have hR2 : (match numF base 0 s.data.toList with
  | some n => (n : Int)
  | none => -1) = R := by rw [← hR]; unfold numG; rw [if_neg (by omega)]
 rw [hR]
 have hb16 : base ≤ 16 := by omega
 have hb10 : 10 ≤ base := by omega
 have hmx : base ^ s.size ≤ 1000000000000000000 := by
  rcases hB with ⟨rfl, _, rfl⟩ | ⟨rfl, _, rfl⟩
  ·exact Nat.le_trans (Nat.pow_le_pow_right (by decide) (by omega : s.size ≤ 6)) (by decide)
  ·exact Nat.le_trans (Nat.pow_le_pow_right (by decide) (by omega : s.size ≤ 18)) (by decide)
 have HP := Lib.hid (And.intro hb16 (And.intro hb10 (And.intro hmx hln)))
 have HR := Lib.hid hR2
 clear hB hR hR2 h1 h2 hln hb10 hmx
 go_enter Tryz.func97, Tryz.ntmps97
 go_wp2_with fail
 clear g1 g2
 go_loopw [9, 10] (fun u v wr => ∃ (i n : Nat), u = .int .i64 (n : Nat) ∧ v = .int .i64 (i : Nat) ∧ i ≤ s.size ∧ Hid (n < base ^ i ∧ (match numF base n (s.data.toList.drop i) with
  | some n => (n : Int)
  | none => -1) = R) ∧ Below w.heap.size w wr) (fun _ v _ => s.size - (RowKit.intOf v).toNat)
 case atStart => exact ⟨0, 0, rfl, rfl, Nat.zero_le _, Lib.hid ⟨by simp, by rw [List.drop_zero]; exact HR.out⟩, Below.refl _ _⟩
 case round =>
  obtain ⟨i, n, rfl, rfl, hi, hn, hbr⟩ := hrel
  by_cases hlt : i < s.size
  ·have e1 : (i : Int) < s.size := by omega
   have HI := fun W => yAt_run s i hlt W
   have HD := yAt_drop s i hlt
   obtain ⟨b, hb⟩ : ∃ b, yAt s i = b := ⟨_, rfl⟩
   rw [hb] at HI HD
   have HX := Lib.hid (And.intro HD hbr)
   clear HD hbr hb
   go_wp2_with fail
   go_loopw [11, 12] (fun u v wr => ∃ (k : Nat), u = .int .i64 (dK b k) ∧ v = .int .i64 (k : Nat) ∧ k ≤ base ∧ Below w.heap.size w wr) (fun _ v _ => base - (RowKit.intOf v).toNat)
   case atStart => exact ⟨0, by rw [dK_zero], rfl, Nat.zero_le _, HX.out.2⟩
   case round =>
    obtain ⟨k, rfl, rfl, hk, hbr2⟩ := hrel
    by_cases hkb : k < base
    ·have e2 : (k : Int) < (base : Nat) := by omega
     have hk16 : k < 16 := by omega
     have HLo := fun W => yAt_run lowD k hk16 W
     have HUp := fun W => yAt_run uppD k hk16 W
     unfold lowD at HLo
     unfold uppD at HUp
     have hk1 : IntKind.i64.wrap ((k : Int) + 1) = ((k + 1 : Nat) : Int) := by rw [IntWalk.i64_in _ (by omega)]; omega
     obtain ⟨c, hc⟩ : ∃ c : Int, (b.toNat : Int) = c := ⟨_, rfl⟩
     obtain ⟨lo, hlo⟩ : ∃ c : Int, ((yAt lowD k).toNat : Int) = c := ⟨_, rfl⟩
     obtain ⟨up, hup⟩ : ∃ c : Int, ((yAt uppD k).toNat : Int) = c := ⟨_, rfl⟩
     rw [show (yAt ⟨#[48, 49, 50, 51, 52, 53, 54, 55, 56, 57, 97, 98, 99, 100, 101, 102]⟩ k) = yAt lowD k from rfl, hlo] at HLo
     rw [show (yAt ⟨#[48, 49, 50, 51, 52, 53, 54, 55, 56, 57, 65, 66, 67, 68, 69, 70]⟩ k) = yAt uppD k from rfl, hup] at HUp
     rw [hc] at HI
     obtain ⟨dv, hdv⟩ : ∃ dv : Int, dK b k = dv := ⟨_, rfl⟩
     by_cases hcl : c = lo
     ·have q1 : (c == lo) = true := by simp [hcl]
      have HN := Lib.hid (dK_yes hk16 (.inl (show b.toNat = (yAt lowD k).toNat by omega)))
      rw [hdv]
      have HBR := Lib.hid hbr2
      clear hc hlo hup hbr2 hdv hcl
      go_wp2_with fail
      go_quiet (fail)
      go_wp2
      go_roundw
      case rel => exact ⟨k + 1, by rw [HN.out], by go_num, by omega, below_drewN HBR.out _⟩
      case measure => simp [RowKit.intOf]; omega
     ·have q1 : (c == lo) = false := beq_eq_false_iff_ne.2 hcl
      by_cases hcu : c = up
      ·have q2 : (c == up) = true := by simp [hcu]
       have HN := Lib.hid (dK_yes hk16 (.inr (show b.toNat = (yAt uppD k).toNat by omega)))
       rw [hdv]
       have HBR := Lib.hid hbr2
       clear hc hlo hup hbr2 hdv hcl hcu
       go_wp2_with fail
       go_quiet (fail)
       go_wp2
       go_roundw
       case rel => exact ⟨k + 1, by rw [HN.out], by go_num, by omega, below_drewN HBR.out _⟩
       case measure => simp [RowKit.intOf]; omega
      ·have q2 : (c == up) = false := beq_eq_false_iff_ne.2 hcu
       have HN := Lib.hid ((dK_no hk16 (show b.toNat ≠ (yAt lowD k).toNat by omega) (show b.toNat ≠ (yAt uppD k).toNat by omega)).trans hdv)
       rw [hdv]
       have HBR := Lib.hid hbr2
       clear hc hlo hup hbr2 hdv hcl hcu
       go_wp2_with fail
       go_quiet (fail)
       go_wp2
       go_roundw
       case rel => exact ⟨k + 1, by rw [HN.out], by go_num, by omega, below_drewN HBR.out _⟩
       case measure => simp [RowKit.intOf]; omega
    ·have e2 : ¬ (k : Int) < (base : Nat) := by omega
     obtain rfl : k = base := by omega
     have hk1 : IntKind.i64.wrap ((i : Int) + 1) = ((i + 1 : Nat) : Int) := by rw [IntWalk.i64_in _ (by omega)]; omega
     have hdd := dK_dig b k
     have hst := hn.out.2
     rw [HX.out.1, numF] at hst
     cases hdg : digB k b with
     | none =>
       rw [hdg] at hdd hst
       have HS := Lib.hid hst
       have HBR := Lib.hid hbr2
       rw [hdd]
       clear hdd hst hbr2 hdg hkb
       go_wp2
       go_ret
       exact ⟨by rw [← HS.out]; rfl, HBR.out⟩
     | some d =>
       rw [hdg] at hdd hst
       have hd := digB_lt hdg
       have hpw : k * n + d < k ^ (i + 1) := by
        rw [Nat.pow_succ, Nat.mul_comm (k ^ i)]
        have h3 : k * (n + 1) ≤ k * k ^ i := Nat.mul_le_mul_left _ hn.out.1
        rw [Nat.mul_add] at h3
        omega
       have hle : k ^ (i + 1) ≤ k ^ s.size := Nat.pow_le_pow_right (by have := HP.out.2.1; omega) (by omega)
       have hmx := HP.out.2.2.1
       have w1 : IntKind.i64.wrap ((k : Int) * (n : Int)) = ((k * n : Nat) : Int) := by rw [IntWalk.i64_in _ (by rw [← Int.natCast_mul]; omega)]; exact (Int.natCast_mul _ _).symm
       have w2 : IntKind.i64.wrap (((k * n : Nat) : Int) + (d : Int)) = ((k * n + d : Nat) : Int) := by rw [IntWalk.i64_in _ (by omega)]; omega
       have d0 : ¬ (d : Int) < 0 := by omega
       have HS := Lib.hid (And.intro hpw hst)
       have HBR := Lib.hid hbr2
       simp only at hdd
       rw [hdd]
       obtain ⟨K, hK⟩ : ∃ K : Nat, k * n = K := ⟨_, rfl⟩
       rw [hK] at w1 w2
       have HK := Lib.hid hK
       clear hdd hst hbr2 hdg hkb hpw hle hmx hd hK
       go_wp2
       go_roundw
       case rel => exact ⟨i + 1, K + d, by go_num, by go_num, by omega, Lib.hid ⟨by rw [← HK.out]; exact HS.out.1, by rw [← HK.out]; exact HS.out.2⟩, HBR.out⟩
       case measure => simp [RowKit.intOf]; omega
  ·have e1 : ¬ (i : Int) < s.size := by omega
   have hr := hn.out.2
   rw [List.drop_eq_nil_of_le (by have := HP.out.2.2.2; omega)] at hr
   have hr2 : (n : Int) = R := hr
   have HR2 := Lib.hid hr2
   clear hr hr2 hlt
   go_wp2
   go_ret
   exact ⟨by rw [← HR2.out]; rfl, hbr⟩
end Go.Proofs.YthhepebkfokddaaGreatDoor
