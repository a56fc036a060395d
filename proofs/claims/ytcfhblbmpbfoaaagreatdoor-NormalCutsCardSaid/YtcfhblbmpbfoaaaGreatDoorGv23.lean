/- Parts of the proof of what the last text says. -/
import Derived.Test.YtcfhblbmpbfoaaaGreatDoorGv17
import Derived.Test.YtcfhblbmpbfoaaaGreatDoorGv22
import Derived.Test.YtcfhblbmpbfoaaaGreatDoorLpx
import Derived.Test.YtcfhblbmpbfoaaaGreatDoorLcx
import Derived.Test.YtcfhblbmpbfoaaaGreatDoorGv19
import Derived.Test.YtcfhblbmpbfoaaaGreatDoorUrx
import Derived.Test.YtcfhblbmpbfoaaaGreatDoorGv3
import Derived.Test.YtcfhblbmpbfoaaaGreatDoorUox
import Derived.Deep.AppendLies
import Derived.Test.YtcfhblbmpbfoaaaGreatDoorGv15
import Derived.Test.YtcfhblbmpbfoaaaGreatDoorGv6
import Derived.Test.YtcfhblbmpbfoaaaGreatDoorGv11
import Derived.Test.YtcfhblbmpbfoaaaGreatDoorUpx
import Derived.Test.YtcfhblbmpbfoaaaGreatDoorGv20
import Derived.Lib.AppendZeros
namespace Go.Proofs.YtcfhblbmpbfoaaaGreatDoor
open Go Go.RowKit Go.Kt Go.Kt.Rg Go.Maps

structure XdS where
  cs : List (Nat × Nat × Int)
  ks : List (Nat × Nat × Int)
  fl : List Ln3
  dl : List Ln3
def fdL (l : List Ln3) (x : Nat) : Option Ln3 := l.find? fun y => y.1 == x
structure XRel (X : XdS) (S : RdS) : Prop where
  cs : S.cs = X.cs
  ks : S.ks = X.ks
  fs : S.fs = fun x => (fdL X.fl x).map (·.2.1)
  ds : S.ds = fun x => (fdL X.dl x).map (·.2.1)
  ls : S.ls = fun x => (fdL X.dl x).map (·.2.2)
  nd : (X.dl.map (·.1)).Nodup
variable {X : XdS} {S : RdS}
def LstB (ds : DsT) (l : List Ln3) (least : Int) (no line : Nat) : Prop :=
  (least = -1 ∧ no = 0 ∧ line = 0 ∧ ∀ y ∈ l, FineD ds y.1) ∨ ∃ y ∈ l, least = (y.1 : Nat) ∧ BadN ds y.1 no ∧ line = y.2.2 ∧ ∀ z ∈ l, (FineD ds z.1 ∨ y.1 ≤ z.1)
def allD (S : RdS) : List Nat := (List.range 1114112).filter fun x => (S.ds x).isSome
end Go.Proofs.YtcfhblbmpbfoaaaGreatDoor
namespace Go.Proofs.YtcfhblbmpbfoaaaGreatDoor
open Go Go.RowKit Go.Kt Go.Kt.Rg Go.Maps

def xdcpV (l : List Ln3) (r : Int) : List Nat := if sylP r then partsP (r - 44032).toNat else (ofL l r).getD []
def fullD (dl : List Ln3) : Nat → Nat → Option Nat
  | 0, _ => none
  | f + 1, r => if xdcpV dl (r : Int) = [] then some 1 else sumO (fullD dl f) (xdcpV dl (r : Int))
variable {X : XdS} {S : RdS} {k : Nat}
theorem parts_jam {n : Nat} (hn : n < 11172) : ∀ y ∈ partsP n, hanP (y : Int) = true ∧ sylP (y : Int) = false := by
  intro y hy
  have h : jamP (y : Int) = true := by
    rw [jam_iff]
    unfold partsP at hy
    simp only [List.mem_append, List.mem_cons, List.not_mem_nil, or_false] at hy
    rcases hy with (rfl | rfl) | hy
    · simp; omega
    · simp; omega
    · split at hy
      · cases hy
      · rename_i h0
        rw [List.mem_singleton] at hy
        subst hy
        simp; omega
  refine ⟨by rw [han_two, h, Bool.or_true], ?_⟩
  rw [jam_iff] at h
  rw [syl_iff]
  simp at h ⊢
  omega
theorem syl_rng {x : Nat} (h : sylP (x : Int) = true) : 44032 ≤ x ∧ x - 44032 < 11172 := by
  rw [syl_iff] at h
  simp at h
  omega
/-! ### Flags of what ends -/
def OkZ (dl : List Ln3) (kn : List Bool) (z : Nat) : Prop := ∀ (m : Nat) (x : Ln3), dl[m]? = some x → x.1 = z → kn[m]? = some true
def SoundK (ds : DsT) (dl : List Ln3) (kn : List Bool) : Prop := kn.length = dl.length ∧ ∀ (i : Nat) (y : Ln3), dl[i]? = some y → kn[i]? = some true → ∃ n, EndA ds y.1 n
/-! ### The least pair -/
def LeastI (l : List Ln3) (a b : Int) : Option Nat → Prop
  | none => ∀ y ∈ l, toZ y.2.1 ≠ [a, b]
  | some x => (∃ y ∈ l, y.1 = x ∧ toZ y.2.1 = [a, b]) ∧ ∀ z ∈ l, toZ z.2.1 = [a, b] → x ≤ z.1
end Go.Proofs.YtcfhblbmpbfoaaaGreatDoor
namespace Go.Proofs.YtcfhblbmpbfoaaaGreatDoor
open Go Go.RowKit Go.Kt Go.Kt.Rg Go.Maps Go.Kt.Sg

def fullP (S : RdS) : Nat → Int → List Int
  | 0, r => [r]
  | f + 1, r => if dcpV S r = [] then [r] else (dcpV S r).flatMap fun y : Nat => fullP S f (y : Int)
def EndP (S : RdS) : Nat → Int → Prop
  | 0, _ => False
  | f + 1, r => ∀ y ∈ dcpV S r, EndP S f (y : Int)
variable {S : RdS}
theorem EndP.up : ∀ {f : Nat} {r : Int}, EndP S f r → EndP S (f + 1) r
  | 0, _, h => h.elim
  | _ + 1, _, h => fun y hy => (h y hy).up
theorem EndP.mono {f g : Nat} {r : Int} (h : EndP S f r) (k : f ≤ g) : EndP S g r := by
  obtain ⟨n, rfl⟩ : ∃ n, g = f + n := ⟨g - f, by omega⟩
  clear k
  induction n with
  | zero => exact h
  | succ n ih => exact ih.up
theorem fullP_up : ∀ {f : Nat} {r : Int}, EndP S f r → fullP S (f + 1) r = fullP S f r
  | 0, _, h => h.elim
  | f + 1, r, h => by
    rw [fullP, fullP]
    split
    · rfl
    · rw [List.flatMap_def, List.flatMap_def]
      congr 1
      exact List.map_congr_left fun y hy => fullP_up (h y hy)
theorem fullP_mono {f g : Nat} {r : Int} (h : EndP S f r) (k : f ≤ g) : fullP S g r = fullP S f r := by
  obtain ⟨n, rfl⟩ : ∃ n, g = f + n := ⟨g - f, by omega⟩
  clear k
  induction n with
  | zero => rfl
  | succ n ih => exact (fullP_up (h.mono (Nat.le_add_right f n))).trans ih
theorem dcp_jam {k : Nat} (hS : RdOk k S) {y : Nat} (h1 : hanP (y : Int) = true) (h2 : sylP (y : Int) = false) : dcpV S (y : Int) = [] := by
  unfold dcpV
  rw [if_neg (by rw [h2]; decide), atZ_nat]
  cases hd : S.ds y with
  | none => rfl
  | some l => have := (hS.ds y l hd).1.2; rw [h1] at this; cases this
theorem full_one {f : Nat} {r : Int} (h : dcpV S r = []) : fullP S f r = [r] := by
  cases f with
  | zero => rfl
  | succ f => rw [fullP, if_pos h]
theorem flat_len {g : Nat → List Int} {q : Nat → Option Nat} : ∀ {l : List Nat} {n : Nat}, (∀ y ∈ l, ∀ m, q y = some m → (g y).length = m) → sumO q l = some n → (l.flatMap g).length = n
  | [], n, _, e => by cases e; rfl
  | y :: t, n, h, e => by
    rw [sumO] at e
    cases hy : q y with
    | none => rw [hy] at e; cases e
    | some a =>
      cases ht : sumO q t with
      | none => rw [hy, ht] at e; cases e
      | some b =>
        rw [hy, ht] at e
        injection e with e
        rw [List.flatMap_cons, List.length_append, h y List.mem_cons_self a hy, flat_len (fun z hz => h z (List.mem_cons_of_mem _ hz)) ht, e]
theorem full_of {k : Nat} (hS : RdOk k S) : ∀ (f x n : Nat), fullN S.ds f x = some n → EndP S (f + 1) (x : Int) ∧ (fullP S (f + 1) (x : Int)).length = n
  | 0, x, n, e => by cases e
  | f + 1, x, n, e => by
    rw [fullN] at e
    cases hs : sylP (x : Int) with
    | true =>
      rw [if_pos hs] at e
      injection e with e
      obtain ⟨h1, h2⟩ := syl_rng hs
      have hx : dcpV S (x : Int) = partsP (x - 44032) := by
        unfold dcpV
        rw [if_pos hs, show ((x : Int) - 44032).toNat = x - 44032 by omega]
      refine ⟨fun y hy => ?_, ?_⟩
      · rw [hx] at hy
        obtain ⟨q1, q2⟩ := parts_jam h2 y hy
        intro z hz
        rw [dcp_jam hS q1 q2] at hz
        cases hz
      · rw [fullP, hx, if_neg (by unfold partsP; simp), ← e]
        have : ∀ l : List Nat, (∀ y ∈ l, (fullP S (f + 1) (y : Int)).length = 1) → (l.flatMap fun y : Nat => fullP S (f + 1) (y : Int)).length = l.length := by
          intro l
          induction l with
          | nil => intro _; rfl
          | cons y t ih => intro h; rw [List.flatMap_cons, List.length_append, h y List.mem_cons_self, ih fun z hz => h z (List.mem_cons_of_mem _ hz), List.length_cons, Nat.add_comm]
        refine this _ fun y hy => ?_
        obtain ⟨q1, q2⟩ := parts_jam h2 y hy
        rw [full_one (dcp_jam hS q1 q2)]; rfl
    | false =>
      rw [if_neg (by rw [hs]; decide)] at e
      have hx : dcpV S (x : Int) = (S.ds x).getD [] := by
        unfold dcpV
        rw [if_neg (by rw [hs]; decide), atZ_nat]
      cases hd : S.ds x with
      | none =>
        rw [hd] at e hx
        injection e with e
        refine ⟨fun y hy => ?_, ?_⟩
        · rw [hx] at hy; cases hy
        · rw [full_one hx, ← e]; rfl
      | some l =>
        rw [hd] at e hx
        simp only [Option.getD_some] at hx
        have hl := (hS.ds x l hd).2.1.1
        refine ⟨fun y hy => ?_, ?_⟩
        · rw [hx] at hy
          obtain ⟨a, ha⟩ := sumO_some e y hy
          exact (full_of hS f y a ha).1
        · rw [fullP, hx, if_neg (by intro h9; rw [h9] at hl; simp at hl)]
          exact flat_len (fun y hy m hm => (full_of hS f y m hm).2) e
structure FullE (S : RdS) (fl : Int → List Int) : Prop where
  eq : ∀ r, fl r = if dcpV S r = [] then [r] else (dcpV S r).flatMap fun y : Nat => fl (y : Int)
  fin : ∃ F, ∀ r, EndP S F r
  len : ∀ r, 1 ≤ (fl r).length ∧ (fl r).length ≤ 8
theorem full_all {k : Nat} (hS : RdOk k S) {L : List Nat} (hL : ∀ x, (S.ds x).isSome = true → x ∈ L) (hF : ∀ x ∈ L, FineD S.ds x) : ∃ F, FullE S (fullP S F) ∧ ∀ r, EndP S F r := by
  have h1 : ∃ F, ∀ x ∈ L, EndP S F (x : Int) ∧ (fullP S F (x : Int)).length ≤ 8 := by
    clear hL
    induction L with
    | nil => exact ⟨0, fun x hx => by cases hx⟩
    | cons x t ih =>
      obtain ⟨F, hF1⟩ := ih fun y hy => hF y (List.mem_cons_of_mem _ hy)
      obtain ⟨n, ⟨f, hf⟩, hn⟩ := hF x List.mem_cons_self
      obtain ⟨e1, e2⟩ := full_of hS f x n hf
      refine ⟨max F (f + 1), fun y hy => ?_⟩
      rcases List.mem_cons.1 hy with rfl | hy
      · exact ⟨e1.mono (Nat.le_max_right _ _), by rw [fullP_mono e1 (Nat.le_max_right _ _), e2]; exact hn⟩
      · obtain ⟨q1, q2⟩ := hF1 y hy
        exact ⟨q1.mono (Nat.le_max_left _ _), by rw [fullP_mono q1 (Nat.le_max_left _ _)]; exact q2⟩
  obtain ⟨F, hF1⟩ := h1
  have hall : ∀ r, EndP S (F + 2) r ∧ (fullP S (F + 2) r).length ≤ 8 := by
    intro r
    cases hs : sylP r with
    | true =>
      obtain ⟨x, rfl⟩ : ∃ x : Nat, r = (x : Int) := by
        rw [syl_iff] at hs
        exact ⟨r.toNat, by simp at hs; omega⟩
      have h9 : fullN S.ds 1 x = some (partsP (x - 44032)).length := by rw [fullN, if_pos hs]
      obtain ⟨e1, e2⟩ := full_of hS 1 x _ h9
      refine ⟨e1.mono (by omega), ?_⟩
      rw [fullP_mono e1 (by omega), e2]
      unfold partsP
      simp only [List.length_append, List.length_cons, List.length_nil]
      split <;> simp
    | false =>
      by_cases h0 : 0 ≤ r
      · obtain ⟨x, rfl⟩ : ∃ x : Nat, r = (x : Int) := ⟨r.toNat, by omega⟩
        cases hd : S.ds x with
        | none =>
          have hx : dcpV S (x : Int) = [] := by unfold dcpV; rw [if_neg (by rw [hs]; decide), atZ_nat, hd]; rfl
          exact ⟨fun y hy => (by rw [hx] at hy; cases hy), by rw [full_one hx]; simp⟩
        | some l =>
          obtain ⟨q1, q2⟩ := hF1 x (hL x (by rw [hd]; rfl))
          exact ⟨q1.mono (by omega), by rw [fullP_mono q1 (by omega)]; exact q2⟩
      · have hx : dcpV S r = [] := by unfold dcpV; rw [if_neg (by rw [hs]; decide), atZ_neg _ _ (by omega)]; rfl
        exact ⟨fun y hy => (by rw [hx] at hy; cases hy), by rw [full_one hx]; simp⟩
  have hne : ∀ f r, 1 ≤ (fullP S f r).length := by
    intro f
    induction f with
    | zero => intro r; exact Nat.le_refl _
    | succ f ih =>
      intro r
      rw [fullP]
      split
      · exact Nat.le_refl _
      · rename_i h
        cases hd : dcpV S r with
        | nil => exact absurd hd h
        | cons y t => rw [List.flatMap_cons, List.length_append]; have := ih (y : Int); omega
  refine ⟨F + 2, ⟨fun r => ?_, ⟨F + 2, fun r => (hall r).1⟩, fun r => ⟨hne _ _, (hall r).2⟩⟩, fun r => (hall r).1⟩
  conv => lhs; rw [← fullP_up (hall r).1]
  rw [fullP]
theorem full_parse {l : List UInt8} {line : Nat} {L : List Nat} (h : ParseR l 0 line S L) : RdOk 1048576 S ∧ ∃ fl, FullE S fl := by
  rcases h with ⟨_, h1, _⟩ | ⟨_, h1, h2, _⟩ | ⟨h0, h1, h2, _, h4, h5, _⟩
  · cases h1
  · exact absurd h2.symm h1
  · have hk := readP_ok (linesP l) 0 0 rd0 rd0_ok h1
    rw [← h2] at hk
    have hz : (linesP l).length ≤ 65536 := by rw [linesP_len]; omega
    have hS : RdOk 1048576 S := hk.mono (by omega)
    refine ⟨hS, ?_⟩
    rcases ringP_spec S L (L.length + 1) (fun y hy => (h4 y).2 hy) (Nat.lt_succ_self _) L (fun _ => none) (leInv_none _) leOk_none with ⟨_, q2⟩ | ⟨a, x, b, no, _, _, q3, q4⟩
    · obtain ⟨F, h9, _⟩ := full_all hS (fun x hx => (h4 x).2 hx) q2
      exact ⟨_, h9⟩
    · rw [q4] at h5
      exact absurd h5.symm q3.ne
end Go.Proofs.YtcfhblbmpbfoaaaGreatDoor
namespace Go.Proofs.YtcfhblbmpbfoaaaGreatDoor
open Go Go.RowKit Go.Kt Go.Kt.Sg Go.Shelf Go.Lib Go.Sort Go.Kt.Rg Go.Maps

theorem tinfoN : (Tryz.prog.info? 78).map (fun i => (i.zero, i.size, i.bytes)) = some (some (.agg #[.int .i32 0, .int .i64 0]), 2, 16) := by kernel_rfl
def encRN (l : List Pt) : List Value := l.flatMap encPn
theorem encRN_len (l : List Pt) : (encRN l).length = l.length * 2 := by
  induction l with
  | nil => rfl
  | cons x t ih => unfold encRN at ih ⊢; rw [List.flatMap_cons, List.length_append, ih, List.length_cons]; simp [encPn]; omega
theorem encRN_append (a b : List Pt) : encRN (a ++ b) = encRN a ++ encRN b := by unfold encRN; rw [List.flatMap_append]
theorem encRN_get : ∀ (l : List Pt) (i : Nat) (x : Pt), l[i]? = some x → (encRN l)[i * 2]? = some (.int .i32 x.1) ∧ (encRN l)[i * 2 + 1]? = some (.int .i64 x.2)
  | [], _, _, h => by cases h
  | y :: t, 0, x, h => by
    injection h with h; subst h
    exact ⟨rfl, rfl⟩
  | y :: t, i + 1, x, h => by
    have ih := encRN_get t i x (by simpa using h)
    have e : encRN (y :: t) = .int .i32 y.1 :: .int .i64 y.2 :: encRN t := rfl
    rw [e, show (i + 1) * 2 = i * 2 + 1 + 1 by omega]
    exact ⟨by simpa using ih.1, by simpa using ih.2⟩
theorem encRN_one (l : List Pt) : ∀ u ∈ encRN l, u.oneCell' = true := fun u hu => by
  obtain ⟨x, _, hx⟩ := List.mem_flatMap.1 hu
  simp [encPn] at hx
  rcases hx with rfl | rfl <;> rfl
theorem rowV_own {Y : Nat → Prop} {v : Value} {l : List Pt} {W : World} (h : OwnS Y 78 2 v l.length (encRN l) W) : RowV W v l := by
  rcases h.shape with ⟨rfl, h0⟩ | ⟨g, cap, rfl, _, hg⟩
  · exact ⟨none, 0, by rw [h0], by omega, .inl (List.eq_nil_of_length_eq_zero h0)⟩
  · have hc := h.1.cells (g := g) rfl
    rcases h.1.2 with ⟨h1, _⟩ | ⟨g', cap', cur, h1, _, hgb, hnc, _⟩
    · cases h1
    · injection h1 with e1 _ e3
      injection e1 with e1
      injection e1 with e1
      subst e1 e3
      refine ⟨_, _, rfl, hnc, .inr ⟨g, 0, rfl, hg, rowM_iff.2 fun i x hx => ?_⟩⟩
      have e := encRN_get l i x hx
      have c0 := hc _ _ e.1
      have c1 := hc _ _ e.2
      rw [Addr.add_lit, Nat.zero_add] at c0 c1
      exact ⟨⟨by rw [Nat.zero_add]; exact c0, Lib.frozen_of_heap hgb _⟩, ⟨by rw [Nat.zero_add]; exact c1, Lib.frozen_of_heap hgb _⟩⟩
theorem app_rows {Y : Nat → Prop} {v u : Value} {R X : List Pt} {W : World} (h : OwnS Y 78 2 v R.length (encRN R) W) (hu : RowV W u X) (hX : X ≠ []) (hz : R.length + X.length ≤ 4294967296) :
    ∃ ao cap w', (∀ ty, (Builtin.append_ #[61, 61] ty #[v, u]).run Tryz.prog W = .ok (.slice ao (R ++ X).length cap) w') ∧
      OwnS (fun b => v.ownBlock = some b ∨ W.heap.size ≤ b) 78 2 (.slice ao (R ++ X).length cap) (R ++ X).length (encRN (R ++ X)) w' ∧ Keep (fun b => v.ownBlock = some b) W w' := by
  obtain ⟨i, hi, hz2, hs1, hb1⟩ := info_parts tinfoN
  obtain ⟨p, cap, rfl, hcap, hr⟩ := hu
  rcases hr with hr | ⟨g, o, rfl, hg, hr⟩
  · exact absurd hr hX
  have hcell : ∀ j u, (encRN X)[j]? = some u → W.cell? ((⟨g, o, none⟩ : Addr).add j) = some u := fun j u hj => by
    have hjl := (List.getElem?_eq_some_iff.1 hj).1
    rw [encRN_len] at hjl
    obtain ⟨x, hx⟩ : ∃ x, X[j / 2]? = some x := ⟨_, List.getElem?_eq_getElem (by omega)⟩
    have e := encRN_get X _ x hx
    have q := rowM_iff.1 hr _ x hx
    rw [Addr.add_lit]
    rcases (by omega : j % 2 = 0 ∨ j % 2 = 1) with k | k
    · have h9 : j / 2 * 2 = j := by omega
      have e1 := e.1
      have q1 := q.1.1
      rw [h9] at e1 q1
      exact q1.trans (e1.symm.trans hj)
    · have h9 : j / 2 * 2 + 1 = j := by omega
      have e1 := e.2
      have q1 := q.2.1
      rw [h9] at e1
      rw [show o + j / 2 * 2 + 1 = o + j by omega] at q1
      exact q1.trans (e1.symm.trans hj)
  have hm1 : 0 < X.length := List.length_pos_iff.2 hX
  obtain ⟨g', cap', w', hrun, r1, r2, r3, _⟩ := run_append_lies (P := Tryz.prog) W 61 0 0 78 i _ 2 16 Tryz.underlying61 hi hz2 hs1 hb1 rfl (by decide) v R.length (encRN R) h.1 ⟨g, o, none⟩ X.length cap (encRN X) (encRN_len X) hcell (encRN_one X) hm1 (by unfold maxLen; omega) (by omega) (Nat.zero_le _) _ rfl
  have hrun' : ∀ ty, (Builtin.append_ #[61, 61] ty #[v, .slice (some ⟨g, o, none⟩) X.length cap]).run Tryz.prog W = .ok (.slice (some ⟨g', 0, none⟩) (R.length + X.length) cap') w' := fun ty => hrun
  rw [← encRN_append, ← List.length_append] at r1
  rw [← List.length_append] at hrun'
  refine ⟨_, cap', w', hrun', ⟨r1, fun b hb => ?_⟩, keep_grown r2⟩
  simp [Value.ownBlock] at hb
  subst hb
  rcases r3 with r3 | r3
  · exact .inl r3
  · exact .inr (by omega)
end Go.Proofs.YtcfhblbmpbfoaaaGreatDoor
namespace Go.Proofs.YtcfhblbmpbfoaaaGreatDoor
open Go Go.RowKit Go.Kt Go.Kt.Sg Go.Shelf Go.Lib Go.Sort Go.Kt.Rg Go.Maps

def pcR (S : RdS) (fl : Int → List Int) (r : Int) : List Pt := (fl r).map fun x => (x, clsV S x)
theorem pcR_len (S : RdS) (fl : Int → List Int) (r : Int) : (pcR S fl r).length = (fl r).length := by unfold pcR; rw [List.length_map]
def unkW (L : List Nat) (vs : Nat → Option Value) : Nat := unk L fun x => (vs x).map fun _ => (0 : Int)
structure SpC where
  S : RdS
  fl : Int → List Int
  H : Nat
  gp : Nat
  gs : Nat
  bm : Nat
  CK : Nat
  L : List Nat
structure SpI (C : SpC) (R : List Pt) (v : Value) (nm : Nat) (vs : Nat → Option Value) (w : World) : Prop where
  cell : w.heap[C.gs]? = some (.cells #[.pointer (some ⟨C.gp, 0, none⟩), v, .map (some C.bm)] 141 (0, 0))
  row : OwnS (fun b => C.H ≤ b ∧ b ≠ C.gs ∧ b ≠ C.bm) 78 2 v R.length (encRN R) w
  map : MapG Tryz.prog 21 C.bm nm (ptF vs) w
  kn : ∀ x u, vs x = some u → RowV w u (pcR C.S C.fl (x : Nat)) ∧ ∃ g, u.ownBlock = some g ∧ C.H ≤ g ∧ g ≠ C.gs ∧ g ≠ C.bm ∧ v.ownBlock ≠ some g ∧ g < w.heap.size
  cnt : nm + unkW C.L vs ≤ C.CK
  gs : C.H ≤ C.gs
  bm : C.H ≤ C.bm
  ne : C.gs ≠ C.bm
def SpW (C : SpC) (R : List Pt) (w : World) : Prop := ∃ v nm vs, SpI C R v nm vs w
variable {C : SpC} {R : List Pt} {v : Value} {nm : Nat} {vs : Nat → Option Value} {w w' : World}
theorem SpI.below (h : SpI C R v nm vs w) (k : Below w.heap.size w w') : SpI C R v nm vs w' :=
  have kk : Keep (fun _ => False) w w' := Keep.of_all k
  { cell := kk.heap h.cell (fun h => h), row := h.row.keep kk (fun _ h => h.elim), map := h.map.keep kk (fun h => h)
    kn := fun x u hx => by
      obtain ⟨h1, g, h2, h3, h4, h5, h6, h7⟩ := h.kn x u hx
      exact ⟨h1.below k, g, h2, h3, h4, h5, h6, Nat.lt_of_lt_of_le h7 kk.size⟩
    cnt := h.cnt, gs := h.gs, bm := h.bm, ne := h.ne }
theorem SpI.gl (h : SpI C R v nm vs w) : C.gs < w.heap.size := (Array.getElem?_eq_some_iff.1 h.cell).1
theorem SpI.app {X : List Pt} {v' : Value} (h : SpI C R v nm vs w) (hk : Keep (fun b => b = C.gs ∨ v.ownBlock = some b) w w') (hc : w'.heap[C.gs]? = some (.cells #[.pointer (some ⟨C.gp, 0, none⟩), v', .map (some C.bm)] 141 (0, 0)))
    (ho : OwnS (fun b => (v.ownBlock = some b ∨ w.heap.size ≤ b) ∧ b ≠ C.gs) 78 2 v' (R ++ X).length (encRN (R ++ X)) w') : SpI C (R ++ X) v' nm vs w' where
  cell := hc
  row := ho.weaken fun b hb => by
    have := h.map.lt
    have hg := h.gs
    have hz := h.gl
    rcases hb with ⟨h1 | h1, h2⟩
    · have := h.row.2 b h1; exact ⟨this.1, h2, this.2.2⟩
    · exact ⟨by omega, h2, by omega⟩
  map := h.map.keep hk (fun hx => by
    rcases hx with e | e
    · exact h.ne e.symm
    · exact (h.row.2 _ e).2.2 rfl)
  kn := fun x u hx => by
    obtain ⟨h1, g, h2, h3, h4, h5, h6, h7⟩ := h.kn x u hx
    refine ⟨h1.keep hk (fun g' hg' hX => ?_), g, h2, h3, h4, h5, fun e => ?_, Nat.lt_of_lt_of_le h7 hk.size⟩
    · rw [h2] at hg'; injection hg' with e; subst e
      rcases hX with e | e
      · exact h4 e
      · exact h6 e
    · rcases (ho.2 g e).1 with e2 | e2
      · exact h6 e2
      · omega
  cnt := h.cnt
  gs := h.gs
  bm := h.bm
  ne := h.ne
theorem SpI.keepB {wB : World} (h : SpI C R v nm vs w) (hB : Below C.H wB w) (hz : C.H ≤ w.heap.size) (hk : Keep (fun b => b = C.gs ∨ v.ownBlock = some b) w w') : Below C.H wB w' :=
  hB.trans (hk.below hz fun b hb => by
    rcases hb with rfl | hb
    · exact h.gs
    · exact (h.row.2 b hb).1)
theorem unkW_put {L : List Nat} {vs : Nat → Option Value} {x : Nat} (hx : x ∈ L) (h : vs x = none) (u : Value) : unkW L (updN vs x u) + 1 ≤ unkW L vs := by
  have := unk_upd L (le := fun y => (vs y).map fun _ => (0 : Int)) hx (by simp only [h]; rfl) 0
  have e : (fun y => ((updN vs x u) y).map fun _ => (0 : Int)) = updN (fun y => (vs y).map fun _ => (0 : Int)) x 0 := by
    funext y
    unfold updN
    split <;> rfl
  unfold unkW
  rw [e]
  exact this
theorem SpI.put {x : Nat} {u : Value} (h : SpI C R v nm vs w) (hk : Keep (fun b => b = C.bm) w w') (hm : MapG Tryz.prog 21 C.bm (nm + 1) (putF (ptF vs) (.int .i32 (x : Int)) u) w') (hx : x ∈ C.L) (hn : vs x = none)
    (hu : RowV w u (pcR C.S C.fl (x : Nat))) (hg : ∃ g, u.ownBlock = some g ∧ C.H ≤ g ∧ g ≠ C.gs ∧ g ≠ C.bm ∧ v.ownBlock ≠ some g ∧ g < w.heap.size) : SpI C R v (nm + 1) (updN vs x u) w' where
  cell := hk.heap h.cell (fun e => h.ne e)
  row := h.row.keep hk (fun b hb hy => hy.2.2 hb)
  map := MapG.congr hm fun kl hkl => ptF_put vs x u kl hkl
  kn := fun y z hy => by
    unfold updN at hy
    split at hy
    · rename_i e
      injection hy with hy
      subst e hy
      obtain ⟨g, g1, g2, g3, g4, g5, g6⟩ := hg
      refine ⟨hu.keep hk (fun b hb e => ?_), g, g1, g2, g3, g4, g5, Nat.lt_of_lt_of_le g6 hk.size⟩
      rw [g1] at hb; injection hb with hb
      exact g4 (hb.trans e)
    · obtain ⟨h1, g, g1, g2, g3, g4, g5, g6⟩ := h.kn y z hy
      refine ⟨h1.keep hk (fun b hb e => ?_), g, g1, g2, g3, g4, g5, Nat.lt_of_lt_of_le g6 hk.size⟩
      rw [g1] at hb; injection hb with hb
      exact g4 (hb.trans e)
  cnt := by have := unkW_put hx hn u; have := h.cnt; omega
  gs := h.gs
  bm := h.bm
  ne := h.ne
end Go.Proofs.YtcfhblbmpbfoaaaGreatDoor
namespace Go.Proofs.YtcfhblbmpbfoaaaGreatDoor
open Go Go.RowKit Go.Kt Go.Kt.Sg Go.Shelf Go.Lib Go.Sort Go.Kt.Rg Go.Maps

def PutO (C : SpC) (f : Nat) (R : List Pt) (v : Value) (vs : Nat → Option Value) (X : List Pt) (w : World) (e : Ending) (w' : World) : Prop :=
  e = .returned (.tuple #[]) ∧ (∃ v' nm' vs', SpI C (R ++ X) v' nm' vs' w' ∧ (∀ b, v'.ownBlock = some b → v.ownBlock = some b ∨ w.heap.size ≤ b) ∧ ∀ z u, vs' z = some u → vs z = none → EndP C.S f (z : Int)) ∧
    Keep (fun b => b = C.gs ∨ b = C.bm ∨ v.ownBlock = some b) w w'
structure SpP (C : SpC) (md : MdT) (wB : World) : Prop where
  pr : PrW C.gp C.S md wB
  hH : wB.heap.size = C.H
  hd : ∀ x l, C.S.ds x = some l → 1 ≤ l.length ∧ l.length ≤ 8
  fe : FullE C.S C.fl
  hL : ∀ x : Nat, dcpV C.S (x : Int) ≠ [] → x ∈ C.L
  ck : C.CK ≤ 1099511627776
  vy : ∀ x : Int, ∀ y ∈ dcpV C.S x, y ≤ 1114111
variable {C : SpC} {md : MdT} {wB : World}
set_option maxRecDepth 100000 in
theorem rune_key {r : Int} (hr : I32 r) : keyOf Tryz.prog 21 (.int .i32 r) = some (.int .i32 r) :=
  keyOf_int_mk Tryz.underlying21 (WalkArith.wf_i32 (n := r) ⟨hr.1, by have := hr.2; omega⟩)
set_option maxRecDepth 100000 in
theorem SpI.look {R : List Pt} {v : Value} {nm : Nat} {vs : Nat → Option Value} {w : World} (h : SpI C R v nm vs w) {r : Int} (hr : I32 r) :
    (Instr.lookup 139 (.map (some C.bm)) (.int .i32 r) true).run Tryz.prog w = .ok (.tuple #[(atZ vs r).getD (.slice none 0 0), .bool (atZ vs r).isSome]) w := by
  have := h.map.look (int_keyed Tryz.underlying21) Tryz.underlying139 (z := .slice none 0 0) rfl (rune_key hr)
  rwa [ptF_atZ] at this

set_option maxRecDepth 100000 in
set_option maxHeartbeats 4000000 in
theorem put_known (f : Nat) {R : List Pt} {v u : Value} {nm : Nat} {vs : Nat → Option Value} (w : World) (h : SpI C R v nm vs w) {r : Int} (hr : I32 r) (hu : atZ vs r = some u) (hne : C.fl r ≠ []) (hz : R.length + (C.fl r).length ≤ 4294967296) :
    Calls Tryz.prog 89 #[.pointer (some ⟨C.gs, 0, none⟩), .int .i32 r] w (PutO C f R v vs (pcR C.S C.fl r) w) := by
  have hl := h.look hr
  rw [hu] at hl
  replace hl : (Instr.lookup 139 (.map (some C.bm)) (.int .i32 r) true).run Tryz.prog w = .ok (.tuple #[u, .bool true]) w := hl
  have hux : ∃ x : Nat, r = (x : Int) ∧ vs x = some u := by
    unfold atZ at hu
    split at hu
    · exact ⟨r.toNat, by omega, hu⟩
    · cases hu
  obtain ⟨x, rfl, hvx⟩ := hux
  obtain ⟨hrow, g, hg⟩ := h.kn x u hvx
  have hne' : pcR C.S C.fl (x : Int) ≠ [] := fun e => hne (by
    have := congrArg List.length e
    rw [pcR_len] at this
    exact List.eq_nil_of_length_eq_zero this)
  obtain ⟨ao, cap, w2, hrun, hown, hk⟩ := app_rows h.row hrow hne' (by rw [pcR_len]; exact hz)
  obtain ⟨av, cv, hv⟩ := own_slc h.row
  obtain ⟨uo, un, uc, hus⟩ : ∃ uo un uc, u = .slice uo un uc := by
    obtain ⟨p, cp, e, _⟩ := hrow
    exact ⟨p, _, cp, e⟩
  have c2 : w.cell? ⟨C.gs, 2, none⟩ = some (.map (some C.bm)) := by rw [Lib.cell_of_heap h.cell]; rfl
  have c1 : w.cell? ⟨C.gs, 1, none⟩ = some v := by rw [Lib.cell_of_heap h.cell]; rfl
  have hgs : ¬ v.ownBlock = some C.gs := fun e => (h.row.2 _ e).2.1 rfl
  have hc2 : w2.heap[C.gs]? = some (.cells #[.pointer (some ⟨C.gp, 0, none⟩), v, .map (some C.bm)] 141 (0, 0)) := hk.heap h.cell hgs
  have z1 : w2.cell? ⟨C.gs, 1, none⟩ = some v := by rw [Lib.cell_of_heap hc2]; rfl
  have zf : w2.frozen? ⟨C.gs, 1, none⟩ = false := Lib.frozen_of_heap hc2 _
  obtain ⟨n, hn⟩ : ∃ n, (R ++ pcR C.S C.fl (x : Int)).length = n := ⟨_, rfl⟩
  rw [hn] at hrun hown
  have HO := Lib.hid (And.intro h (And.intro hown (And.intro hk (And.intro hc2 hn))))
  have HR := Lib.hid hrun
  subst hv hus
  clear h hu hvx hrow hg hne hne' hrun hown hk hc2 hn hz hgs
  go_enter Tryz.func89, Tryz.ntmps89
  go_wp2_with (at_builtin; refine wpList_append_eq rfl rfl rfl rfl HR.out ?_)
  go_end0
  have hS : (w2.setCell ⟨C.gs, 1, none⟩ (.slice ao n cap)).heap[C.gs]? = some (.cells #[.pointer (some ⟨C.gp, 0, none⟩), .slice ao n cap, .map (some C.bm)] 141 (0, 0)) := by
    have := heap_setCell_same w2 C.gs 1 _ _ (.slice ao n cap) HO.out.2.2.2.1
    simpa using this
  have hk2 : Keep (fun b => b = C.gs) w2 (w2.setCell ⟨C.gs, 1, none⟩ (.slice ao n cap)) := Keep.setCell (X := fun b => b = C.gs) (Keep.refl _ w2) (p := ⟨C.gs, 1, none⟩) rfl _
  have hkk : Keep (fun b => b = C.gs ∨ (Value.slice av R.length cv).ownBlock = some b) w (w2.setCell ⟨C.gs, 1, none⟩ (.slice ao n cap)) := (HO.out.2.2.1.weaken fun _ _ h => .inr h).trans (hk2.weaken fun _ _ h => .inl h)
  have hne9 : ∀ b, ((Value.slice av R.length cv).ownBlock = some b ∨ w.heap.size ≤ b) → b ≠ C.gs := fun b hb e => by
    subst e
    rcases hb with hb | hb
    · exact (HO.out.1.row.2 _ hb).2.1 rfl
    · have := HO.out.1.gl; omega
  refine ⟨rfl, ⟨_, _, _, HO.out.1.app hkk hS ?_, fun b hb => HO.out.2.1.2 b hb, fun z u h1 h2 => by rw [h2] at h1; cases h1⟩, hkk.weaken fun b _ hb => by
    rcases hb with hb | hb
    · exact .inl hb
    · exact .inr (.inr hb)⟩
  rw [HO.out.2.2.2.2]
  exact (HO.out.2.1.keep hk2 (fun b hb hy => hne9 b hy hb)).weaken (fun b hb => ⟨hb, hne9 b hb⟩)


set_option maxRecDepth 100000 in
set_option maxHeartbeats 4000000 in
theorem put_leaf (f : Nat) {R : List Pt} {v : Value} {nm : Nat} {vs : Nat → Option Value} (w : World) (h : SpI C R v nm vs w) (hB : Below C.H wB w) (hP : SpP C md wB) {r : Int} (hr : I32 r) (hu : atZ vs r = none) (hne : dcpV C.S r = []) (hz : R.length + (C.fl r).length ≤ 4294967296) :
    Calls Tryz.prog 89 #[.pointer (some ⟨C.gs, 0, none⟩), .int .i32 r] w (PutO C f R v vs (pcR C.S C.fl r) w) := by
  have hl := h.look hr
  rw [hu] at hl
  replace hl : (Instr.lookup 139 (.map (some C.bm)) (.int .i32 r) true).run Tryz.prog w = .ok (.tuple #[.slice none 0 0, .bool false]) w := hl
  have hfl : C.fl r = [r] := by rw [hP.fe.eq, if_pos hne]
  rw [hfl] at hz
  have hz' : R.length + 1 ≤ 4294967296 := hz
  obtain ⟨cl, hcl0⟩ : ∃ cl, clsV C.S r = cl := ⟨_, rfl⟩
  have HC := Lib.hid hcl0
  have CD := Lib.hid (pdcpP w (hP.pr.below (by rw [hP.hH]; exact hB)) hP.hd r hr)
  rw [hne] at CD
  have c2 : w.cell? ⟨C.gs, 2, none⟩ = some (.map (some C.bm)) := by rw [Lib.cell_of_heap h.cell]; rfl
  have c0 : w.cell? ⟨C.gs, 0, none⟩ = some (.pointer (some ⟨C.gp, 0, none⟩)) := by rw [Lib.cell_of_heap h.cell]; rfl
  have HO := Lib.hid (And.intro h (And.intro hB (And.intro hP hfl)))
  have HP := Lib.hid hP
  clear h hB hP hu hne hz hfl hcl0
  go_enter Tryz.func89, Tryz.ntmps89
  go_wp2_with fail
  refine CD.out.mono ?_
  rintro e W1 ⟨⟨ao9, cp9, rfl, _⟩, hb⟩
  have HW : Hid (SpI C R v nm vs W1 ∧ Below C.H wB W1) := Lib.hid ⟨HO.out.1.below hb, HO.out.2.1.trans (hb.mono (by rw [← HP.out.hH]; exact HO.out.2.1.size))⟩
  have HBW := Lib.hid hb
  clear hb hl c0 c2 CD
  simp only [toZ, List.map_nil, List.length_nil]
  obtain ⟨kv, hkv0⟩ : ∃ kv, kv = v := ⟨_, rfl⟩
  subst hkv0
  go_wp2_with fail
  have hkg : kv.ownBlock ≠ some C.gs := fun h => (HW.out.1.row.2 _ h).2.1 rfl
  have hkv : ∀ b, kv.ownBlock = some b → b < W1.heap.size := fun b h => (HW.out.1.row.1.lt b h).2
  have hgl : C.gs < W1.heap.size := HW.out.1.gl
  have hcg : W1.heap[C.gs]? = some (.cells #[.pointer (some ⟨C.gp, 0, none⟩), kv, .map (some C.bm)] 141 (0, 0)) := HW.out.1.cell
  have hown0 := HW.out.1.row
  have hf1 : ∀ X : World, (Instr.fieldAt 141 (.pointer (some ⟨C.gs, 0, none⟩)) 1).run Tryz.prog X = .ok (.pointer (some ⟨C.gs, 1, none⟩)) X := fun X => by go_simp
  have hf0 : ∀ X : World, (Instr.fieldAt 141 (.pointer (some ⟨C.gs, 0, none⟩)) 0).run Tryz.prog X = .ok (.pointer (some ⟨C.gs, 0, none⟩)) X := fun X => by go_simp
  have hlr : ∀ X : World, X.heap[C.gs]? = some (.cells #[.pointer (some ⟨C.gp, 0, none⟩), kv, .map (some C.bm)] 141 (0, 0)) → (Instr.loadAt 61 (.pointer (some ⟨C.gs, 1, none⟩))).run Tryz.prog X = .ok kv X := fun X h => by
    have q : X.cell? ⟨C.gs, 1, none⟩ = some kv := by rw [Lib.cell_of_heap h]; rfl
    obtain ⟨ao4, cp4, hk4⟩ := own_slc hown0
    rw [hk4] at q ⊢
    go_simp
  have hlp : ∀ X : World, X.heap[C.gs]? = some (.cells #[.pointer (some ⟨C.gp, 0, none⟩), kv, .map (some C.bm)] 141 (0, 0)) → (Instr.loadAt 23 (.pointer (some ⟨C.gs, 0, none⟩))).run Tryz.prog X = .ok (.pointer (some ⟨C.gp, 0, none⟩)) X := fun X h => by
    have q : X.cell? ⟨C.gs, 0, none⟩ = some (.pointer (some ⟨C.gp, 0, none⟩)) := by rw [Lib.cell_of_heap h]; rfl
    go_simp
  have hcl : ∀ X, Keep (fun b => b = C.gs ∨ kv.ownBlock = some b) W1 X → Calls Tryz.prog 42 #[.pointer (some ⟨C.gp, 0, none⟩), .int .i32 r] X fun e w' => e = .returned (.int .i64 cl) ∧ Below X.heap.size X w' := fun X hX => by
    have hb : Below wB.heap.size wB X := by rw [HP.out.hH]; exact HW.out.1.keepB HW.out.2 (by rw [← HP.out.hH]; exact HW.out.2.size) hX
    have := pclsP X (HP.out.pr.below hb) r
    rwa [HC.out] at this
  have BD : ∀ W : World, (Instr.build 78 #[(0, .int .i32 r), (1, .int .i64 cl)]).run Tryz.prog W = .ok (.agg #[.int .i32 r, .int .i64 cl]) W := fun W => by go_simp
  have BS : ∀ W : World, (Instr.buildSlice 61 1 #[(0, .agg #[.int .i32 r, .int .i64 cl])]).run Tryz.prog W = .ok (.slice (some ⟨W.heap.size, 0, none⟩) 1 1) (W.alloc (.cells #[.int .i32 r, .int .i64 cl] 78)) := fun W => by go_simp
  have ST : ∀ (W : World) (ao9 : Option Addr) (m2 cap : Nat), W.heap[C.gs]? = some (.cells #[.pointer (some ⟨C.gp, 0, none⟩), kv, .map (some C.bm)] 141 (0, 0)) → (Instr.storeAt 61 (.pointer (some ⟨C.gs, 1, none⟩)) (.slice ao9 m2 cap)).run Tryz.prog W = .ok () (W.setCell ⟨C.gs, 1, none⟩ (.slice ao9 m2 cap)) := fun W ao9 m2 cap h => by
    have q : W.cell? ⟨C.gs, 1, none⟩ = some kv := by rw [Lib.cell_of_heap h]; rfl
    have q2 : W.frozen? ⟨C.gs, 1, none⟩ = false := Lib.frozen_of_heap h _
    go_simp
  have S1 : ∀ {W : World} {u : Value}, W.heap[C.gs]? = some (.cells #[.pointer (some ⟨C.gp, 0, none⟩), kv, .map (some C.bm)] 141 (0, 0)) → (W.setCell ⟨C.gs, 1, none⟩ u).heap[C.gs]? = some (.cells #[.pointer (some ⟨C.gp, 0, none⟩), u, .map (some C.bm)] 141 (0, 0)) := fun {W} {u} h => by
    have := heap_setCell_same W C.gs 1 _ _ u h
    simpa using this
  obtain ⟨ti, hti, hz, hs1, hbt⟩ := info_parts tinfoN
  have HI2 := And.intro hti (And.intro hz (And.intro hs1 hbt))
  have HOC : ∀ z ∈ ([.int .i32 r, .int .i64 cl] : List Value), z.oneCell' = true := by intro z hz; simp at hz; rcases hz with rfl | rfl <;> rfl
  obtain ⟨q, hq⟩ : ∃ q, R.length = q := ⟨_, rfl⟩
  obtain ⟨xs, hxs⟩ : ∃ xs, encRN R = xs := ⟨_, rfl⟩
  have HM1 : q + 1 ≤ maxLen := by unfold maxLen; omega
  have HM2 : (q + 1) * 16 ≤ 140737488355328 := by omega
  rw [hq, hxs] at hown0
  have HQ := Lib.hid (And.intro hq hxs)
  clear hq hxs
  obtain ⟨FF, hFF⟩ : ∃ FF : FldR, FF = ⟨C.gs, W1, kv, 78, 2, q, q + 1, xs, xs ++ [.int .i32 r, .int .i64 cl], 141, fun u => #[.pointer (some ⟨C.gp, 0, none⟩), u, .map (some C.bm)], #[.int .i32 r, .int .i64 cl], 14, 17, 13, fun z => match z with | 0 => some (.pointer (some ⟨C.gs, 0, none⟩)) | 1 => some (.pointer (some ⟨C.gs, 0, none⟩)) | 2 => some (.pointer (some ⟨C.gs, 0, none⟩)) | 3 => some (.pointer (some ⟨C.gs, 1, none⟩)) | 4 => some (kv) | 5 => some (.int .i32 r) | 6 => some (.pointer (some ⟨C.gs, 0, none⟩)) | 7 => some (.pointer (some ⟨C.gs, 0, none⟩)) | 8 => some (.pointer (some ⟨C.gs, 0, none⟩)) | 9 => some (.pointer (some ⟨C.gp, 0, none⟩)) | 10 => some (.int .i32 r) | 11 => some (.int .i64 cl) | 12 => some (.agg #[.int .i32 r, .int .i64 cl]) | 15 => some (.pointer (some ⟨C.gs, 0, none⟩)) | 16 => some (.pointer (some ⟨C.gs, 1, none⟩)) | _ => none⟩ := ⟨_, rfl⟩
  have H0 : FldR.S FF (fun _ => false) W1.drew := by rw [hFF]; exact ⟨fun _ => hcg, fun _ => OwnS.weaken (show OwnS (fun b => C.H ≤ b ∧ b ≠ C.gs ∧ b ≠ C.bm) _ _ _ _ _ W1.drew from hown0) (fun b h => h.2.1), (Keep.refl _ W1).drew⟩
  refine wp_region_done (FldR.S FF) (FldR.P FF) (by kernel_rfl) (by kernel_rfl) (by kernel_rfl) H0 ?hs ?hd
  case hs =>
    rw [hFF]
    refine DSteps.cons ?_ (DSteps.cons ?_ (DSteps.cons ?_ (DSteps.cons ?_ (DSteps.cons ?_ (DSteps.cons ?_ (DSteps.cons ?_ (DSteps.cons ?_ (DSteps.cons ?_ (DSteps.cons ?_ (DSteps.cons ?_ (DSteps.cons ?_ (DSteps.cons ?_ (DSteps.cons ?_ (DSteps.cons ?_ (DSteps.cons ?_ (DSteps.cons ?_ (DSteps.cons ?_ (DSteps.nil))))))))))))))))))
    · intro D2 a X hDi hDa _ hX hL hd
      refine ⟨rfl, ?_⟩
      have e0 : a.eval (.tmp 0) = .pointer (some ⟨C.gs, 0, none⟩) := hL.far 0 (by kernel_rfl)
      exact wp_value (exec_move rfl e0) ⟨_, rfl, hX.more, fun _ _ _ h => h, FldR.P.mk rfl ⟨by simp, by simp, by simp⟩⟩
    · intro D2 a X hDi hDa _ hX hL hd
      refine ⟨rfl, ?_⟩
      have e0 : a.eval (.tmp 0) = .pointer (some ⟨C.gs, 0, none⟩) := hL.far 0 (by kernel_rfl)
      exact wp_value (exec_move rfl e0) ⟨_, rfl, hX.more, fun _ _ _ h => h, FldR.P.mk rfl ⟨by simp, by simp, by simp⟩⟩
    · intro D2 a X hDi hDa _ hX hL hd
      refine ⟨rfl, ?_⟩
      have e0 : a.eval (.tmp 38) = .pointer (some ⟨C.gs, 0, none⟩) := (hd 1 38 (by kernel_rfl) (by kernel_rfl)).is rfl
      exact wp_value (exec_nilCheck rfl e0) ⟨_, rfl, hX.more, fun _ _ _ h => h, FldR.P.mk rfl ⟨by simp, by simp, by simp⟩⟩
    · intro D2 a X hDi hDa _ hX hL hd
      refine ⟨rfl, ?_⟩
      have e0 : a.eval (.tmp 39) = .pointer (some ⟨C.gs, 0, none⟩) := (hd 2 39 (by kernel_rfl) (by kernel_rfl)).is rfl
      exact wp_value (exec_fieldAddr rfl e0 (hf1 X)) ⟨_, rfl, hX.more, fun _ _ _ h => h, FldR.P.mk rfl ⟨by simp, by simp, by simp⟩⟩
    · intro D2 a X hDi hDa _ hX hL hd
      refine ⟨rfl, ?_⟩
      have e0 : a.eval (.tmp 40) = .pointer (some ⟨C.gs, 1, none⟩) := (hd 3 40 (by kernel_rfl) (by kernel_rfl)).is rfl
      exact wp_value (exec_load rfl e0 (hlr X (hX.1 (hDa 17 (by kernel_rfl))))) ⟨_, rfl, hX.more, fun _ _ _ h => h, FldR.P.mk rfl ⟨by simp, by simp, by simp⟩⟩
    · intro D2 a X hDi hDa _ hX hL hd
      refine ⟨rfl, ?_⟩
      have e0 : a.eval (.tmp 1) = .int .i32 r := hL.far 1 (by kernel_rfl)
      exact wp_value (exec_move rfl e0) ⟨_, rfl, hX.more, fun _ _ _ h => h, FldR.P.mk rfl ⟨by simp, by simp, by simp⟩⟩
    · intro D2 a X hDi hDa _ hX hL hd
      refine ⟨rfl, ?_⟩
      have e0 : a.eval (.tmp 0) = .pointer (some ⟨C.gs, 0, none⟩) := hL.far 0 (by kernel_rfl)
      exact wp_value (exec_move rfl e0) ⟨_, rfl, hX.more, fun _ _ _ h => h, FldR.P.mk rfl ⟨by simp, by simp, by simp⟩⟩
    · intro D2 a X hDi hDa _ hX hL hd
      refine ⟨rfl, ?_⟩
      have e0 : a.eval (.tmp 43) = .pointer (some ⟨C.gs, 0, none⟩) := (hd 6 43 (by kernel_rfl) (by kernel_rfl)).is rfl
      exact wp_value (exec_nilCheck rfl e0) ⟨_, rfl, hX.more, fun _ _ _ h => h, FldR.P.mk rfl ⟨by simp, by simp, by simp⟩⟩
    · intro D2 a X hDi hDa _ hX hL hd
      refine ⟨rfl, ?_⟩
      have e0 : a.eval (.tmp 44) = .pointer (some ⟨C.gs, 0, none⟩) := (hd 7 44 (by kernel_rfl) (by kernel_rfl)).is rfl
      exact wp_value (exec_fieldAddr rfl e0 (hf0 X)) ⟨_, rfl, hX.more, fun _ _ _ h => h, FldR.P.mk rfl ⟨by simp, by simp, by simp⟩⟩
    · intro D2 a X hDi hDa _ hX hL hd
      refine ⟨rfl, ?_⟩
      have e0 : a.eval (.tmp 45) = .pointer (some ⟨C.gs, 0, none⟩) := (hd 8 45 (by kernel_rfl) (by kernel_rfl)).is rfl
      exact wp_value (exec_load rfl e0 (hlp X (hX.1 (hDa 17 (by kernel_rfl))))) ⟨_, rfl, hX.more, fun _ _ _ h => h, FldR.P.mk rfl ⟨by simp, by simp, by simp⟩⟩
    · intro D2 a X hDi hDa _ hX hL hd
      refine ⟨rfl, ?_⟩
      have e0 : a.eval (.tmp 1) = .int .i32 r := hL.far 1 (by kernel_rfl)
      exact wp_value (exec_move rfl e0) ⟨_, rfl, hX.more, fun _ _ _ h => h, FldR.P.mk rfl ⟨by simp, by simp, by simp⟩⟩
    · intro D2 a X hDi hDa _ hX hL hd
      refine ⟨rfl, ?_⟩
      have e0 : a.eval (.tmp 46) = .pointer (some ⟨C.gp, 0, none⟩) := (hd 9 46 (by kernel_rfl) (by kernel_rfl)).is rfl
      have e1 : a.eval (.tmp 47) = .int .i32 r := (hd 10 47 (by kernel_rfl) (by kernel_rfl)).is rfl
      refine wp_enter (exec_call (vs := #[.pointer (some ⟨C.gp, 0, none⟩), .int .i32 r]) rfl (by simp only [List.map_toArray, List.map_cons, List.map_nil, e0, e1]) Tryz.func42 rfl rfl) ?_
      refine (hcl X hX.2.2).mono ?_
      rintro e w9 ⟨rfl, hb⟩
      exact ⟨_, rfl, _, rfl, (hX.below hb).more, fun _ _ _ h => h.below hb, FldR.P.mk rfl ⟨by simp, by simp, by simp⟩⟩
    · intro D2 a X hDi hDa _ hX hL hd
      refine ⟨rfl, ?_⟩
      have e0 : a.eval (.tmp 42) = .int .i32 r := (hd 5 42 (by kernel_rfl) (by kernel_rfl)).is rfl
      have e1 : a.eval (.tmp 48) = .int .i64 cl := (hd 11 48 (by kernel_rfl) (by kernel_rfl)).is rfl
      exact wp_value (exec_build rfl (ps := #[(0, .int .i32 r), (1, .int .i64 cl)]) (by simp only [List.map_toArray, List.map_cons, List.map_nil, e0, e1] <;> rfl) (BD X)) ⟨_, rfl, hX.more, fun _ _ _ h => h, FldR.P.mk rfl ⟨by simp, by simp, by simp⟩⟩
    · intro D2 a X hDi hDa _ hX hL hd
      refine ⟨rfl, ?_⟩
      have e0 : a.eval (.tmp 49) = .agg #[.int .i32 r, .int .i64 cl] := (hd 12 49 (by kernel_rfl) (by kernel_rfl)).is rfl
      refine wp_value (exec_buildSlice rfl (ps := #[(0, .agg #[.int .i32 r, .int .i64 cl])]) (by simp only [List.map_toArray, List.map_cons, List.map_nil, e0] <;> rfl) (BS X)) ⟨_, rfl, (hX.below ((Below.refl _ X).alloc (Nat.le_refl _) _)).more, fun _ _ _ h => h.below ((Below.refl _ X).alloc (Nat.le_refl _) _), FldR.P.bs rfl ⟨by simp, by simp⟩ ⟨X.heap.size, rfl, alloc_at rfl, hX.2.2.size⟩⟩
    · intro D2 a X hDi hDa _ hX hL hd
      refine ⟨rfl, ?_⟩
      have e0 : a.eval (.tmp 41) = kv := (hd 4 41 (by kernel_rfl) (by kernel_rfl)).is rfl
      obtain ⟨b2, hb1, hb2, hb3⟩ := (hd 13 50 (by kernel_rfl) (by kernel_rfl)).2.1 rfl
      have h28 := hDa 17 (by kernel_rfl)
      have hown := hX.2.1 hDi
      refine wp_append_lies X (.tmp 41) (.tmp 50) 61 rfl 0 78 ti (.agg #[.int .i32 0, .int .i64 0]) 2 16 Tryz.underlying61 HI2.1 HI2.2.1 HI2.2.2.1 HI2.2.2.2 rfl (by decide) kv q xs e0 hown.1 ⟨b2, 0, none⟩ 1 1 [.int .i32 r, .int .i64 cl] hb1 rfl (World.news_of_block hb2) HOC (by decide) HM1 HM2 (Nat.zero_le _) _ rfl ?_
      intro g2 cap2 X2 hown2 hgrow hat hlt2
      exact ⟨_, rfl, hX.app hkg h28 (keep_grown hgrow), fun j u hj h => h.app hkv (keep_grown hgrow) (fun e => by subst e; rw [hDi] at hj; cases hj) (fun e => by subst e; rw [h28] at hj; cases hj), FldR.P.row rfl ⟨by simp, by simp⟩ (FldR.row_of (ln := q + 1) hX.2.2.size hgl hkg ⟨hown2, fun y hy => by
        have : g2 = y := by simpa [Value.ownBlock] using hy
        subst this
        rcases hat with h | h
        · exact .inl h
        · exact .inr (by omega)⟩ rfl)⟩
    · intro D2 a X hDi hDa _ hX hL hd
      refine ⟨rfl, ?_⟩
      have e0 : a.eval (.tmp 37) = .pointer (some ⟨C.gs, 0, none⟩) := (hd 0 37 (by kernel_rfl) (by kernel_rfl)).is rfl
      exact wp_value (exec_nilCheck rfl e0) ⟨_, rfl, hX.more, fun _ _ _ h => h, FldR.P.mk rfl ⟨by simp, by simp, by simp⟩⟩
    · intro D2 a X hDi hDa _ hX hL hd
      refine ⟨rfl, ?_⟩
      have e0 : a.eval (.tmp 52) = .pointer (some ⟨C.gs, 0, none⟩) := (hd 15 52 (by kernel_rfl) (by kernel_rfl)).is rfl
      exact wp_value (exec_fieldAddr rfl e0 (hf1 X)) ⟨_, rfl, hX.more, fun _ _ _ h => h, FldR.P.mk rfl ⟨by simp, by simp, by simp⟩⟩
    · intro D2 a X hDi hDa _ hX hL hd
      refine ⟨rfl, ?_⟩
      have e0 : a.eval (.tmp 53) = .pointer (some ⟨C.gs, 1, none⟩) := (hd 16 53 (by kernel_rfl) (by kernel_rfl)).is rfl
      obtain ⟨ao3, ln, cp3, he, ho⟩ := (hd 14 51 (by kernel_rfl) (by kernel_rfl)).2.2.1 rfl
      have hc := hX.1 hDi
      exact wp_skipped (exec_store rfl e0 he (ST X _ _ _ hc)) ⟨undef, rfl, hX.store, fun j u hj h => h.store hgl (fun e => by subst e; rw [hDi] at hj; cases hj), FldR.P.last rfl ⟨by simp, by simp⟩ ⟨_, FldR.Row.store ⟨ao3, ln, cp3, rfl, by rw [← he]; exact ho⟩, S1 hc⟩⟩
  case hd =>
    intro D2 a X hAll hX hL hP hE
    obtain ⟨_, hp⟩ := hE 17 (by decide)
    rw [hFF] at hp hX
    obtain ⟨u, ⟨ao2, ln, cp2, hu0, ho⟩, hu⟩ := hp.2.2.2 rfl
    simp only at ho hu
    have hK := hX.2.2
    obtain ⟨f, ha, hf⟩ := hL.out [37, 38, 39, 40, 41, 42, 43, 44, 45, 46, 47, 48, 49, 50, 51, 52, 53] rfl
    have HF := Lib.hid (And.intro ho (And.intro hu hK))
    clear hf hAll hP hX hL hE hp ho hu hu0 hK S1 hf1 hf0 hlr hlp hcl BD BS ST HI2 HOC HM1 HM2 H0 hFF hti hz hs1 hbt hown0 hkg hkv hcg hgl
    simp only [List.foldl_cons, List.foldl_nil, List.setIfInBounds_toArray, List.set_cons_zero, List.set_cons_succ] at ha
    subst ha
    go_wp2
    go_end0
    obtain ⟨ho, hu, hK⟩ := HF.out
    refine ⟨rfl, ⟨_, _, _, HW.out.1.app (X := pcR C.S C.fl r) hK hu ?_, fun b hb => ?_, fun z u h1 h2 => by rw [h2] at h1; cases h1⟩, ?_⟩
    rotate_left 1
    · rcases (ho.2 b hb).1 with h9 | h9
      · exact .inl h9
      · exact .inr (Nat.le_trans HBW.out.size h9)
    · exact (Keep.of_all HBW.out (X := fun b => b = C.gs ∨ b = C.bm ∨ Value.ownBlock kv = some b)).trans (hK.weaken fun b _ hb => by
        rcases hb with hb | hb
        · exact .inl hb
        · exact .inr (.inr hb))
    have e1 : pcR C.S C.fl r = [(r, cl)] := by unfold pcR; rw [HO.out.2.2.2, List.map_cons, List.map_nil, HC.out]
    have e2 : (R ++ pcR C.S C.fl r).length = q + 1 := by rw [e1, List.length_append, HQ.out.1]; rfl
    have e3 : encRN (R ++ pcR C.S C.fl r) = xs ++ [.int .i32 r, .int .i64 cl] := by rw [e1, encRN_append, HQ.out.2]; rfl
    rw [e2, e3]
    exact ho

end Go.Proofs.YtcfhblbmpbfoaaaGreatDoor
namespace Go.Proofs.YtcfhblbmpbfoaaaGreatDoor
open Go Go.RowKit Go.Kt Go.Kt.Sg Go.Shelf Go.Lib Go.Sort Go.Kt.Rg Go.Maps
variable {C : SpC} {md : MdT} {wB : World}

theorem nilN_ne (a : Addr) (n c : Nat) (W : World) : (binOp BinOp.eql 61 (.slice (some a) n c) (.slice none 0 0)).run Tryz.prog W = .ok (.bool false) W := by
  kernel_rfl
def NewN (H : Nat) (X : List Pt) (u : Value) (w' : World) : Prop := RowV w' u X ∧ ∃ g, u.ownBlock = some g ∧ H ≤ g ∧ g < w'.heap.size
set_option maxRecDepth 100000 in
theorem nClone (X : List Pt) (g o cap : Nat) (w : World) (h : RowV w (.slice (some ⟨g, o, none⟩) X.length cap) X) (hX : X ≠ []) (hz : X.length ≤ 4294967296) :
    Calls Tryz.prog 131 #[.slice (some ⟨g, o, none⟩) X.length cap] w fun e w' => ∃ u, e = .returned u ∧ NewN w.heap.size X u w' ∧ Below w.heap.size w w' := by
  have hb0 : Below w.heap.size w (w.alloc (.cells #[] 78)) := (Below.refl _ w).alloc (Nat.le_refl _) _
  have hown : OwnS (fun b => w.heap.size ≤ b) 78 2 (.slice (some ⟨w.heap.size, 0, none⟩) 0 0) ([] : List Pt).length (encRN []) (w.alloc (.cells #[] 78)) :=
    ⟨⟨rfl, .inr ⟨w.heap.size, 0, #[], rfl, Nat.zero_le _, World.alloc_heap_new w _, Nat.le_refl _, by unfold maxLen; omega, rfl, rfl⟩⟩, fun b hb => by simp [Value.ownBlock] at hb; omega⟩
  obtain ⟨ao, cp, w', hrun, ho, hk⟩ := app_rows hown (h.below hb0) hX (by simpa using hz)
  rw [List.nil_append] at hrun ho
  obtain ⟨m, hm⟩ : ∃ m, X.length = m := ⟨_, rfl⟩
  have hbb : Below w.heap.size w w' := hb0.trans (hk.below (by rw [World.size_alloc]; omega) (fun b hb => by simp [Value.ownBlock] at hb; omega))
  have hnil := nilN_ne ⟨g, o, none⟩ m cap
  have hr : NewN w.heap.size X (.slice ao X.length cp) w' := by
    refine ⟨rowV_own ho, ?_⟩
    rcases ho.shape with ⟨_, h0⟩ | ⟨g', cap', hv, hY, hg⟩
    · exact absurd (List.eq_nil_of_length_eq_zero h0) hX
    · injection hv with e1
      subst e1
      refine ⟨g', rfl, ?_, hg⟩
      rcases hY with hY | hY
      · simp [Value.ownBlock] at hY; omega
      · rw [World.size_alloc] at hY; omega
  rw [hm] at hrun hr
  have HR := Lib.hid hrun
  have HF := Lib.hid (And.intro hr hbb)
  rw [hm]
  clear hrun hr hbb hk ho hown hb0 h hX hz hm
  go_enter Tryz.func131, Tryz.ntmps131
  go_wp2_with (at_builtin; refine wpList_append_eq rfl rfl rfl rfl HR.out ?_)
  go_ret
  exact ⟨_, rfl, HF.out⟩
theorem pcR_more (hF : FullE C.S C.fl) {x : Int} (h : dcpV C.S x ≠ []) : pcR C.S C.fl x = (dcpV C.S x).flatMap fun y : Nat => pcR C.S C.fl (y : Int) := by
  unfold pcR
  rw [hF.eq, if_neg h, List.map_flatMap]
theorem pcR_pos (hF : FullE C.S C.fl) (x : Int) : pcR C.S C.fl x ≠ [] := fun e => by
  have h1 := congrArg List.length e
  have h2 := (hF.len x).1
  rw [pcR_len, List.length_nil] at h1
  omega
theorem flat_take {A B : Type} (g : A → List B) (l : List A) (i : Nat) : ((l.take i).flatMap g).length ≤ (l.flatMap g).length := by
  conv => rhs; rw [← List.take_append_drop i l, List.flatMap_append, List.length_append]
  omega
def MorI (C : SpC) (f : Nat) (R : List Pt) (v : Value) (vs : Nat → Option Value) (own : List Nat) (W1 : World) (i : Nat) (wr : World) : Prop :=
  (∃ v' nm' vs', SpI C (R ++ (own.take i).flatMap fun y : Nat => pcR C.S C.fl (y : Int)) v' nm' vs' wr ∧ (∀ b, v'.ownBlock = some b → v.ownBlock = some b ∨ W1.heap.size ≤ b) ∧ ∀ z u, vs' z = some u → vs z = none → EndP C.S f (z : Int)) ∧
    Keep (fun b => b = C.gs ∨ b = C.bm ∨ v.ownBlock = some b) W1 wr
theorem MorI.belowB {f : Nat} {R : List Pt} {v : Value} {nm : Nat} {vs : Nat → Option Value} {own : List Nat} {W1 wr : World} {i : Nat} (h : MorI C f R v vs own W1 i wr) (h1 : SpI C R v nm vs W1) (hB : Below C.H wB W1) (hz : C.H ≤ W1.heap.size) : Below C.H wB wr :=
  hB.trans (h.2.below hz fun b hb => by
    rcases hb with rfl | rfl | hb
    · exact h1.gs
    · exact h1.bm
    · exact (h1.row.2 b hb).1)
theorem MorI.next {f : Nat} {R : List Pt} {v : Value} {vs : Nat → Option Value} {own : List Nat} {W1 wr w' : World} {i : Nat} {y : Nat} {v1 : Value} {vs1 : Nat → Option Value} {e : Ending}
    (ho : ∀ b, v1.ownBlock = some b → v.ownBlock = some b ∨ W1.heap.size ≤ b) (he : ∀ z u, vs1 z = some u → vs z = none → EndP C.S f (z : Int)) (hk : Keep (fun b => b = C.gs ∨ b = C.bm ∨ v.ownBlock = some b) W1 wr) (hy : own[i]? = some y)
    (hP : PutO C f (R ++ (own.take i).flatMap fun y : Nat => pcR C.S C.fl (y : Int)) v1 vs1 (pcR C.S C.fl (y : Int)) wr e w') : e = .returned (.tuple #[]) ∧ MorI C f R v vs own W1 (i + 1) w' := by
  obtain ⟨rfl, ⟨v2, nm2, vs2, h2, o2, e2⟩, k2⟩ := hP
  refine ⟨rfl, ⟨v2, nm2, vs2, ?_, fun b hb => ?_, fun z u h3 h4 => ?_⟩, hk.plus k2 (fun b hb h => ?_)⟩
  · rw [List.take_add_one, hy, List.flatMap_append]
    simpa [List.append_assoc] using h2
  · rcases o2 b hb with h9 | h9
    · exact ho b h9
    · exact .inr (Nat.le_trans hk.size h9)
  · cases h9 : vs1 z with
    | none => exact e2 z u h3 h9
    | some u9 => exact he z u9 h9 h4
  · rcases h with h | h | h
    · exact .inl h
    · exact .inr (.inl h)
    · rcases ho b h with h9 | h9
      · exact .inr (.inr h9)
      · omega


set_option maxRecDepth 100000 in
set_option maxHeartbeats 8000000 in
theorem put_more (f : Nat) {R : List Pt} {v : Value} {nm : Nat} {vs : Nat → Option Value} (w : World) (h : SpI C R v nm vs w) (hB : Below C.H wB w) (hP : SpP C md wB) {x : Nat} (hr : I32 (x : Int)) (hu : vs x = none) (hne : dcpV C.S (x : Int) ≠ []) (hz : R.length + (C.fl (x : Int)).length ≤ 4294967296)
    (hval : ∀ y ∈ dcpV C.S (x : Int), y ≤ 1114111) (hf : ¬ EndP C.S f (x : Int)) (hf1 : EndP C.S (f + 1) (x : Int))
    (IH : ∀ y ∈ dcpV C.S (x : Int), ∀ R' v' nm' vs' w', SpI C R' v' nm' vs' w' → Below C.H wB w' → R'.length + (C.fl (y : Int)).length ≤ 4294967296 →
      Calls Tryz.prog 89 #[.pointer (some ⟨C.gs, 0, none⟩), .int .i32 (y : Nat)] w' (PutO C f R' v' vs' (pcR C.S C.fl (y : Int)) w')) :
    Calls Tryz.prog 89 #[.pointer (some ⟨C.gs, 0, none⟩), .int .i32 (x : Nat)] w (PutO C (f + 1) R v vs (pcR C.S C.fl (x : Int)) w) := by
  have hl := h.look hr
  rw [atZ_nat, hu] at hl
  replace hl : (Instr.lookup 139 (.map (some C.bm)) (.int .i32 (x : Nat)) true).run Tryz.prog w = .ok (.tuple #[.slice none 0 0, .bool false]) w := hl
  have hpx := pcR_more hP.fe hne
  have CD := Lib.hid (pdcpP w (hP.pr.below (by rw [hP.hH]; exact hB)) hP.hd (x : Int) hr)
  obtain ⟨own, hown⟩ : ∃ own, dcpV C.S (x : Int) = own := ⟨_, rfl⟩
  rw [hown] at hpx hne hval IH CD
  have hz8 : own.length ≤ 8 := by
    have h1 := (hP.fe.len (x : Int)).2
    rw [← pcR_len C.S, hpx] at h1
    have : ∀ l : List Nat, l.length ≤ (l.flatMap fun y : Nat => pcR C.S C.fl (y : Int)).length := by
      intro l
      induction l with
      | nil => exact Nat.zero_le _
      | cons y t ih =>
        rw [List.flatMap_cons, List.length_append, List.length_cons]
        have := List.length_pos_iff.2 (pcR_pos hP.fe (y : Int))
        omega
    have := this own
    omega
  have hzz : ∀ (i y : Nat), own[i]? = some y → (R ++ (own.take i).flatMap fun y : Nat => pcR C.S C.fl (y : Int)).length + (C.fl (y : Int)).length ≤ 4294967296 := fun i y hy => by
    rw [← pcR_len C.S, hpx] at hz
    have e1 : own.take (i + 1) = own.take i ++ [y] := by rw [List.take_add_one, hy]; rfl
    have e2 := flat_take (fun y : Nat => pcR C.S C.fl (y : Int)) own (i + 1)
    rw [e1, List.flatMap_append, List.length_append, List.flatMap_cons, List.flatMap_nil, List.append_nil, pcR_len] at e2
    rw [List.length_append]
    omega
  obtain ⟨k, hk⟩ : ∃ k, own.length = k := ⟨_, rfl⟩
  have c2 : w.cell? ⟨C.gs, 2, none⟩ = some (.map (some C.bm)) := by rw [Lib.cell_of_heap h.cell]; rfl
  have c0 : w.cell? ⟨C.gs, 0, none⟩ = some (.pointer (some ⟨C.gp, 0, none⟩)) := by rw [Lib.cell_of_heap h.cell]; rfl
  have HO := Lib.hid (And.intro h (And.intro hB (And.intro hpx (And.intro hne (And.intro hown (And.intro hval (And.intro hzz (And.intro hf (And.intro hf1 (And.intro hu hk))))))))))
  have HI := Lib.hid IH
  have HP := Lib.hid hP
  have HK := Lib.hid (rune_key hr)
  have HZ := Lib.hid hz
  clear h hB hP hu hz IH hval hf hf1 hpx hzz hown hr
  have hk1 : 0 < k := by rw [← hk]; exact List.length_pos_iff.2 hne
  rw [hk] at hz8
  clear hne
  go_enter Tryz.func89, Tryz.ntmps89
  go_wp2_with fail
  refine CD.out.mono ?_
  rintro e W1 ⟨⟨ao9, cp9, rfl, hnz⟩, hb⟩
  rw [toZ_len, hk] at hnz ⊢
  have HW : Hid (SpI C R v nm vs W1 ∧ Below C.H wB W1 ∧ C.H ≤ W1.heap.size) := Lib.hid ⟨HO.out.1.below hb, HO.out.2.1.trans (hb.mono (by rw [← HP.out.hH]; exact HO.out.2.1.size)), by rw [← HP.out.hH]; exact Nat.le_trans HO.out.2.1.size hb.size⟩
  have HBW := Lib.hid hb
  obtain ⟨b0, cp, hv9, hbn, hbl⟩ : ∃ b0 cp, ao9 = some ⟨b0, 0, none⟩ ∧ w.heap.size ≤ b0 ∧ b0 < W1.heap.size := by
    rcases hnz.shape with ⟨_, h0⟩ | ⟨g, cap, e, h1, h2⟩
    · omega
    · injection e with e; exact ⟨g, cap, e, h1, h2⟩
  subst hv9
  have HCL : Hid (∀ (i y : Nat), own[i]? = some y → W1.cell? ⟨b0, i, none⟩ = some (.int .i32 (y : Nat))) := Lib.hid fun i y hy => by
    have := hnz.at0 (i := i) (u := .int .i32 (y : Nat)) (by unfold encZ toZ; rw [List.getElem?_map, List.getElem?_map, hy]; rfl)
    exact this
  have HB0 := Lib.hid (And.intro hbn hbl)
  have d1 : W1.cell? ⟨C.gs, 1, none⟩ = some v := by rw [Lib.cell_of_heap HW.out.1.cell]; rfl
  obtain ⟨av, cv0, hv⟩ := own_slc HW.out.1.row
  have HV := Lib.hid hv
  rw [hv] at d1
  obtain ⟨q, hq⟩ : ∃ q, R.length = q := ⟨_, rfl⟩
  rw [hq] at d1
  have HQ := Lib.hid hq
  clear hb hl c0 c2 CD hnz hbn hbl hv hq
  have hk0 : ((k : Int) == 0) = false := by simp only [beq_eq_false_iff_ne, ne_eq]; omega
  go_wp2_with fail
  go_loopg [61] k (fun kx s wr => ∃ i : Nat, s = .int .i64 i ∧ i ≤ k ∧ k - i ≤ kx ∧ Hid (MorI C f R v vs own W1 i wr))
  case atStart => exact ⟨0, rfl, Nat.zero_le _, Nat.le_refl _, Lib.hid ⟨⟨v, nm, vs, by rw [List.take_zero, List.flatMap_nil, List.append_nil]; exact HW.out.1, fun b hb => .inl hb, fun z u h1 h2 => by rw [h2] at h1; cases h1⟩, Keep.refl _ _⟩⟩
  case round =>
    clear d1
    obtain ⟨i, rfl, hik, hkx, hM⟩ := hrel
    have HBB := Lib.hid (hM.out.belowB HW.out.1 HW.out.2.1 HW.out.2.2)
    by_cases hlt : i < k
    · have hltz : (i : Int) < (k : Int) := by omega
      obtain ⟨y, hy⟩ : ∃ y, own[i]? = some y := ⟨_, List.getElem?_eq_getElem (by rw [HO.out.2.2.2.2.2.2.2.2.2.2]; exact hlt)⟩
      have cy := hM.out.2.cell (HCL.out i y hy) (fun e => by
        have h1 := HB0.out.1
        rcases e with e | e | e
        · have := HO.out.1.gl; simp only at e; omega
        · have := HO.out.1.map.lt; simp only at e; omega
        · have := (HO.out.1.row.1.lt _ e).2; simp only at this; omega)
      obtain ⟨⟨v1, nm1, vs1, h1, o1, e1⟩, k1⟩ := hM.out
      have CL := Lib.hid (HI.out y (List.mem_of_getElem? hy) _ v1 nm1 vs1 wr h1 HBB.out (HO.out.2.2.2.2.2.2.1 i y hy))
      have HN : Hid (∀ e w', PutO C f (R ++ (own.take i).flatMap fun y : Nat => pcR C.S C.fl (y : Int)) v1 vs1 (pcR C.S C.fl (y : Int)) wr e w' → e = .returned (.tuple #[]) ∧ MorI C f R v vs own W1 (i + 1) w') := Lib.hid fun e w' hO => MorI.next o1 e1 k1 hy hO
      clear h1 o1 e1 k1 hM hy
      go_wp2_with fail
      refine CL.out.mono ?_
      intro e w3 hO
      obtain ⟨rfl, hM3⟩ := HN.out e w3 hO
      have HM3 := Lib.hid hM3
      clear hO hM3
      go_wp2
      go_roundg (k - (i + 1))
      case measure => omega
      case rel => exact ⟨i + 1, by simp, by omega, Nat.le_refl _, HM3⟩
    · obtain rfl : i = k := by omega
      obtain ⟨⟨v2, nm2, vs2, h2, o2, e2⟩, k2⟩ := hM.out
      have hfull : (own.take i).flatMap (fun y : Nat => pcR C.S C.fl (y : Int)) = pcR C.S C.fl (x : Int) := by
        rw [List.take_of_length_le (by rw [HO.out.2.2.2.2.2.2.2.2.2.2]; exact Nat.le_refl _)]; exact HO.out.2.2.1.symm
      rw [hfull] at h2
      obtain ⟨X, hX⟩ : ∃ X, pcR C.S C.fl (x : Int) = X := ⟨_, rfl⟩
      rw [hX] at h2
      have hX0 : X ≠ [] := by rw [← hX]; exact pcR_pos HP.out.fe _
      obtain ⟨mX, hmX⟩ : ∃ mX, X.length = mX := ⟨_, rfl⟩
      have hmp : 0 < mX := by rw [← hmX]; exact List.length_pos_iff.2 hX0
      obtain ⟨W2, hW2⟩ : ∃ W2, wr = W2 := ⟨_, rfl⟩
      subst hW2
      obtain ⟨gv, nv, cv, hv2, hnv, hcv, hgv⟩ : ∃ gv nv cv, v2 = .slice (some ⟨gv, 0, none⟩) nv cv ∧ nv = q + mX ∧ nv ≤ cv ∧ RowM wr gv 0 (R ++ X) := by
        obtain ⟨p, cap, e, hc, hrr⟩ := rowV_own h2.row
        rcases hrr with h9 | ⟨g, o, e9, _, hrm⟩
        · exact absurd (List.append_eq_nil_iff.1 h9).2 hX0
        · rcases h2.row.shape with ⟨e8, h8⟩ | ⟨g8, c8, e8, _, _⟩
          · rw [e] at e8; injection e8 with e7; rw [e9] at e7; cases e7
          · rw [e] at e8
            injection e8 with e7 _ e6
            subst e6
            rw [e9] at e7
            injection e7 with e7
            injection e7 with e5 e4
            subst e5 e4
            exact ⟨g, _, cap, by rw [e, e9], by rw [List.length_append, HQ.out, hmX], hc, hrm⟩
      subst hv2
      have H2 := Lib.hid (And.intro h2 (And.intro o2 (And.intro e2 k2)))
      have hnx : vs2 x = none := by
        cases h9 : vs2 x with
        | none => rfl
        | some u9 => exact absurd (e2 x u9 h9 HO.out.2.2.2.2.2.2.2.2.2.1) HO.out.2.2.2.2.2.2.2.1
      have hxL : x ∈ C.L := HP.out.hL x (by rw [HO.out.2.2.2.2.1]; exact HO.out.2.2.2.1)
      have FIN : Hid (∀ X9 w9 u9, Below wr.heap.size wr X9 → MapG Tryz.prog 21 C.bm (nm2 + 1) (putF (ptF vs2) (.int .i32 (x : Int)) u9) w9 → Keep (fun b => b = C.bm) X9 w9 → NewN wr.heap.size X u9 X9 → SpI C (R ++ X) (.slice (some ⟨gv, 0, none⟩) nv cv) (nm2 + 1) (updN vs2 x u9) w9) := Lib.hid fun X9 w9 u9 hb hm hk hn => by
        have hI := h2.below hb
        obtain ⟨g, g1, g2, g3⟩ := hn.2
        have a1 := h2.gl
        have a2 := h2.map.lt
        have a3 := (h2.row.1.lt gv rfl).2
        have a4 := h2.gs
        exact hI.put hk hm hxL hnx (by rw [hX]; exact hn.1) ⟨g, g1, by omega, by omega, by omega, fun e => by simp [Value.ownBlock] at e; omega, g3⟩
      have F1 : Hid (∀ X : World, (Instr.fieldAt 141 (.pointer (some ⟨C.gs, 0, none⟩)) 1).run Tryz.prog X = .ok (.pointer (some ⟨C.gs, 1, none⟩)) X) := Lib.hid fun X => by go_simp
      have F2 : Hid (∀ X : World, (Instr.fieldAt 141 (.pointer (some ⟨C.gs, 0, none⟩)) 2).run Tryz.prog X = .ok (.pointer (some ⟨C.gs, 2, none⟩)) X) := Lib.hid fun X => by go_simp
      have LM : Hid (∀ X, Below wr.heap.size wr X → (Instr.loadAt 139 (.pointer (some ⟨C.gs, 2, none⟩))).run Tryz.prog X = .ok (.map (some C.bm)) X) := Lib.hid fun X hb => by
        have c : X.cell? ⟨C.gs, 2, none⟩ = some (.map (some C.bm)) := by rw [Lib.cell_of_heap (h2.below hb).cell]; rfl
        go_simp
      have LR : Hid (∀ X, Below wr.heap.size wr X → (Instr.loadAt 61 (.pointer (some ⟨C.gs, 1, none⟩))).run Tryz.prog X = .ok (.slice (some ⟨gv, 0, none⟩) nv cv) X) := Lib.hid fun X hb => by
        have c : X.cell? ⟨C.gs, 1, none⟩ = some (.slice (some ⟨gv, 0, none⟩) nv cv) := by rw [Lib.cell_of_heap (h2.below hb).cell]; rfl
        go_simp
      have hcz : cv ≤ 9223372036854775807 := by
        rcases h2.row.1.2 with ⟨e9, _⟩ | ⟨g9, c9, cur, e9, _, _, _, hm9, _⟩
        · cases e9
        · injection e9 with _ _ e8; subst e8; unfold maxLen at hm9; omega
      have SLc : Hid (∀ X : World, (Instr.sliceAt 61 (.slice (some ⟨gv, 0, none⟩) nv cv) (some (.int .i64 (q : Nat))) none none).run Tryz.prog X = .ok (.slice (some ⟨gv, q * 2, none⟩) mX (cv - q)) X) := Lib.hid fun X => by
        have s1 : nv - q = mX := by omega
        have s2 : ¬ cv = q := by omega
        go_simp
        intro h9
        exfalso
        omega
      have CLc : Hid (∀ X9, Below wr.heap.size wr X9 → Calls Tryz.prog 131 #[.slice (some ⟨gv, q * 2, none⟩) mX (cv - q)] X9 fun e w' => ∃ u, e = .returned u ∧ NewN wr.heap.size X u w' ∧ Below X9.heap.size X9 w') := Lib.hid fun X9 hb => by
        have hs : RowV wr (.slice (some ⟨gv, q * 2, none⟩) X.length (cv - q)) X := by
          refine ⟨_, _, rfl, by omega, .inr ⟨gv, q * 2, rfl, (h2.row.1.lt gv rfl).2, ?_⟩⟩
          have := hgv.seg q (q + mX)
          have e : seg (R ++ X) q (q + mX) = X := by
            unfold seg
            rw [List.take_of_length_le (by rw [List.length_append, HQ.out, hmX]; exact Nat.le_refl _), List.drop_append_of_le_length (by rw [HQ.out]; exact Nat.le_refl _), List.drop_of_length_le (by rw [HQ.out]; exact Nat.le_refl _), List.nil_append]
          rw [e, Nat.zero_add] at this
          exact this
        have hzX : X.length ≤ 4294967296 := by have := HZ.out; rw [← pcR_len C.S, hX] at this; omega
        have := nClone X gv (q * 2) (cv - q) X9 (hs.below hb) hX0 hzX
        rw [hmX] at this
        refine this.mono ?_
        rintro e w' ⟨u, rfl, hn, hb9⟩
        exact ⟨u, rfl, ⟨hn.1, by obtain ⟨g, g1, g2, g3⟩ := hn.2; exact ⟨g, g1, Nat.le_trans hb.size g2, g3⟩⟩, hb9⟩
      have HXX := Lib.hid (And.intro hX (And.intro hnx hmX))
      clear h2 o2 e2 k2 hM hfull hX hX0 hmX hmp hnv hcv hgv hnx hxL hcz
      go_wp2_with fail
      obtain ⟨FF, hFF⟩ : ∃ FF : StoB, FF = ⟨wr, wr.heap.size, C.bm, 12, fun i z W => match i with | 0 => z = .pointer (some ⟨C.gs, 0, none⟩) | 1 => z = .pointer (some ⟨C.gs, 0, none⟩) | 2 => z = .pointer (some ⟨C.gs, 2, none⟩) | 3 => z = .map (some C.bm) | 4 => z = .int .i32 (x : Nat) | 5 => z = .pointer (some ⟨C.gs, 0, none⟩) | 6 => z = .pointer (some ⟨C.gs, 0, none⟩) | 7 => z = .pointer (some ⟨C.gs, 1, none⟩) | 8 => z = .slice (some ⟨gv, 0, none⟩) nv cv | 9 => z = .int .i64 (q : Nat) | 10 => z = .slice (some ⟨gv, q * 2, none⟩) mX (cv - q) | 11 => NewN wr.heap.size X z W | _ => True, fun W => ∃ u9, SpI C (R ++ X) (.slice (some ⟨gv, 0, none⟩) nv cv) (nm2 + 1) (updN vs2 x u9) W ∧ Keep (fun b => b = C.bm) wr W⟩ := ⟨_, rfl⟩
      have HOK : StoB.Ok FF := by
        rw [hFF]
        refine ⟨rfl, H2.out.1.map.lt, fun i v A B hb => ?_⟩
        match i with
        | 0 => exact fun h => h
        | 1 => exact fun h => h
        | 2 => exact fun h => h
        | 3 => exact fun h => h
        | 4 => exact fun h => h
        | 5 => exact fun h => h
        | 6 => exact fun h => h
        | 7 => exact fun h => h
        | 8 => exact fun h => h
        | 9 => exact fun h => h
        | 10 => exact fun h => h
        | 11 => exact fun h => ⟨h.1.below hb, by obtain ⟨g, g1, g2, g3⟩ := h.2; exact ⟨g, g1, g2, Nat.lt_of_lt_of_le g3 hb.size⟩⟩
        | _ + 12 => exact fun _ => trivial
      have H0 : Below FF.H FF.w wr.drew := by rw [hFF]; exact below_drewN (Below.refl _ _) 1
      refine wp_region_stob FF (by kernel_rfl) (by kernel_rfl) (by kernel_rfl) HOK (by rw [hFF]; kernel_rfl) (by rw [hFF]; show (12 : Nat) < 13; decide) H0 ?hsc ?hdc
      case hsc =>
        refine BSteps.cons ?_ (BSteps.cons ?_ (BSteps.cons ?_ (BSteps.cons ?_ (BSteps.cons ?_ (BSteps.cons ?_ (BSteps.cons ?_ (BSteps.cons ?_ (BSteps.cons ?_ (BSteps.cons ?_ (BSteps.cons ?_ (BSteps.cons ?_ (BSteps.cons ?_ (BSteps.nil)))))))))))))
        · intro a X9 hXB hL hd
          rw [hFF] at hXB 
          refine ⟨rfl, ?_⟩
          have e0 : a.eval (.tmp 0) = .pointer (some ⟨C.gs, 0, none⟩) := hL.far 0 (by kernel_rfl)
          exact wp_value (exec_move rfl e0) ⟨_, rfl, .inl ⟨by rw [hFF]; show (0 : Nat) ≠ 12; decide, Below.refl _ _, by rw [hFF]; exact rfl⟩⟩
        · intro a X9 hXB hL hd
          have q0 := hd 0 71 (by rw [hFF]; show (0 : Nat) ≠ 12; decide) (by kernel_rfl) (by kernel_rfl)
          rw [hFF] at hXB q0
          refine ⟨rfl, ?_⟩
          have e0 : a.eval (.tmp 71) = .pointer (some ⟨C.gs, 0, none⟩) := q0
          exact wp_value (exec_nilCheck rfl e0) ⟨_, rfl, .inl ⟨by rw [hFF]; show (1 : Nat) ≠ 12; decide, Below.refl _ _, by rw [hFF]; exact rfl⟩⟩
        · intro a X9 hXB hL hd
          have q0 := hd 1 72 (by rw [hFF]; show (1 : Nat) ≠ 12; decide) (by kernel_rfl) (by kernel_rfl)
          rw [hFF] at hXB q0
          refine ⟨rfl, ?_⟩
          have e0 : a.eval (.tmp 72) = .pointer (some ⟨C.gs, 0, none⟩) := q0
          exact wp_value (exec_fieldAddr rfl e0 (F2.out X9)) ⟨_, rfl, .inl ⟨by rw [hFF]; show (2 : Nat) ≠ 12; decide, Below.refl _ _, by rw [hFF]; exact rfl⟩⟩
        · intro a X9 hXB hL hd
          have q0 := hd 2 73 (by rw [hFF]; show (2 : Nat) ≠ 12; decide) (by kernel_rfl) (by kernel_rfl)
          rw [hFF] at hXB q0
          refine ⟨rfl, ?_⟩
          have e0 : a.eval (.tmp 73) = .pointer (some ⟨C.gs, 2, none⟩) := q0
          exact wp_value (exec_load rfl e0 (LM.out X9 hXB)) ⟨_, rfl, .inl ⟨by rw [hFF]; show (3 : Nat) ≠ 12; decide, Below.refl _ _, by rw [hFF]; exact rfl⟩⟩
        · intro a X9 hXB hL hd
          rw [hFF] at hXB 
          refine ⟨rfl, ?_⟩
          have e0 : a.eval (.tmp 1) = .int .i32 (x : Nat) := hL.far 1 (by kernel_rfl)
          exact wp_value (exec_move rfl e0) ⟨_, rfl, .inl ⟨by rw [hFF]; show (4 : Nat) ≠ 12; decide, Below.refl _ _, by rw [hFF]; exact rfl⟩⟩
        · intro a X9 hXB hL hd
          rw [hFF] at hXB 
          refine ⟨rfl, ?_⟩
          have e0 : a.eval (.tmp 0) = .pointer (some ⟨C.gs, 0, none⟩) := hL.far 0 (by kernel_rfl)
          exact wp_value (exec_move rfl e0) ⟨_, rfl, .inl ⟨by rw [hFF]; show (5 : Nat) ≠ 12; decide, Below.refl _ _, by rw [hFF]; exact rfl⟩⟩
        · intro a X9 hXB hL hd
          have q0 := hd 5 76 (by rw [hFF]; show (5 : Nat) ≠ 12; decide) (by kernel_rfl) (by kernel_rfl)
          rw [hFF] at hXB q0
          refine ⟨rfl, ?_⟩
          have e0 : a.eval (.tmp 76) = .pointer (some ⟨C.gs, 0, none⟩) := q0
          exact wp_value (exec_nilCheck rfl e0) ⟨_, rfl, .inl ⟨by rw [hFF]; show (6 : Nat) ≠ 12; decide, Below.refl _ _, by rw [hFF]; exact rfl⟩⟩
        · intro a X9 hXB hL hd
          have q0 := hd 6 77 (by rw [hFF]; show (6 : Nat) ≠ 12; decide) (by kernel_rfl) (by kernel_rfl)
          rw [hFF] at hXB q0
          refine ⟨rfl, ?_⟩
          have e0 : a.eval (.tmp 77) = .pointer (some ⟨C.gs, 0, none⟩) := q0
          exact wp_value (exec_fieldAddr rfl e0 (F1.out X9)) ⟨_, rfl, .inl ⟨by rw [hFF]; show (7 : Nat) ≠ 12; decide, Below.refl _ _, by rw [hFF]; exact rfl⟩⟩
        · intro a X9 hXB hL hd
          have q0 := hd 7 78 (by rw [hFF]; show (7 : Nat) ≠ 12; decide) (by kernel_rfl) (by kernel_rfl)
          rw [hFF] at hXB q0
          refine ⟨rfl, ?_⟩
          have e0 : a.eval (.tmp 78) = .pointer (some ⟨C.gs, 1, none⟩) := q0
          exact wp_value (exec_load rfl e0 (LR.out X9 hXB)) ⟨_, rfl, .inl ⟨by rw [hFF]; show (8 : Nat) ≠ 12; decide, Below.refl _ _, by rw [hFF]; exact rfl⟩⟩
        · intro a X9 hXB hL hd
          rw [hFF] at hXB 
          refine ⟨rfl, ?_⟩
          have e0 : a.eval (.tmp 7) = .int .i64 (q : Nat) := hL.far 7 (by kernel_rfl)
          exact wp_value (exec_move rfl e0) ⟨_, rfl, .inl ⟨by rw [hFF]; show (9 : Nat) ≠ 12; decide, Below.refl _ _, by rw [hFF]; exact rfl⟩⟩
        · intro a X9 hXB hL hd
          have q0 := hd 8 79 (by rw [hFF]; show (8 : Nat) ≠ 12; decide) (by kernel_rfl) (by kernel_rfl)
          have q1 := hd 9 80 (by rw [hFF]; show (9 : Nat) ≠ 12; decide) (by kernel_rfl) (by kernel_rfl)
          rw [hFF] at hXB q0 q1
          refine ⟨rfl, ?_⟩
          have e0 : a.eval (.tmp 79) = .slice (some ⟨gv, 0, none⟩) nv cv := q0
          have e1 : a.eval (.tmp 80) = .int .i64 (q : Nat) := q1
          exact wp_value (exec_slice (l := some (.int .i64 (q : Nat))) (h := none) (m := none) rfl e0 (by simp only [Option.map_some, e1]) rfl rfl (SLc.out X9)) ⟨_, rfl, .inl ⟨by rw [hFF]; show (10 : Nat) ≠ 12; decide, Below.refl _ _, by rw [hFF]; exact rfl⟩⟩
        · intro a X9 hXB hL hd
          have q0 := hd 10 81 (by rw [hFF]; show (10 : Nat) ≠ 12; decide) (by kernel_rfl) (by kernel_rfl)
          rw [hFF] at hXB q0
          refine ⟨rfl, ?_⟩
          have e0 : a.eval (.tmp 81) = .slice (some ⟨gv, q * 2, none⟩) mX (cv - q) := q0
          refine wp_enter (exec_call (vs := #[.slice (some ⟨gv, q * 2, none⟩) mX (cv - q)]) rfl (by simp only [List.map_toArray, List.map_cons, List.map_nil, e0]) Tryz.func131 rfl rfl) ?_
          refine (CLc.out X9 hXB).mono ?_
          rintro e w9 ⟨u, rfl, hn, hb⟩
          exact ⟨_, rfl, _, rfl, .inl ⟨by rw [hFF]; show (11 : Nat) ≠ 12; decide, hb, by rw [hFF]; exact hn⟩⟩
        · intro a X9 hXB hL hd
          have q0 := hd 3 74 (by rw [hFF]; show (3 : Nat) ≠ 12; decide) (by kernel_rfl) (by kernel_rfl)
          have q1 := hd 4 75 (by rw [hFF]; show (4 : Nat) ≠ 12; decide) (by kernel_rfl) (by kernel_rfl)
          have q2 := hd 11 82 (by rw [hFF]; show (11 : Nat) ≠ 12; decide) (by kernel_rfl) (by kernel_rfl)
          rw [hFF] at hXB q0 q1 q2
          refine ⟨rfl, ?_⟩
          have e0 : a.eval (.tmp 74) = .map (some C.bm) := q0
          have e1 : a.eval (.tmp 75) = .int .i32 (x : Nat) := q1
          have q2 : NewN wr.heap.size X (a.eval (.tmp 82)) X9 := q2
          obtain ⟨u9, hu9⟩ : ∃ u9, a.eval (.tmp 82) = u9 := ⟨_, rfl⟩
          rw [hu9] at q2
          have hI := H2.out.1.below hXB
          obtain ⟨w9, hr9, hm9, hk9⟩ := hI.map.put (int_keyed Tryz.underlying21) Tryz.underlying139 (by have := hI.cnt; have := HP.out.ck; unfold maxLen; omega) (val := u9) HK.out
          refine wp_skipped (exec_mapUpdate rfl e0 e1 hu9 hr9) ⟨undef, rfl, ?_⟩
          exact .inr ⟨by subst hFF; rfl, by rw [hFF]; exact hk9, by rw [hFF]; exact ⟨u9, FIN.out X9 w9 u9 hXB hm9 hk9 q2, (Keep.of_all hXB).trans hk9⟩⟩
      intro a X9 hL hfin
      rw [hFF] at hfin
      obtain ⟨fv, ha, hf⟩ := hL.out [71, 72, 73, 74, 75, 76, 77, 78, 79, 80, 81, 82] rfl
      clear hf hL H0 HOK hFF
      simp only [List.foldl_cons, List.foldl_nil, List.setIfInBounds_toArray, List.set_cons_zero, List.set_cons_succ] at ha
      subst ha
      obtain ⟨u9, hI9, hk9⟩ := hfin
      have HFIN := Lib.hid (And.intro hI9 hk9)
      clear hI9 hk9
      go_wp2
      go_end0
      refine ⟨rfl, ⟨_, _, _, by rw [HXX.out.1]; exact HFIN.out.1, fun b hb => ?_, fun z u h3 h4 => ?_⟩, ?_⟩
      · rcases H2.out.2.1 b hb with h9 | h9
        · exact .inl h9
        · exact .inr (Nat.le_trans HBW.out.size h9)
      · unfold updN at h3
        split at h3
        · rename_i e9; subst e9; exact HO.out.2.2.2.2.2.2.2.2.1
        · exact (H2.out.2.2.1 z u h3 h4).up
      · exact (Keep.of_all HBW.out (X := fun b => b = C.gs ∨ b = C.bm ∨ v.ownBlock = some b)).trans (H2.out.2.2.2.trans (HFIN.out.2.weaken fun b _ hb => .inr (.inl hb)))
end Go.Proofs.YtcfhblbmpbfoaaaGreatDoor
namespace Go.Proofs.YtcfhblbmpbfoaaaGreatDoor
open Go Go.RowKit Go.Kt Go.Kt.Sg Go.Shelf Go.Lib Go.Sort Go.Kt.Rg Go.Maps
variable {C : SpC} {md : MdT} {wB : World}

theorem dcp_neg {S : RdS} {r : Int} (h : r < 0) : dcpV S r = [] := by
  have hs : sylP r = false := by
    cases h9 : sylP r with
    | false => rfl
    | true => rw [syl_iff] at h9; simp at h9; omega
  unfold dcpV
  rw [if_neg (by rw [hs]; decide), atZ_neg _ _ h]; rfl
theorem PutO.up {f : Nat} {R : List Pt} {v : Value} {vs : Nat → Option Value} {X : List Pt} {w : World} {e : Ending} {w' : World} (h : PutO C f R v vs X w e w') : PutO C (f + 1) R v vs X w e w' := by
  obtain ⟨h1, ⟨v', nm', vs', h2, h3, h4⟩, h5⟩ := h
  exact ⟨h1, ⟨v', nm', vs', h2, h3, fun z u a b => (h4 z u a b).up⟩, h5⟩
theorem nPut (hP : SpP C md wB) : ∀ (f : Nat) (r : Int) (R : List Pt) (v : Value) (nm : Nat) (vs : Nat → Option Value) (w : World), EndP C.S f r → I32 r → SpI C R v nm vs w → Below C.H wB w → R.length + (C.fl r).length ≤ 4294967296 →
    Calls Tryz.prog 89 #[.pointer (some ⟨C.gs, 0, none⟩), .int .i32 r] w (PutO C f R v vs (pcR C.S C.fl r) w)
  | 0, _, _, _, _, _, _, he, _, _, _, _ => he.elim
  | f + 1, r, R, v, nm, vs, w, he, hr, h, hB, hz => by
    cases hu : atZ vs r with
    | some u =>
      refine put_known (f + 1) w h hr hu (fun e => ?_) hz
      have := (hP.fe.len r).1
      rw [e] at this; cases this
    | none =>
      by_cases hd : dcpV C.S r = []
      · exact put_leaf (f + 1) w h hB hP hr hu hd hz
      · by_cases h0 : 0 ≤ r
        · obtain ⟨x, rfl⟩ : ∃ x : Nat, r = (x : Int) := ⟨r.toNat, by omega⟩
          rw [atZ_nat] at hu
          by_cases h9 : EndP C.S f (x : Int)
          · exact (nPut hP f (x : Int) R v nm vs w h9 hr h hB hz).mono fun _ _ h => h.up
          · refine put_more f w h hB hP hr hu hd hz (hP.vy (x : Int)) h9 he fun y hy R' v' nm' vs' w' h1 h2 h3 => ?_
            have := hP.vy (x : Int) y hy
            exact nPut hP f (y : Int) R' v' nm' vs' w' (he y hy) ⟨by omega, by omega⟩ h1 h2 h3
        · exact absurd (dcp_neg (by omega)) hd

set_option maxRecDepth 100000 in
theorem nGrow0 (n : Nat) (w : World) (hn : n ≤ 2199023255552) :
    Calls Tryz.prog 88 #[.slice none 0 0, .int .i64 n] w fun e w' => ∃ v, e = .returned v ∧ OwnS (fun b => w.heap.size ≤ b) 78 2 v 0 (encRN []) w' ∧ Below w.heap.size w w' := by
  obtain ⟨i, hi, hz, hs1, hb1⟩ := info_parts tinfoN
  by_cases h0 : n = 0
  · subst h0
    go_enter Tryz.func88, Tryz.ntmps88
    go_wp2
    go_ret
    exact ⟨_, rfl, own_nil _ _ _ _, Below.refl _ _⟩
  · have hn0 : 0 < (n : Int) := by omega
    have happ := Lib.run_append_nil_zeros (P := Tryz.prog) w 61 3 0 78 i _ .i64 .i64 Tryz.underlying61 Tryz.underlying3 hi hz n (by omega) (by rw [hs1]; omega) (by omega) (by rw [hb1]; omega)
    have hge := grownCap_ge w n 0 78
    have hcm : grownCap w n 0 78 ≤ maxLen := grownCap_le_maxLen w n 0 78 (by unfold maxLen; omega)
    have hml : maxLen ≤ 9223372036854775807 := by unfold maxLen; omega
    generalize grownCap w n 0 78 = C at *
    have HR : Hid (∀ ty, (Builtin.append_ #[61, 3] ty #[.slice none 0 0, .int .i64 n]).run Tryz.prog w = _) := Lib.hid fun ty => happ
    obtain ⟨V, hV⟩ : ∃ V, w.drew.alloc (.cells (Builtin.zeroCells (Value.agg #[.int .i32 0, .int .i64 0]).cells n ++ Builtin.zeroCells (Value.agg #[.int .i32 0, .int .i64 0]).cells (C - n)) 78) = V := ⟨_, rfl⟩
    rw [hV] at HR
    have ho : OwnS (fun b => w.heap.size ≤ b) 78 2 (.slice (some ⟨w.heap.size, 0, none⟩) 0 C) 0 (encRN []) V := by
      refine ⟨⟨rfl, .inr ⟨w.heap.size, C, _, rfl, Nat.zero_le _, by rw [← hV]; exact heap_alloc_new w.drew _, Nat.zero_le _, hcm, ?_, rfl⟩⟩, fun g hg => by cases hg; exact Nat.le_refl _⟩
      rw [Array.size_append, size_zeroCells, size_zeroCells]
      show n * 2 + (C - n) * 2 = C * 2
      omega
    have hb : Below w.heap.size w V := by rw [← hV]; exact (show Below w.heap.size w w.drew from below_drewN (Below.refl _ w) 1).alloc (Nat.le_refl _) _
    have HO := Lib.hid (And.intro ho hb)
    have hC : (C : Int) ≤ 9223372036854775807 := by omega
    clear happ hV ho hb hcm hml
    go_enter Tryz.func88, Tryz.ntmps88
    go_wp2_with (at_builtin; refine wpList_append_eq rfl rfl rfl rfl HR.out ?_)
    go_ret
    exact ⟨_, rfl, HO.out.1, HO.out.2⟩

def fulR (S : RdS) (fl : Int → List Int) (l : List Int) : List Pt := l.flatMap fun r => pcR S fl r
theorem fulR_len {S : RdS} {fl : Int → List Int} (hF : FullE S fl) (l : List Int) : (fulR S fl l).length ≤ l.length * 8 := by
  induction l with
  | nil => exact Nat.zero_le _
  | cons r t ih =>
    unfold fulR at ih ⊢
    rw [List.flatMap_cons, List.length_append, pcR_len, List.length_cons]
    have := (hF.len r).2
    omega
theorem fulR_snoc {S : RdS} {fl : Int → List Int} (l : List Int) (i : Nat) {r : Int} (h : l[i]? = some r) : fulR S fl (l.take (i + 1)) = fulR S fl (l.take i) ++ pcR S fl r := by
  unfold fulR
  rw [List.take_add_one, h, List.flatMap_append]
  simp
structure PrN (S : RdS) (fl : Int → List Int) (L : List Nat) : Prop where
  hd : ∀ x l, S.ds x = some l → 1 ≤ l.length ∧ l.length ≤ 8
  fe : FullE S fl
  hL : ∀ x : Nat, dcpV S (x : Int) ≠ [] → x ∈ L
  hz : L.length ≤ 1073741824
  vy : ∀ x : Int, ∀ y ∈ dcpV S x, y ≤ 1114111

set_option maxRecDepth 100000 in
set_option maxHeartbeats 4000000 in
theorem nSpread0 {S : RdS} {fl : Int → List Int} {L : List Nat} {gp : Nat} (hN : PrN S fl L) (w : World) (hP : PrW gp S md w) (v : Value) (l : List Int) (hl : Slg .i32 w v l) (hr : ∀ r ∈ l, I32 r) (hz : l.length ≤ 268435456) :
    Calls Tryz.prog 49 #[.pointer (some ⟨gp, 0, none⟩), .slice none 0 0, v] w fun e w' =>
      ∃ u, e = .returned u ∧ OwnS (fun b => w.heap.size ≤ b) 78 2 u (fulR S fl l).length (encRN (fulR S fl l)) w' ∧ Below w.heap.size w w' := by
  obtain ⟨F, hF⟩ := hN.fe.fin
  obtain ⟨ao, cap, rfl, hcl⟩ := hl
  obtain ⟨n, hn⟩ : ∃ n, l.length = n := ⟨_, rfl⟩
  rw [hn] at hz ⊢
  have CG := Lib.hid (nGrow0 n w (by omega))
  have HO := Lib.hid (And.intro hN (And.intro hP (And.intro hcl (And.intro hr (And.intro hn hF)))))
  clear hN hP hcl hr hn hF
  have hm1 : ∀ W : World, (Instr.makeMap 139 none).run Tryz.prog W = .ok (.map (some W.heap.size)) (W.alloc (.map #[] 0)) := fun W => run_makeMap _ _
  go_enter Tryz.func49, Tryz.ntmps49
  go_wp2_with fail
  refine CG.out.mono ?_
  rintro e w1 ⟨u1, rfl, ho1, hb1⟩
  obtain ⟨av, cv0, hv⟩ := own_slc ho1
  subst hv
  have H1 := Lib.hid (And.intro ho1 hb1)
  clear ho1 hb1 CG
  go_wp2_with fail
  obtain ⟨bm, hbm⟩ : ∃ bm, w1.heap.size = bm := ⟨_, rfl⟩
  rw [hbm]
  obtain ⟨W2, hW2⟩ : ∃ W2, ((w1.alloc (.map #[] 0)).alloc (.cells #[.pointer (some ⟨gp, 0, none⟩), .slice av 0 cv0, .map (some bm)] 141)) = W2 := ⟨_, rfl⟩
  rw [hW2]
  obtain ⟨C, hC⟩ : ∃ C : SpC, C = ⟨S, fl, w.heap.size, gp, bm + 1, bm, L.length, L⟩ := ⟨_, rfl⟩
  have hb12 : Below bm w1 W2 := by rw [← hW2, ← hbm]; exact ((Below.refl _ w1).alloc (Nat.le_refl _) _).alloc (by rw [World.size_alloc]; omega) _
  have hzw : w.heap.size ≤ bm := by rw [← hbm]; exact H1.out.2.size
  have hSP : SpP C md w := by
    rw [hC]
    exact ⟨HO.out.2.1, rfl, HO.out.1.hd, HO.out.1.fe, HO.out.1.hL, by have := HO.out.1.hz; show L.length ≤ _; omega, HO.out.1.vy⟩
  have hI0 : SpI C (fulR S fl (l.take 0)) (.slice av 0 cv0) 0 (fun _ => none) W2 := by
    have k12 : Keep (fun _ => False) w1 W2 := by rw [← hW2]; exact ((Keep.refl _ w1).alloc _).alloc _
    rw [hC]
    refine ⟨?_, ?_, ?_, fun x u hx => (by cases hx), ?_, by show w.heap.size ≤ bm + 1; omega, hzw, by show bm + 1 ≠ bm; omega⟩
    · show W2.heap[bm + 1]? = _
      rw [← hW2, ← hbm, ← World.size_alloc w1 (.map #[] 0)]
      exact World.alloc_heap_new _ _
    · rw [List.take_zero]
      have h9 := H1.out.1.keep k12 (fun _ h => h.elim)
      refine ⟨h9.1, fun b hb => ⟨H1.out.1.2 b hb, ?_, ?_⟩⟩
      · have := (H1.out.1.1.lt b hb).2; show b ≠ bm + 1; omega
      · have := (H1.out.1.1.lt b hb).2; show b ≠ bm; omega
    · have h9 := MapG.made w1 Tryz.prog 21
      have h8 : MapG Tryz.prog 21 w1.heap.size 0 (fun _ => none) W2 := h9.below (B := w1.heap.size + 1) (by rw [← hW2]; exact (Below.refl _ _).alloc (by rw [World.size_alloc]; exact Nat.le_refl _) _) (by omega)
      rw [hbm] at h8
      exact MapG.congr h8 fun kl _ => by unfold ptF; split <;> simp
    · show 0 + unkW L _ ≤ L.length
      unfold unkW unk
      rw [Nat.zero_add]
      exact List.length_filter_le _ _
  have hB0 : Below w.heap.size w W2 := H1.out.2.trans (hb12.mono hzw)
  have HC := Lib.hid (And.intro hC (And.intro hSP (And.intro hI0 hB0)))
  have hgs : C.gs = bm + 1 := by rw [hC]
  rw [← hgs]
  have HG := Lib.hid hgs
  have CP : Hid (∀ (i : Nat) (r : Int) W, l[i]? = some r → (∃ v nm vs, SpI C (fulR S fl (l.take i)) v nm vs W) → Below w.heap.size w W → Calls Tryz.prog 89 #[.pointer (some ⟨C.gs, 0, none⟩), .int .i32 r] W fun e w' =>
      e = .returned (.tuple #[]) ∧ (∃ v nm vs, SpI C (fulR S fl (l.take (i + 1))) v nm vs w') ∧ Below w.heap.size w w') := Lib.hid fun i r W hi ⟨v, nm, vs, h⟩ hb => by
    have hir := HO.out.2.2.2.1 r (List.mem_of_getElem? hi)
    have hH : C.H = w.heap.size := by rw [HC.out.1]
    have hfl : C.fl = fl := by rw [HC.out.1]
    have hCS : C.S = S := by rw [HC.out.1]
    have hlen := fulR_len HO.out.1.fe (l.take i)
    have hlt : (l.take i).length ≤ n := by rw [List.length_take]; have := HO.out.2.2.2.2.1; omega
    have h8 := (HO.out.1.fe.len r).2
    refine (nPut HC.out.2.1 F r _ v nm vs W (by rw [hCS]; exact HO.out.2.2.2.2.2 r) hir h (by rw [hH]; exact hb) (by rw [hfl]; omega)).mono ?_
    rintro e w' ⟨rfl, ⟨v', nm', vs', h1, _, _⟩, hk⟩
    refine ⟨rfl, ⟨v', nm', vs', ?_⟩, hb.trans (hk.below hb.size fun b h9 => ?_)⟩
    · rw [fulR_snoc l i hi]
      rw [hfl, hCS] at h1
      exact h1
    · rw [← hH]
      rcases h9 with rfl | rfl | h9
      · exact h.gs
      · exact h.bm
      · exact (h.row.2 b h9).1
  clear hC hb12 hzw hSP hI0 hB0 hgs hW2 hm1 hbm
  go_loopg [19] n (fun kx s wr => ∃ i : Nat, s = .int .i64 i ∧ i ≤ n ∧ n - i ≤ kx ∧ Hid ((∃ v nm vs, SpI C (fulR S fl (l.take i)) v nm vs wr) ∧ Below w.heap.size w wr))
  case atStart => exact ⟨0, rfl, Nat.zero_le _, Nat.le_refl _, Lib.hid ⟨⟨_, _, _, HC.out.2.2.1⟩, HC.out.2.2.2⟩⟩
  case round =>
    obtain ⟨i, rfl, hin, hkx, hI⟩ := hrel
    by_cases hlt : i < n
    · have hltz : (i : Int) < (n : Int) := by omega
      obtain ⟨r, hr⟩ : ∃ r, l[i]? = some r := ⟨_, List.getElem?_eq_getElem (by rw [HO.out.2.2.2.2.1]; exact hlt)⟩
      obtain ⟨ga, rfl, c0⟩ : ∃ ga : Addr, ao = some ga ∧ wr.cell? (ga.add i) = some (.int .i32 r) := by
        rcases HO.out.2.2.1 with h | ⟨ga, e, h⟩
        · rw [h] at hr; cases hr
        · have := h i r hr
          exact ⟨ga, e, (hI.out.2.cell (Kt.lt_of_cell this)).trans this⟩
      have CQ := Lib.hid (CP.out i r wr hr hI.out.1 hI.out.2)
      clear hI hr
      go_wp2_with fail
      refine CQ.out.mono ?_
      rintro e w3 ⟨rfl, h3, h4⟩
      have H3 := Lib.hid (And.intro h3 h4)
      clear h3 h4
      go_wp2
      go_roundg (n - (i + 1))
      case measure => omega
      case rel => exact ⟨i + 1, by simp, by omega, Nat.le_refl _, H3⟩
    · obtain rfl : i = n := by omega
      obtain ⟨v, nm, vs, h⟩ := hI.out.1
      rw [List.take_of_length_le (by rw [HO.out.2.2.2.2.1]; exact Nat.le_refl _)] at h
      have c1 : wr.cell? ⟨C.gs, 1, none⟩ = some v := by rw [Lib.cell_of_heap h.cell]; rfl
      obtain ⟨a9, c9, hv⟩ := own_slc h.row
      subst hv
      have HR := Lib.hid (And.intro h hI.out.2)
      clear h hI
      go_wp2
      go_ret
      exact ⟨_, rfl, HR.out.1.row.weaken fun b hb => by have := hb.1; rw [HC.out.1] at this; exact this, HR.out.2⟩
def decR (S : RdS) (fl : Int → List Int) (l : List Int) : List Pt := ordL [] (fulR S fl l)
set_option maxRecDepth 100000 in
set_option maxHeartbeats 2000000 in
theorem nDecomposed {S : RdS} {fl : Int → List Int} {L : List Nat} {gp : Nat} (hN : PrN S fl L) (w : World) (hP : PrW gp S md w) (v : Value) (l : List Int) (hl : Slg .i32 w v l) (hr : ∀ r ∈ l, I32 r) (hz : l.length ≤ 268435456) :
    Calls Tryz.prog 37 #[.pointer (some ⟨gp, 0, none⟩), v] w fun e w' => ∃ u, e = .returned u ∧ RowV w' u (decR S fl l) ∧ Below w.heap.size w w' := by
  have CS := Lib.hid (nSpread0 hN w hP v l hl hr hz)
  have hlen := fulR_len hN.fe l
  obtain ⟨X, hX⟩ : ∃ X, fulR S fl l = X := ⟨_, rfl⟩
  unfold decR
  rw [hX] at CS hlen ⊢
  clear hX hl hr
  go_enter Tryz.func37, Tryz.ntmps37
  go_wp2_with fail
  refine CS.out.mono ?_
  rintro e w1 ⟨u, rfl, ho, hb⟩
  have CO : Hid (Calls Tryz.prog 70 #[u] w1 fun e w' => e = .returned (.tuple #[]) ∧ RowV w' u (ordL [] X) ∧ Below w.heap.size w1 w') := Lib.hid (by
    obtain ⟨p, cap, rfl, hcap, hrw⟩ := rowV_own ho
    have hlo : (ordL [] X).length = X.length := by rw [ordL_len]; simp
    rcases hrw with h0 | ⟨g, o, rfl, hg, hm⟩
    · subst h0
      refine (nOrder0 p cap w1).mono ?_
      rintro e w' ⟨rfl, hb9⟩
      exact ⟨rfl, ⟨p, cap, rfl, Nat.zero_le _, .inl rfl⟩, hb9.mono hb.size⟩
    · refine Calls.mono (nOrder g o cap X.length X w1 hm rfl hg hcap (by omega)) ?_
      rintro e w' ⟨rfl, hm9, hk⟩
      refine ⟨rfl, ⟨some ⟨g, o, none⟩, cap, by rw [hlo], by rw [hlo]; exact hcap, .inr ⟨g, o, rfl, Nat.lt_of_lt_of_le hg hk.size, hm9⟩⟩, hk.below hb.size fun b h => ?_⟩
      subst h
      exact ho.2 _ rfl)
  obtain ⟨a9, c9, hv⟩ := own_slc ho
  subst hv
  have HB := Lib.hid hb
  clear ho hb CS
  go_wp2_with fail
  refine CO.out.mono ?_
  rintro e w2 ⟨rfl, h1, h2⟩
  have H2 := Lib.hid (And.intro h1 h2)
  clear h1 h2
  go_wp2
  go_ret
  exact ⟨_, rfl, H2.out.1, HB.out.trans H2.out.2⟩
set_option maxRecDepth 100000 in
set_option maxHeartbeats 2000000 in
theorem nDecompose {S : RdS} {fl : Int → List Int} {L : List Nat} {gp : Nat} (hN : PrN S fl L) (w : World) (hP : PrW gp S md w) (v : Value) (l : List Int) (hl : Slg .i32 w v l) (hr : ∀ r ∈ l, I32 r) (hz : l.length ≤ 268435456) :
    Calls Tryz.prog 13 #[.pointer (some ⟨gp, 0, none⟩), v] w fun e w' => NewZ w.heap.size (barP (decR S fl l)) e w' ∧ Below w.heap.size w w' := by
  have CS := Lib.hid (nDecomposed hN w hP v l hl hr hz)
  have hlen := fulR_len hN.fe l
  obtain ⟨X, hX⟩ : ∃ X, decR S fl l = X := ⟨_, rfl⟩
  have hXl : X.length ≤ 1099511627776 := by rw [← hX]; unfold decR; rw [ordL_len]; simp only [List.length_nil]; omega
  rw [hX] at CS ⊢
  obtain ⟨ao, cap, rfl, _⟩ := hl
  clear hX hr hlen
  go_enter Tryz.func13, Tryz.ntmps13
  go_wp2_with fail
  refine CS.out.mono ?_
  rintro e w1 ⟨u, rfl, hu, hb⟩
  have CB := Lib.hid (nBare u X w1 hu hXl)
  obtain ⟨p, cp, rfl, _⟩ := hu
  have HB := Lib.hid hb
  clear hb CS
  go_wp2_with fail
  refine CB.out.mono ?_
  rintro e w2 ⟨⟨ao2, cp2, rfl, ho⟩, h2⟩
  have H2 := Lib.hid (And.intro ho h2)
  clear ho h2
  go_wp2
  go_ret
  exact ⟨⟨ao2, cp2, rfl, H2.out.1.weaken fun b h => Nat.le_trans HB.out.size h⟩, HB.out.trans (H2.out.2.mono HB.out.size)⟩
end Go.Proofs.YtcfhblbmpbfoaaaGreatDoor
