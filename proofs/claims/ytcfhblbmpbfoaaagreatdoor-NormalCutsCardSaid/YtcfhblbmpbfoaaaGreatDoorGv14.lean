/- Parts of the proof of what the last text says. -/
import Derived.Test.YtcfhblbmpbfoaaaGreatDoorGv3
import Derived.Test.YtcfhblbmpbfoaaaGreatDoorGv12
import Derived.BigRegionIn
import Derived.LoopIn
import Derived.BigFrameIn
import Derived.Test.YtcfhblbmpbfoaaaGreatDoorGv13
import Derived.Test.YtcfhblbmpbfoaaaGreatDoorGv6
namespace Go.Proofs.YtcfhblbmpbfoaaaGreatDoor
open Go Go.RowKit Go.Kt Go.Kt.Rg Go.Maps
attribute [local go_sem] Oper.semAt_some

def backL (rows : List (Nat × Nat × Int)) : List (Nat × Nat × Nat × Int) := ((List.range rows.length).map fun i => (i, rows.getD i (0, 0, 0))).reverse
theorem backL_len (rows : List (Nat × Nat × Int)) : (backL rows).length = rows.length := by simp [backL]
theorem backL_get (rows : List (Nat × Nat × Int)) {k : Nat} (hk : k < rows.length) : (backL rows)[k]? = some (rows.length - 1 - k, rows.getD (rows.length - 1 - k) (0, 0, 0)) := by
  unfold backL
  rw [List.getElem?_reverse (by simpa using hk)]
  simp only [List.length_map, List.length_range, List.getElem?_map]
  rw [List.getElem?_range (by omega)]
  rfl
def encB (x : Nat × Nat × Nat × Int) : Array Value := #[.int .i64 x.1, .agg #[.int .i32 x.2.1, .int .i32 x.2.2.1, .int .i64 x.2.2.2]]

theorem pback_call (g n cp : Nat) (w : World) :
    Calls Tryz.prog 150 #[.slice (some ⟨g, 0, none⟩) n cp] w fun e w' => e = .returned (.func (.func 174) #[] #[.pointer (some ⟨w.heap.size, 0, none⟩)]) ∧ w.alloc (.cells #[.slice (some ⟨g, 0, none⟩) n cp] 88) = w' := by
  go_enter Tryz.func150, Tryz.ntmps150
  go_wp2
  go_ret
  exact ⟨rfl, rfl⟩
theorem enters_back : ∀ args w, (callFunc 174 args).run Tryz.prog w = .ok (.enter 174 args) w := enters_of Tryz.func174 (by kernel_rfl) rfl

set_option maxRecDepth 100000 in
set_option maxHeartbeats 4000000 in
theorem pback_iter (rows : List (Nat × Nat × Int)) (n g cp bs : Nat) (w0 : World) (hn : rows.length = n) (hbs : w0.cell? ⟨bs, 0, none⟩ = some (.slice (some ⟨g, 0, none⟩) n cp)) (hn2 : n ≤ 1073741824)
    (hc : ∀ (i : Nat) (r : Nat × Nat × Int), rows[i]? = some r → w0.cell? ⟨g, i * 3, none⟩ = some (.int .i32 r.1) ∧ w0.cell? ⟨g, i * 3 + 1, none⟩ = some (.int .i32 r.2.1) ∧ w0.cell? ⟨g, i * 3 + 2, none⟩ = some (.int .i64 r.2.2)) :
    Iter2 Tryz.prog 174 #[.pointer (some ⟨bs, 0, none⟩)] encB (backL rows) (fun x => x = bs ∨ x = g) w0 := by
  intro m X J Jx W hNd hX hsame hsz hJ hJx hSl hY h0
  have q1 : W.cell? ⟨bs, 0, none⟩ = some (.slice (some ⟨g, 0, none⟩) n cp) := (World.cell?_of_block (a := ⟨bs, 0, none⟩) (hsame bs (.inl rfl))).trans hbs
  have HC : Hid (∀ (i : Nat) (r : Nat × Nat × Int), rows[i]? = some r → W.cell? ⟨g, i * 3, none⟩ = some (.int .i32 r.1) ∧ W.cell? ⟨g, i * 3 + 1, none⟩ = some (.int .i32 r.2.1) ∧ W.cell? ⟨g, i * 3 + 2, none⟩ = some (.int .i64 r.2.2)) := Lib.hid fun i r hr => by
    have h := hc i r hr
    have e := hsame g (.inr rfl)
    exact ⟨(World.cell?_of_block (a := ⟨g, _, none⟩) e).trans h.1, (World.cell?_of_block (a := ⟨g, _, none⟩) e).trans h.2.1, (World.cell?_of_block (a := ⟨g, _, none⟩) e).trans h.2.2⟩
  have hXb : Hid (¬ X bs ∧ ¬ X g) := Lib.hid ⟨hNd bs (.inl rfl), hNd g (.inr rfl)⟩
  have HK := Lib.hid (And.intro hX (And.intro hJ (And.intro hJx (And.intro hSl hY))))
  have HG := Lib.hid (fun k (hk : k < rows.length) => backL_get rows hk)
  have HLN : Hid ((backL rows).length = n) := Lib.hid (by rw [backL_len, hn])
  have HN := Lib.hid hn
  obtain ⟨L, hL⟩ : ∃ L, backL rows = L := ⟨_, rfl⟩
  rw [hL] at HK HG HLN ⊢
  have hfn : ∀ k, Fence.wide.fn k := fun _ => trivial
  have hdep : Fence.wide.depth = none := rfl
  have q0 : IntKind.i64.wrap ((n : Int) - 1) = (n : Int) - 1 := IntWalk.i64_in _ (by omega)
  clear hNd hsame hsz hX hJ hJx hSl hY hc hbs hn hL
  refine (callsIn_wide (n := 0)).1 ?_
  refine callsIn_of_wp Tryz.func174 rfl trivial ?_ rfl
  simp only [Tryz.ntmps174, List.size_toArray, List.length_cons, List.length_nil, Nat.reduceAdd, Nat.reduceSub, Array.replicate_succ, Array.replicate_zero, List.push_toArray, List.append_toArray, List.nil_append, List.cons_append]
  gi_wp2_with fail
  gi_loopw [3] (fun x wr => ∃ (k : Nat) (Y : Nat → Prop), x = .int .i64 ((n : Int) - 1 - k) ∧ k ≤ n ∧ (∀ y, Y y → W.heap.size ≤ y) ∧ J (L.take k) Y wr ∧ Keep X W wr) (fun x _ => (RowKit.intOf x + 1).toNat)
  case atStart => exact ⟨0, fun _ => False, by simp, by omega, fun _ h => h.elim, by simpa using h0, Keep.refl _ _⟩
  case round =>
    obtain ⟨k, Y, rfl, hk, hYl, hJs, hkp⟩ := hrel
    have q2 := hkp.cell q1 hXb.out.1
    have HI := Lib.hid (And.intro hYl (And.intro hJs hkp))
    by_cases hlt : k < n
    · obtain ⟨i, hi⟩ : ∃ i, n - 1 - k = i := ⟨_, rfl⟩
      have hii : (n : Int) - 1 - k = (i : Int) := by omega
      have hin : i < n := by omega
      obtain ⟨r, hr⟩ : ∃ r, rows[i]? = some r := ⟨_, List.getElem?_eq_getElem (by rw [HN.out]; exact hin)⟩
      have hg := HG.out k (by rw [HN.out]; exact hlt)
      rw [HN.out, hi, List.getD_eq_getElem?_getD, hr] at hg
      have hcr := HC.out i r hr
      have htk : L.take (k + 1) = L.take k ++ [(i, r)] := by rw [List.take_add_one, hg]; rfl
      have hpx : L.take k ++ [(i, r)] <+: L := by rw [← htk]; exact List.take_prefix _ _
      obtain ⟨lo, hi', vv⟩ := r
      simp only at hcr
      have d0 := hkp.cell hcr.1 hXb.out.2
      have d1 := hkp.cell hcr.2.1 hXb.out.2
      have d2 := hkp.cell hcr.2.2 hXb.out.2
      have b0 : (0 : Int) ≤ (i : Int) := by omega
      have b1 : (i : Int) < (n : Int) := by omega
      have hyy : YieldAt Fence.wide 0 Tryz.prog m #[.int .i64 (i : Nat), .agg #[.int .i32 (lo : Nat), .int .i32 (hi' : Nat), .int .i64 vv]] wr _ := HK.out.2.2.2.2 (L.take k) (i, lo, hi', vv) Y wr hpx hJs hkp.size hYl
      obtain ⟨fn, tmps, assign, body, hy, hR⟩ := hyy
      have q3 : IntKind.i64.wrap ((i : Int) - 1) = (i : Int) - 1 := IntWalk.i64_in _ (by omega)
      have HT := Lib.hid (And.intro htk (And.intro hpx hi))
      rw [hii]
      clear hg hcr htk hpx hYl hJs hkp hr hi hii
      gi_wp2_with fail
      refine hR.mono ?_
      rintro e3 V3 ⟨Y', hk4, hY', (⟨rfl, hJ3⟩ | ⟨rfl, hJx3⟩)⟩
      all_goals have hk3 := HI.out.2.2
      all_goals have hzk := hk3.size
      all_goals have hkW : Keep X W V3 := ⟨hk4.os.trans hk3.os, hk4.tape.trans hk3.tape, hk4.output.trans hk3.output, Nat.le_trans hk3.size hk4.size, fun b hb hx => (hk4.same b (Nat.lt_of_lt_of_le hb hk3.size) (fun h => by rcases h with h | h; exact hx h; have := HI.out.1 b h; omega)).trans (hk3.same b hb hx)⟩
      all_goals have hYl2 : ∀ b, Y' b → W.heap.size ≤ b := fun b hb => by rcases hY' b hb with h | h; exact HI.out.1 b h; omega
      · have HF := Lib.hid (And.intro hYl2 (And.intro hJ3 hkW))
        clear hk4 hk3 hYl2 hJ3 hkW hY'
        gi_wp2_with fail
        go_roundw
        case rel => exact ⟨k + 1, Y', by have := HT.out.2.2; congr 1; omega, by omega, HF.out.1, by rw [HT.out.1]; exact HF.out.2.1, HF.out.2.2⟩
        case measure => (simp [RowKit.intOf] <;> omega)
      · have HF := Lib.hid (And.intro hYl2 (And.intro hJx3 hkW))
        clear hk4 hk3 hYl2 hJx3 hkW hY'
        gi_wp2_with fail
        refine bodyPost_ret (results_none rfl _ _ _) rfl ?_
        exact ⟨⟨_, rfl⟩, HF.out.2.2, .inr ⟨_, Y', HT.out.2.1, HF.out.1, HF.out.2.1⟩⟩
    · have hkn : k = n := by omega
      subst hkn
      have b0 : ¬ (0 : Int) ≤ (k : Int) - 1 - k := by omega
      have e : L.take k = L := by rw [← HLN.out]; exact List.take_length
      rw [e] at HI
      clear hYl hJs hkp e
      gi_wp2_with fail
      go_end0
      exact ⟨⟨_, rfl⟩, HI.out.2.2, .inl ⟨Y, HI.out.1, HI.out.2.1⟩⟩
end Go.Proofs.YtcfhblbmpbfoaaaGreatDoor
namespace Go.Proofs.YtcfhblbmpbfoaaaGreatDoor
open Go Go.RowKit Go.Kt Go.Kt.Rg Go.Maps Go.Kt.Os Go.Sort

abbrev Rw3 := Nat × Nat × Int
def holdsR (x : Rw3) (e : Nat) : Prop := x.1 ≤ e ∧ e ≤ x.2.1
instance (x : Rw3) (e : Nat) : Decidable (holdsR x e) := inferInstanceAs (Decidable (_ ∧ _))
def lastV : List Rw3 → Nat → Option Int
  | [], _ => none
  | x :: t, e => match lastV t e with
    | some v => some v
    | none => if holdsR x e then some x.2.2 else none
theorem lastV_none {l : List Rw3} {e : Nat} : lastV l e = none ↔ ∀ x ∈ l, ¬ holdsR x e := by
  induction l with
  | nil => exact ⟨fun _ _ h => (by cases h), fun _ => rfl⟩
  | cons x t ih =>
    unfold lastV
    cases h : lastV t e with
    | some v =>
      refine ⟨fun h1 => (by cases h1), fun h1 => ?_⟩
      have := ih.2 (fun y hy => h1 y (List.mem_cons_of_mem _ hy))
      rw [h] at this; cases this
    | none =>
      have h2 := ih.1 h
      simp only
      split
      · rename_i h3
        exact ⟨fun h1 => (by cases h1), fun h1 => absurd h3 (h1 x List.mem_cons_self)⟩
      · rename_i h3
        exact ⟨fun _ y hy => by rcases List.mem_cons.1 hy with rfl | hy; exact h3; exact h2 y hy, fun _ => rfl⟩
def ToldW (E : List Nat) (l : List Rw3) (P : Nat → Prop) (V : Nat → Int) : Prop :=
  ∀ j e, E[j]? = some e → (P j ↔ lastV l e = none) ∧ V j = (lastV l e).getD 0
theorem ToldW.cons {E : List Nat} {l : List Rw3} {P P' : Nat → Prop} {V V' : Nat → Int} (h : ToldW E l P V) {x : Rw3} {first at_ : Nat} (hE : E.Pairwise (· < ·)) (hf : E[first]? = some x.1) (ha : ∀ e, E[at_]? = some e → x.2.1 < e) (hat : at_ < E.length)
    (hb : ∀ j e, first ≤ j → j < at_ → E[j]? = some e → P j → e ≤ x.2.1)
    (hP : ∀ j, j < E.length → (P' j ↔ P j ∧ (j < first ∨ at_ ≤ j))) (hV1 : ∀ j, P j → first ≤ j → j < at_ → V' j = x.2.2) (hV2 : ∀ j, j < E.length → ¬ (P j ∧ first ≤ j ∧ j < at_) → V' j = V j) : ToldW E (x :: l) P' V' := by
  have hlt : ∀ i j a b, E[i]? = some a → E[j]? = some b → i < j → a < b := fun i j a b hi hj hij => by
    have h1 := (List.getElem?_eq_some_iff.1 hi)
    have h2 := (List.getElem?_eq_some_iff.1 hj)
    rw [← h1.2, ← h2.2]
    exact (List.pairwise_iff_getElem.1 hE) i j h1.1 h2.1 hij
  intro j e hj
  have hjl := (List.getElem?_eq_some_iff.1 hj).1
  obtain ⟨h1, h2⟩ := h j e hj
  obtain ⟨ea, hea⟩ : ∃ ea, E[at_]? = some ea := ⟨_, List.getElem?_eq_getElem hat⟩
  have hax := ha ea hea
  rw [hP j hjl]
  unfold lastV
  cases hl : lastV l e with
  | some v =>
    have hp : ¬ P j := fun hp => by have := h1.1 hp; rw [hl] at this; cases this
    rw [hV2 j hjl (fun h => hp h.1), h2, hl]
    exact ⟨⟨fun h => absurd h.1 hp, fun h => (by cases h)⟩, rfl⟩
  | none =>
    have hp : P j := h1.2 hl
    simp only
    by_cases hh : holdsR x e
    · have hjf : first ≤ j := by
        refine Nat.le_of_not_lt fun hlt2 => ?_
        have := hlt j first e x.1 hj hf hlt2
        have := hh.1
        omega
      have hja : j < at_ := by
        refine Nat.lt_of_not_le fun hle => ?_
        have := hh.2
        by_cases e2 : at_ = j
        · subst e2; rw [hea] at hj; cases hj; omega
        · have := hlt at_ j ea e hea hj (by omega)
          omega
      rw [if_pos hh, hV1 j hp hjf hja]
      exact ⟨⟨fun h => (by omega), fun h => (by cases h)⟩, rfl⟩
    · have hn : ¬ (first ≤ j ∧ j < at_) := fun hq => hh (by
        have hle := hb j e hq.1 hq.2 hj hp
        refine ⟨?_, hle⟩
        by_cases e2 : first = j
        · subst e2; rw [hf] at hj; cases hj; exact Nat.le_refl _
        · have := hlt first j x.1 e hf hj (by omega)
          omega)
      rw [if_neg hh, hV2 j hjl (fun h => hn h.2), h2, hl]
      exact ⟨⟨fun _ => rfl, fun _ => ⟨hp, by omega⟩⟩, rfl⟩
end Go.Proofs.YtcfhblbmpbfoaaaGreatDoor
namespace Go.Proofs.YtcfhblbmpbfoaaaGreatDoor
open Go Go.RowKit Go.Kt Go.Kt.Rg Go.Maps Go.Kt.Os Go.Sort

def runVal (L : List (Nat × Int)) (r : Int) : Int := L.foldl (fun a x => if (x.1 : Int) ≤ r then x.2 else a) 0
theorem runVal_snoc (L : List (Nat × Int)) (x : Nat × Int) (r : Int) : runVal (L ++ [x]) r = if (x.1 : Int) ≤ r then x.2 else runVal L r := by
  unfold runVal
  rw [List.foldl_append]
  rfl
theorem runVal_neg (L : List (Nat × Int)) (r : Int) (h : r < 0) : runVal L r = 0 := by
  unfold runVal
  have : ∀ (L : List (Nat × Int)) (a : Int), L.foldl (fun a x => if (x.1 : Int) ≤ r then x.2 else a) a = a := by
    intro L
    induction L with
    | nil => intro a; rfl
    | cons x t ih => intro a; rw [List.foldl_cons, if_neg (by omega)]; exact ih a
  exact this L 0
theorem runVal_at (L : List (Nat × Int)) (k : Nat) (r : Int) (hk : k ≤ L.length) (h1 : ∀ i x, L[i]? = some x → i < k → (x.1 : Int) ≤ r) (h2 : ∀ i x, L[i]? = some x → k ≤ i → r < (x.1 : Int)) :
    (k = 0 → runVal L r = 0) ∧ (∀ j x, k = j + 1 → L[j]? = some x → runVal L r = x.2) := by
  have key : ∀ (M : List (Nat × Int)) (a : Int), (∀ x ∈ M, r < (x.1 : Int)) → M.foldl (fun a x => if (x.1 : Int) ≤ r then x.2 else a) a = a := by
    intro M
    induction M with
    | nil => intro a _; rfl
    | cons x t ih =>
      intro a hM
      have h9 := hM x List.mem_cons_self
      rw [List.foldl_cons, if_neg (by omega)]
      exact ih a (fun y hy => hM y (List.mem_cons_of_mem _ hy))
  have hd : ∀ x ∈ L.drop k, r < (x.1 : Int) := fun x hx => by
    obtain ⟨i, hi⟩ := List.getElem?_of_mem hx
    rw [List.getElem?_drop] at hi
    exact h2 _ _ hi (by omega)
  have hs : runVal L r = runVal (L.take k) r := by
    conv => lhs; rw [← List.take_append_drop k L]
    unfold runVal
    rw [List.foldl_append]
    exact key _ _ hd
  refine ⟨fun e => ?_, fun j x e hj => ?_⟩
  · subst e
    rw [hs]; rfl
  · subst e
    have ht : L.take (j + 1) = L.take j ++ [x] := by rw [List.take_add_one, hj]; rfl
    rw [hs, ht, runVal_snoc, if_pos (h1 j x hj (by omega))]

def evV (E : List Nat) (V : Nat → Int) : Nat → Nat → Int
  | 0, _ => 0
  | k + 1, r => if E.getD k 0 ≤ r then V k else evV E V k r
theorem evV_spec (E : List Nat) (V : Nat → Int) (r : Nat) : ∀ k, ((∀ j, j < k → r < E.getD j 0) ∧ evV E V k r = 0) ∨ ∃ j, j < k ∧ E.getD j 0 ≤ r ∧ (∀ i, j < i → i < k → r < E.getD i 0) ∧ evV E V k r = V j
  | 0 => .inl ⟨fun j h => absurd h (by omega), rfl⟩
  | k + 1 => by
    unfold evV
    by_cases h : E.getD k 0 ≤ r
    · rw [if_pos h]
      exact .inr ⟨k, by omega, h, fun i h1 h2 => by omega, rfl⟩
    · rw [if_neg h]
      rcases evV_spec E V r k with ⟨h1, h2⟩ | ⟨j, h1, h2, h3, h4⟩
      · refine .inl ⟨fun j hj => ?_, h2⟩
        by_cases e : j = k
        · subst e; omega
        · exact h1 j (by omega)
      · refine .inr ⟨j, by omega, h2, fun i h5 h6 => ?_, h4⟩
        by_cases e : i = k
        · subst e; omega
        · exact h3 i h5 (by omega)
theorem lastV_congr {l : List Rw3} {a b : Nat} (h : ∀ x ∈ l, holdsR x a ↔ holdsR x b) : lastV l a = lastV l b := by
  induction l with
  | nil => rfl
  | cons x t ih =>
    unfold lastV
    rw [ih (fun y hy => h y (List.mem_cons_of_mem _ hy))]
    have h1 := h x List.mem_cons_self
    by_cases h2 : holdsR x a
    · rw [if_pos h2, if_pos (h1.1 h2)]
    · rw [if_neg h2, if_neg (fun h3 => h2 (h1.2 h3))]
theorem evV_all {E : List Nat} {rows : List Rw3} {P : Nat → Prop} {V : Nat → Int} (hT : ToldW E rows P V) (hE : E.Pairwise (· < ·)) (hm : ∀ x ∈ rows, x.1 ∈ E ∧ x.2.1 + 1 ∈ E) (r : Nat) : evV E V E.length r = (lastV rows r).getD 0 := by
  have hget : ∀ j, j < E.length → E[j]? = some (E.getD j 0) := fun j hj => by
    rw [List.getD_eq_getElem?_getD, List.getElem?_eq_getElem hj]; rfl
  rcases evV_spec E V r E.length with ⟨h1, h2⟩ | ⟨j, h1, h2, h3, h4⟩
  · rw [h2]
    have : lastV rows r = none := lastV_none.2 fun x hx hh => by
      obtain ⟨i, hi⟩ := List.getElem?_of_mem (hm x hx).1
      have hil := (List.getElem?_eq_some_iff.1 hi).1
      have h9 := h1 i hil
      have h8 := hget i hil
      rw [hi] at h8
      injection h8 with h8
      have := hh.1
      omega
    rw [this]; rfl
  · rw [h4, (hT j _ (hget j h1)).2]
    have hle : ∀ y ∈ E, (y ≤ r ↔ y ≤ E.getD j 0) := fun y hy => by
      obtain ⟨i, hi⟩ := List.getElem?_of_mem hy
      have hil := (List.getElem?_eq_some_iff.1 hi).1
      have h8 := hget i hil
      rw [hi] at h8
      injection h8 with h8
      have h5 := List.pairwise_iff_getElem.1 hE
      rcases Nat.lt_trichotomy i j with h6 | h6 | h6
      · have h7 := h5 i j hil h1 h6
        have e1 : E[i] = E.getD i 0 := by rw [List.getD_eq_getElem?_getD, List.getElem?_eq_getElem hil]; rfl
        have e2 : E[j] = E.getD j 0 := by rw [List.getD_eq_getElem?_getD, List.getElem?_eq_getElem h1]; rfl
        rw [e1, e2] at h7
        omega
      · subst h6; omega
      · have h7 := h3 i h6 hil
        have h9 := h5 j i h1 hil h6
        have e1 : E[i] = E.getD i 0 := by rw [List.getD_eq_getElem?_getD, List.getElem?_eq_getElem hil]; rfl
        have e2 : E[j] = E.getD j 0 := by rw [List.getD_eq_getElem?_getD, List.getElem?_eq_getElem h1]; rfl
        rw [e1, e2] at h9
        omega
    congr 1
    refine lastV_congr fun x hx => ?_
    obtain ⟨m1, m2⟩ := hm x hx
    have a1 := hle _ m1
    have a2 := hle _ m2
    unfold holdsR
    omega
def RunsAt (E : List Nat) (V : Nat → Int) (k : Nat) (c : Int) (L : List (Nat × Int)) : Prop :=
  L.length ≤ k ∧ c = (if k = 0 then 0 else V (k - 1)) ∧ L.Pairwise (fun a b => a.1 < b.1) ∧ (∀ x ∈ L, ∃ j, j < k ∧ E[j]? = some x.1) ∧ ∀ r : Nat, runVal L r = evV E V k r
theorem RunsAt.zero (E : List Nat) (V : Nat → Int) : RunsAt E V 0 0 [] := ⟨Nat.le_refl _, rfl, .nil, fun _ h => (by cases h), fun _ => rfl⟩
theorem RunsAt.same {E : List Nat} {V : Nat → Int} {k : Nat} {c : Int} {L : List (Nat × Int)} (h : RunsAt E V k c L) (hE : E.Pairwise (· < ·)) (hk : k < E.length) (hc : V k = c) : RunsAt E V (k + 1) c L := by
  obtain ⟨h1, h2, h3, h4, h5⟩ := h
  refine ⟨by omega, by rw [if_neg (by omega)]; exact hc.symm, h3, fun x hx => ?_, fun r => ?_⟩
  · obtain ⟨j, hj, he⟩ := h4 x hx
    exact ⟨j, by omega, he⟩
  · rw [h5 r]
    show _ = (if E.getD k 0 ≤ r then V k else evV E V k r)
    by_cases hr : E.getD k 0 ≤ r
    · rw [if_pos hr, hc, h2]
      cases k with
      | zero => rfl
      | succ k =>
        rw [if_neg (by omega)]
        show (if E.getD k 0 ≤ r then V k else evV E V k r) = _
        have h7 := (List.pairwise_iff_getElem.1 hE) k (k + 1) (by omega) hk (by omega)
        rw [List.getD_eq_getElem?_getD, List.getElem?_eq_getElem hk] at hr
        rw [List.getD_eq_getElem?_getD, List.getElem?_eq_getElem (show k < E.length by omega)]
        simp only [Option.getD_some] at hr ⊢
        rw [if_pos (by omega)]
        rfl
    · rw [if_neg hr]
theorem RunsAt.more {E : List Nat} {V : Nat → Int} {k : Nat} {c : Int} {L : List (Nat × Int)} (h : RunsAt E V k c L) (hE : E.Pairwise (· < ·)) {e : Nat} (he : E[k]? = some e) : RunsAt E V (k + 1) (V k) (L ++ [(e, V k)]) := by
  obtain ⟨h1, h2, h3, h4, h5⟩ := h
  refine ⟨by rw [List.length_append]; simp; omega, by rw [if_neg (by omega)]; rfl, ?_, fun x hx => ?_, fun r => ?_⟩
  · rw [List.pairwise_append]
    refine ⟨h3, List.pairwise_singleton _ _, fun a ha b hb => ?_⟩
    obtain ⟨j, hj, hje⟩ := h4 a ha
    simp at hb
    subst hb
    have q1 := List.getElem?_eq_some_iff.1 hje
    have q2 := List.getElem?_eq_some_iff.1 he
    have h7 := (List.pairwise_iff_getElem.1 hE) j k q1.1 q2.1 hj
    rw [q1.2, q2.2] at h7
    exact h7
  · rcases List.mem_append.1 hx with hx | hx
    · obtain ⟨j, hj, hje⟩ := h4 x hx
      exact ⟨j, by omega, hje⟩
    · simp at hx
      subst hx
      exact ⟨k, by omega, he⟩
  · rw [runVal_snoc]
    show _ = (if E.getD k 0 ≤ r then V k else evV E V k r)
    have hg : E.getD k 0 = e := by rw [List.getD_eq_getElem?_getD, he]; rfl
    rw [hg, ← h5 r]
    by_cases hr : e ≤ r
    · rw [if_pos hr, if_pos (by simp only; omega)]
    · rw [if_neg hr, if_neg (by simp only; omega)]
def encR2 (L : List (Nat × Int)) : List Value := L.flatMap fun x => [.int .i32 (x.1 : Nat), .int .i64 x.2]
theorem encR2_snoc (L : List (Nat × Int)) (x : Nat × Int) : encR2 (L ++ [x]) = encR2 L ++ [.int .i32 (x.1 : Nat), .int .i64 x.2] := by simp [encR2]
theorem encR2_get (L : List (Nat × Int)) (i : Nat) (x : Nat × Int) (h : L[i]? = some x) : (encR2 L)[i * 2]? = some (.int .i32 (x.1 : Nat)) ∧ (encR2 L)[i * 2 + 1]? = some (.int .i64 x.2) := by
  induction L generalizing i with
  | nil => cases h
  | cons y t ih =>
    cases i with
    | zero =>
      simp at h
      subst h
      simp [encR2]
    | succ i =>
      simp at h
      have := ih i h
      have e : encR2 (y :: t) = [.int .i32 (y.1 : Nat), .int .i64 y.2] ++ encR2 t := by simp [encR2]
      rw [e, show (i + 1) * 2 = i * 2 + 2 by omega]
      refine ⟨?_, ?_⟩
      · rw [List.getElem?_append_right (by simp)]
        simpa using this.1
      · rw [List.getElem?_append_right (by simp)]
        have h9 := this.2
        simpa [show i * 2 + 2 + 1 - 2 = i * 2 + 1 by omega] using h9
def RunV (w : World) (v : Value) (l : List (Nat × Int)) : Prop :=
  ∃ ao cp, v = .slice ao l.length cp ∧ (l = [] ∨ ∃ g, ao = some ⟨g, 0, none⟩ ∧ ∀ (i : Nat) (x : Nat × Int), l[i]? = some x → w.cell? ⟨g, i * 2, none⟩ = some (.int .i32 (x.1 : Nat)) ∧ w.cell? ⟨g, i * 2 + 1, none⟩ = some (.int .i64 x.2))
theorem RunV.below {v : Value} {l : List (Nat × Int)} {A B : World} (h : RunV A v l) (hb : Below A.heap.size A B) : RunV B v l := by
  obtain ⟨ao, cp, rfl, h⟩ := h
  refine ⟨ao, cp, rfl, ?_⟩
  rcases h with h | ⟨g, e, h⟩
  · exact .inl h
  · exact .inr ⟨g, e, fun i r hr => ⟨(hb.cell (lt_of_cell (h i r hr).1)).trans (h i r hr).1, (hb.cell (lt_of_cell (h i r hr).2)).trans (h i r hr).2⟩⟩
theorem own_runv {Y : Nat → Prop} {v : Value} {l : List (Nat × Int)} {w : World} (h : OwnS Y 178 2 v l.length (encR2 l) w) : RunV w v l := by
  rcases h.shape with ⟨hv, h0⟩ | ⟨gb, cap, hv, hg, hgl⟩
  · exact ⟨none, 0, by rw [hv, h0], .inl (List.length_eq_zero_iff.1 h0)⟩
  · refine ⟨_, cap, hv, .inr ⟨gb, rfl, fun i r hr => ?_⟩⟩
    subst hv
    obtain ⟨e1, e2⟩ := encR2_get l i r hr
    exact ⟨h.atN e1, h.atN e2⟩
end Go.Proofs.YtcfhblbmpbfoaaaGreatDoor
