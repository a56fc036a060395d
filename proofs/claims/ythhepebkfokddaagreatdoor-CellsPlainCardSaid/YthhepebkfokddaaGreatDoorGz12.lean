/- Parts of the proof of what the last text says. -/
import Derived.Test.YthhepebkfokddaaGreatDoorGz2
import Derived.Test.YthhepebkfokddaaGreatDoorGz11
import Derived.BigRegionIn
import Derived.LoopIn
import Derived.BigFrameIn
import Derived.Test.YthhepebkfokddaaGreatDoorGz6
import Derived.OwnWalk
import Derived.Test.YthhepebkfokddaaGreatDoorGz5
import Derived.Test.YthhepebkfokddaaGreatDoorGz1
import Derived.OrdersIn
import Derived.OwnWalkIn
/- props: rows from behind (slices.Backward). -/
namespace Go.Proofs.YthhepebkfokddaaGreatDoor
open Go Go.RowKit Go.Kt Go.Kt.Rg Go.Maps
attribute [local go_sem] Oper.semAt_some

/-- Rows from behind, with their places. -/
def backL (rows : List (Nat × Nat × Int)) : List (Nat × Nat × Nat × Int) := ((List.range rows.length).map fun i => (i, rows.getD i (0, 0, 0))).reverse
theorem backL_len (rows : List (Nat × Nat × Int)) : (backL rows).length = rows.length := by simp [backL]
theorem backL_get (rows : List (Nat × Nat × Int)) {k : Nat} (hk : k < rows.length) : (backL rows)[k]? = some (rows.length - 1 - k, rows.getD (rows.length - 1 - k) (0, 0, 0)) := by
  unfold backL
  rw [List.getElem?_reverse (by simpa using hk)]
  simp only [List.length_map, List.length_range, List.getElem?_map]
  rw [List.getElem?_range (by omega)]
  rfl
def encB (x : Nat × Nat × Nat × Int) : Array Value := #[.int .i64 x.1, .agg #[.int .i32 x.2.1, .int .i32 x.2.2.1, .int .i64 x.2.2.2]]

theorem pback_call (g n cp : Nat) (w : World) :
    Calls Tryz.prog 88 #[.slice (some ⟨g, 0, none⟩) n cp] w fun e w' => e = .returned (.func (.func 117) #[] #[.pointer (some ⟨w.heap.size, 0, none⟩)]) ∧ w.alloc (.cells #[.slice (some ⟨g, 0, none⟩) n cp] 53) = w' := by
  go_enter Tryz.func88, Tryz.ntmps88
  go_wp2
  go_ret
  exact ⟨rfl, rfl⟩
theorem enters_back : ∀ args w, (callFunc 117 args).run Tryz.prog w = .ok (.enter 117 args) w := enters_of Tryz.func117 (by kernel_rfl) rfl

set_option maxRecDepth 100000 in
set_option maxHeartbeats 4000000 in
theorem pback_iter (rows : List (Nat × Nat × Int)) (n g cp bs : Nat) (w0 : World) (hn : rows.length = n) (hbs : w0.cell? ⟨bs, 0, none⟩ = some (.slice (some ⟨g, 0, none⟩) n cp)) (hn2 : n ≤ 1073741824)
    (hc : ∀ (i : Nat) (r : Nat × Nat × Int), rows[i]? = some r → w0.cell? ⟨g, i * 3, none⟩ = some (.int .i32 r.1) ∧ w0.cell? ⟨g, i * 3 + 1, none⟩ = some (.int .i32 r.2.1) ∧ w0.cell? ⟨g, i * 3 + 2, none⟩ = some (.int .i64 r.2.2)) :
    Iter2 Tryz.prog 117 #[.pointer (some ⟨bs, 0, none⟩)] encB (backL rows) (fun x => x = bs ∨ x = g) w0 := by
  intro m X J Jx W hNd hX hsame hsz hJ hJx hSl hY h0
  have q1 : W.cell? ⟨bs, 0, none⟩ = some (.slice (some ⟨g, 0, none⟩) n cp) := (World.cell?_of_block (a := ⟨bs, 0, none⟩) (hsame bs (.inl rfl))).trans hbs
  have HC : Hid (∀ (i : Nat) (r : Nat × Nat × Int), rows[i]? = some r → W.cell? ⟨g, i * 3, none⟩ = some (.int .i32 r.1) ∧ W.cell? ⟨g, i * 3 + 1, none⟩ = some (.int .i32 r.2.1) ∧ W.cell? ⟨g, i * 3 + 2, none⟩ = some (.int .i64 r.2.2)) := Lib.hid fun i r hr => by
    have h := hc i r hr
    have e := hsame g (.inr rfl)
    exact ⟨(World.cell?_of_block (a := ⟨g, _, none⟩) e).trans h.1, (World.cell?_of_block (a := ⟨g, _, none⟩) e).trans h.2.1, (World.cell?_of_block (a := ⟨g, _, none⟩) e).trans h.2.2⟩
  have hXb : Hid (¬ X bs ∧ ¬ X g) := Lib.hid ⟨hNd bs (.inl rfl), hNd g (.inr rfl)⟩
  have HK := Lib.hid (And.intro hX (And.intro hJ (And.intro hJx (And.intro hSl hY))))
  have HG := Lib.hid (fun k (hk : k < rows.length) => backL_get rows hk)
  have HLN : Hid ((backL rows).length = n) := Lib.hid (by rw [backL_len, hn])
  have HN := Lib.hid hn
  obtain ⟨L, hL⟩ : ∃ L, backL rows = L := ⟨_, rfl⟩
  rw [hL] at HK HG HLN ⊢
  have hfn : ∀ k, Fence.wide.fn k := fun _ => trivial
  have hdep : Fence.wide.depth = none := rfl
  have q0 : IntKind.i64.wrap ((n : Int) - 1) = (n : Int) - 1 := IntWalk.i64_in _ (by omega)
  clear hNd hsame hsz hX hJ hJx hSl hY hc hbs hn hL
  refine (callsIn_wide (n := 0)).1 ?_
  refine callsIn_of_wp Tryz.func117 rfl trivial ?_ rfl
  simp only [Tryz.ntmps117, List.size_toArray, List.length_cons, List.length_nil, Nat.reduceAdd, Nat.reduceSub, Array.replicate_succ, Array.replicate_zero, List.push_toArray, List.append_toArray, List.nil_append, List.cons_append]
  gi_wp2_with fail
  gi_loopw [3] (fun x wr => ∃ (k : Nat) (Y : Nat → Prop), x = .int .i64 ((n : Int) - 1 - k) ∧ k ≤ n ∧ (∀ y, Y y → W.heap.size ≤ y) ∧ J (L.take k) Y wr ∧ Keep X W wr) (fun x _ => (RowKit.intOf x + 1).toNat)
  case atStart => exact ⟨0, fun _ => False, by simp, by omega, fun _ h => h.elim, by simpa using h0, Keep.refl _ _⟩
  case round =>
    obtain ⟨k, Y, rfl, hk, hYl, hJs, hkp⟩ := hrel
    have q2 := hkp.cell q1 hXb.out.1
    have HI := Lib.hid (And.intro hYl (And.intro hJs hkp))
    by_cases hlt : k < n
    · obtain ⟨i, hi⟩ : ∃ i, n - 1 - k = i := ⟨_, rfl⟩
      have hii : (n : Int) - 1 - k = (i : Int) := by omega
      have hin : i < n := by omega
      obtain ⟨r, hr⟩ : ∃ r, rows[i]? = some r := ⟨_, List.getElem?_eq_getElem (by rw [HN.out]; exact hin)⟩
      have hg := HG.out k (by rw [HN.out]; exact hlt)
      rw [HN.out, hi, List.getD_eq_getElem?_getD, hr] at hg
      have hcr := HC.out i r hr
      have htk : L.take (k + 1) = L.take k ++ [(i, r)] := by rw [List.take_add_one, hg]; rfl
      have hpx : L.take k ++ [(i, r)] <+: L := by rw [← htk]; exact List.take_prefix _ _
      obtain ⟨lo, hi', vv⟩ := r
      simp only at hcr
      have d0 := hkp.cell hcr.1 hXb.out.2
      have d1 := hkp.cell hcr.2.1 hXb.out.2
      have d2 := hkp.cell hcr.2.2 hXb.out.2
      have b0 : (0 : Int) ≤ (i : Int) := by omega
      have b1 : (i : Int) < (n : Int) := by omega
      have hyy : YieldAt Fence.wide 0 Tryz.prog m #[.int .i64 (i : Nat), .agg #[.int .i32 (lo : Nat), .int .i32 (hi' : Nat), .int .i64 vv]] wr _ := HK.out.2.2.2.2 (L.take k) (i, lo, hi', vv) Y wr hpx hJs hkp.size hYl
      obtain ⟨fn, tmps, assign, body, hy, hR⟩ := hyy
      have q3 : IntKind.i64.wrap ((i : Int) - 1) = (i : Int) - 1 := IntWalk.i64_in _ (by omega)
      have HT := Lib.hid (And.intro htk (And.intro hpx hi))
      rw [hii]
      clear hg hcr htk hpx hYl hJs hkp hr hi hii
      gi_wp2_with fail
      refine hR.mono ?_
      rintro e3 V3 ⟨Y', hk4, hY', (⟨rfl, hJ3⟩ | ⟨rfl, hJx3⟩)⟩
      all_goals have hk3 := HI.out.2.2
      all_goals have hzk := hk3.size
      all_goals have hkW : Keep X W V3 := ⟨hk4.os.trans hk3.os, hk4.tape.trans hk3.tape, hk4.output.trans hk3.output, Nat.le_trans hk3.size hk4.size, fun b hb hx => (hk4.same b (Nat.lt_of_lt_of_le hb hk3.size) (fun h => by rcases h with h | h; exact hx h; have := HI.out.1 b h; omega)).trans (hk3.same b hb hx)⟩
      all_goals have hYl2 : ∀ b, Y' b → W.heap.size ≤ b := fun b hb => by rcases hY' b hb with h | h; exact HI.out.1 b h; omega
      · have HF := Lib.hid (And.intro hYl2 (And.intro hJ3 hkW))
        clear hk4 hk3 hYl2 hJ3 hkW hY'
        gi_wp2_with fail
        go_roundw
        case rel => exact ⟨k + 1, Y', by have := HT.out.2.2; congr 1; omega, by omega, HF.out.1, by rw [HT.out.1]; exact HF.out.2.1, HF.out.2.2⟩
        case measure => (simp [RowKit.intOf] <;> omega)
      · have HF := Lib.hid (And.intro hYl2 (And.intro hJx3 hkW))
        clear hk4 hk3 hYl2 hJx3 hkW hY'
        gi_wp2_with fail
        refine bodyPost_ret (results_none rfl _ _ _) rfl ?_
        exact ⟨⟨_, rfl⟩, HF.out.2.2, .inr ⟨_, Y', HT.out.2.1, HF.out.1, HF.out.2.1⟩⟩
    · have hkn : k = n := by omega
      subst hkn
      have b0 : ¬ (0 : Int) ≤ (k : Int) - 1 - k := by omega
      have e : L.take k = L := by rw [← HLN.out]; exact List.take_length
      rw [e] at HI
      clear hYl hJs hkp e
      gi_wp2_with fail
      go_end0
      exact ⟨⟨_, rfl⟩, HI.out.2.2, .inl ⟨Y, HI.out.1, HI.out.2.1⟩⟩
end Go.Proofs.YthhepebkfokddaaGreatDoor
/- props: numbers that are left (allOf, drop, from). -/
namespace Go.Proofs.YthhepebkfokddaaGreatDoor
open Go Go.RowKit Go.Kt Go.Kt.Rg Go.Maps

/-- Each number's next one that may be left. -/
structure LftA (n : Nat) (a : Nat → Nat) : Prop where
  up : ∀ i, i < n → i ≤ a i ∧ a i < n
  gap : ∀ i, i < n → ∀ j, i ≤ j → j < a i → a j ≠ j
/-- In block b lie n numbers: P are those that are left. -/
def LftW (b n : Nat) (P : Nat → Prop) (w : World) : Prop :=
  ∃ a : Nat → Nat, LftA n a ∧ (∀ j, j < n → (P j ↔ a j = j)) ∧ ∀ i, i < n → w.cell? ⟨b, i, none⟩ = some (.int .i64 (a i : Nat)) ∧ w.frozen? ⟨b, i, none⟩ = false
theorem LftW.keep {b n : Nat} {P : Nat → Prop} {X : Nat → Prop} {A B : World} (h : LftW b n P A) (hk : Keep X A B) (hX : ¬ X b) : LftW b n P B := by
  obtain ⟨a, h1, h2, h3⟩ := h
  exact ⟨a, h1, h2, fun i hi => ⟨hk.cell (h3 i hi).1 hX, (hk.frozen (lt_of_cell (h3 i hi).1) hX).trans (h3 i hi).2⟩⟩
/-- a with y at x. -/
def updA (a : Nat → Nat) (x y : Nat) : Nat → Nat := fun i => if i = x then y else a i
theorem updA_drop {n : Nat} {a : Nat → Nat} (h : LftA n a) {i : Nat} (hi : i + 1 < n) : LftA n (updA a i (i + 1)) := by
  refine ⟨fun k hk => ?_, fun k hk j h1 h2 => ?_⟩
  · unfold updA
    split
    · omega
    · exact h.up k hk
  · unfold updA at h2 ⊢
    split
    · omega
    · rename_i hj
      split at h2
      · omega
      · exact h.gap k hk j h1 h2
theorem updA_half {n : Nat} {a : Nat → Nat} (h : LftA n a) {i : Nat} (hi : i < n) (hne : a i ≠ i) : LftA n (updA a i (a (a i))) ∧ i < a (a i) ∧ a (a i) < n := by
  have h1 := h.up i hi
  have h2 := h.up (a i) h1.2
  refine ⟨⟨fun k hk => ?_, fun k hk j h3 h4 => ?_⟩, by omega, h2.2⟩
  · unfold updA
    split
    · omega
    · exact h.up k hk
  · unfold updA at h4 ⊢
    split
    · omega
    · rename_i hj
      split at h4
      · rename_i hki
        by_cases h5 : j < a i
        · exact h.gap i hi j (by omega) h5
        · exact h.gap (a i) h1.2 j (by omega) h4
      · exact h.gap k hk j h3 h4
theorem cells_upd {b n : Nat} {a : Nat → Nat} {w : World} (h : ∀ i, i < n → w.cell? ⟨b, i, none⟩ = some (.int .i64 (a i : Nat)) ∧ w.frozen? ⟨b, i, none⟩ = false) {x : Nat} (hx : x < n) (y : Nat) :
    ∀ i, i < n → (w.setCell ⟨b, x, none⟩ (.int .i64 (y : Nat))).cell? ⟨b, i, none⟩ = some (.int .i64 (updA a x y i : Nat)) ∧ (w.setCell ⟨b, x, none⟩ (.int .i64 (y : Nat))).frozen? ⟨b, i, none⟩ = false := fun i hi => by
  refine ⟨?_, ?_⟩
  · unfold updA
    by_cases e : i = x
    · subst e
      rw [if_pos rfl]
      exact World.cell?_setCell_same _ _ _ (h i hi).1
    · rw [if_neg e]
      exact (World.cell?_setCell_other _ _ _ _ (by intro h; injection h with _ h2 _; exact e h2.symm)).trans (h i hi).1
  · rw [World.frozen?_setCell]
    exact (h i hi).2

set_option maxRecDepth 100000 in
theorem pdrop (b n i cap : Nat) (P : Nat → Prop) (w : World) (h : LftW b n P w) (hi : i + 1 < n) (hn : n ≤ 4611686018427387904) :
    Calls Tryz.prog 91 #[.slice (some ⟨b, 0, none⟩) n cap, .int .i64 (i : Nat)] w fun e w' => e = .returned (.tuple #[]) ∧ LftW b n (fun j => P j ∧ j ≠ i) w' ∧ Keep (fun x => x = b) w w' := by
  obtain ⟨a, h1, h2, h3⟩ := h
  have hc := (h3 i (by omega)).1
  have hf := (h3 i (by omega)).2
  have q1 : IntKind.i64.wrap ((i : Int) + 1) = ((i + 1 : Nat) : Int) := by rw [IntWalk.i64_in _ (by omega)]; omega
  have q2 : (i : Int) < (n : Int) := by omega
  have H := Lib.hid (And.intro h1 (And.intro h2 h3))
  clear h1 h2 h3
  go_enter Tryz.func91, Tryz.ntmps91
  go_wp2
  go_end0
  have e : ((i : Int) + 1) = ((i + 1 : Nat) : Int) := by omega
  rw [e]
  refine ⟨rfl, ⟨_, updA_drop H.out.1 hi, fun j hj => ?_, cells_upd H.out.2.2 (by omega) (i + 1)⟩, Keep.setCell (X := fun x => x = b) (Keep.refl _ w) (p := ⟨b, i, none⟩) rfl _⟩
  unfold updA
  by_cases e2 : j = i
  · rw [if_pos e2]; exact ⟨fun h => absurd e2 h.2, fun h => by omega⟩
  · rw [if_neg e2]; exact ⟨fun h => (H.out.2.1 j hj).1 h.1, fun h => ⟨(H.out.2.1 j hj).2 h, e2⟩⟩

/-- What from keeps. -/
def FromI (b n i : Nat) (P : Nat → Prop) (w : World) (i' : Nat) (wr : World) : Prop :=
  i ≤ i' ∧ i' < n ∧ (∀ j, i ≤ j → j < i' → ¬ P j) ∧ LftW b n P wr ∧ Keep (fun x => x = b) w wr
/-- What from answers. -/
def FromOut (b n i : Nat) (P : Nat → Prop) (w : World) (e : Ending) (w' : World) : Prop :=
  ∃ j : Nat, e = .returned (.int .i64 (j : Nat)) ∧ FromI b n i P w j w' ∧ P j

set_option maxRecDepth 100000 in
set_option maxHeartbeats 2000000 in
theorem pfrom (b n i cap : Nat) (P : Nat → Prop) (w : World) (h : LftW b n P w) (hi : i < n) (_hn : n ≤ 4611686018427387904) :
    Calls Tryz.prog 90 #[.slice (some ⟨b, 0, none⟩) n cap, .int .i64 (i : Nat)] w fun e w' => FromOut b n i P w e w' := by
  have H := Lib.hid h
  clear h
  go_enter Tryz.func90, Tryz.ntmps90
  go_wp2_with fail
  go_loopw [1] (fun x wr => ∃ i' : Nat, x = .int .i64 i' ∧ FromI b n i P w i' wr) (fun x _ => n - (RowKit.intOf x).toNat)
  case atStart => exact ⟨i, rfl, Nat.le_refl _, hi, fun j h1 h2 => by omega, H.out, Keep.refl _ _⟩
  case round =>
    obtain ⟨k, rfl, hI⟩ := hrel
    obtain ⟨h1, h2, h3, ⟨a, ha, hP, hc⟩, h5⟩ := hI
    have ck := (hc k h2).1
    have fk := (hc k h2).2
    have q2 : (k : Int) < (n : Int) := by omega
    have HI := Lib.hid (And.intro h1 (And.intro h3 (And.intro ha (And.intro hP (And.intro hc h5)))))
    by_cases e : a k = k
    · have b1 : (((a k : Nat) : Int) != (k : Int)) = false := by rw [e]; simp
      clear h1 h3 ha hP hc h5 e
      go_wp2
      go_ret
      have e2 : a k = k := by
        have : ((a k : Nat) : Int) = (k : Int) := by simpa using b1
        omega
      exact ⟨k, rfl, ⟨HI.out.1, h2, HI.out.2.1, ⟨a, HI.out.2.2.1, HI.out.2.2.2.1, HI.out.2.2.2.2.1⟩, HI.out.2.2.2.2.2⟩, (HI.out.2.2.2.1 k h2).2 e2⟩
    · have b1 : (((a k : Nat) : Int) != (k : Int)) = true := by simp; omega
      have hu := ha.up k h2
      obtain ⟨m, hm⟩ : ∃ m, a k = m := ⟨_, rfl⟩
      have cm := (hc (a k) hu.2).1
      obtain ⟨z, hz⟩ : ∃ z, a (a k) = z := ⟨_, rfl⟩
      have hh := updA_half ha h2 e
      have HH := Lib.hid hh
      have HE := Lib.hid (And.intro e (And.intro hm hz))
      rw [hz] at cm
      rw [hm] at cm ck b1
      have q3 : (m : Int) < (n : Int) := by omega
      clear h1 h3 ha hP hc h5 e hu hh hm hz
      go_wp2_with fail
      obtain ⟨h1, h3, ha, hP, hc, h5⟩ := HI.out
      obtain ⟨hh1, hh2, hh3⟩ := HH.out
      obtain ⟨e, hm, hz⟩ := HE.out
      rw [hz] at hh1 hh2 hh3
      refine ⟨⟨z, rfl, by omega, hh3, fun j hj1 hj2 => ?_, ⟨_, hh1, fun j hj => ?_, cells_upd hc h2 z⟩, Keep.setCell (X := fun x => x = b) h5 (p := ⟨b, k, none⟩) rfl _⟩, by simp [RowKit.intOf]; omega⟩
      · by_cases e1 : j < k
        · exact h3 j hj1 e1
        · rw [hP j (by omega)]
          by_cases e2 : j = k
          · rw [e2]; exact e
          · have hz2 : updA a k z k = z := if_pos rfl
            have := hh1.gap k h2 j (by omega) (by rw [hz2]; exact hj2)
            rwa [show updA a k z j = a j from if_neg e2] at this
      · rw [hP j hj]
        by_cases e2 : j = k
        · rw [e2, show updA a k z k = z from if_pos rfl]
          exact ⟨fun h => absurd h e, fun h => by omega⟩
        · rw [show updA a k z j = a j from if_neg e2]

set_option maxRecDepth 100000 in
set_option maxHeartbeats 2000000 in
theorem pallOf (n : Nat) (w : World) (h0 : 0 < n) (hn : n ≤ 16777216) :
    Calls Tryz.prog 87 #[.int .i64 (n : Nat)] w fun e w' => e = .returned (.slice (some ⟨w.heap.size, 0, none⟩) n n) ∧ LftW w.heap.size n (fun _ => True) w' ∧ Below w.heap.size w w' ∧ w.heap.size < w'.heap.size := by
  obtain ⟨h, hh⟩ : ∃ h, w.heap.size = h := ⟨_, rfl⟩
  rw [hh]
  go_enter Tryz.func87, Tryz.ntmps87
  go_wp2_with (at_make; refine wpList_make_full _ rfl _ _ _ rfl w.heap.size 3 _ (.int .i64 0) 1 Tryz.underlying137 rfl rfl rfl .i64 .i64 _ _ n rfl rfl rfl rfl (by show 8 * n ≤ _; omega) (by unfold maxLen; omega) (Nat.le_refl _) ?_; intro w1 hown1 hgr1)
  have H1 : Hid (∃ C : Array Value, Below h w w1 ∧ w1.heap[h]? = some (.cells C 3 (0, 0)) ∧ C.size = n) := Lib.hid (by
    obtain ⟨_, h2⟩ := hown1
    rcases h2 with ⟨h2, _⟩ | ⟨g2, c2, C, e2, _, h3, _, _, h4, _⟩
    · cases h2
    · injection e2 with e3 _ e4
      injection e3 with e3
      injection e3 with e3 _
      subst e3 e4
      rw [hh] at h3
      exact ⟨C, ⟨hgr1.os, hgr1.tape, hgr1.output, hgr1.size, fun x hx => hgr1.block x (by omega) (fun e => by cases e)⟩, h3, by omega⟩)
  clear hown1 hgr1
  go_loopw [9] (fun vk wr => ∃ (k : Nat) (C : Array Value), vk = .int .i64 k ∧ k ≤ n ∧ Hid (Below h w wr ∧ wr.heap[h]? = some (.cells C 3 (0, 0)) ∧ C.size = n ∧ ∀ i, i < k → C[i]? = some (.int .i64 (i : Nat)))) (fun vk _ => n - (RowKit.intOf vk).toNat)
  case atStart =>
    obtain ⟨C, a1, a2, a3⟩ := H1.out
    exact ⟨0, C, rfl, by omega, Lib.hid ⟨a1, a2, a3, fun i hi => by omega⟩⟩
  case round =>
    clear H1
    obtain ⟨k, C, rfl, hk, HI⟩ := hrel
    by_cases hlt : k < n
    · have hlt' : (k : Int) < (n : Int) := by omega
      have ck : wr.cell? ⟨h, k, none⟩ = some C[k]! := by
        rw [Lib.cell_of_heap HI.out.2.1]
        have := HI.out.2.2.1
        rw [getElem!_pos C k (by omega)]
        simp [show k < C.size by omega]
      have fk : wr.frozen? ⟨h, k, none⟩ = false := Lib.frozen_of_heap HI.out.2.1 _
      have hnew := heap_setCell_same wr h k _ _ (.int .i64 (k : Nat)) HI.out.2.1
      have HN := Lib.hid hnew
      clear hnew hlt
      go_wp2_with fail
      refine ⟨⟨k + 1, _, by go_num, by omega, Lib.hid ⟨HI.out.1.setCell (Nat.le_refl _) _, HN.out, by simp [HI.out.2.2.1], fun i hi => ?_⟩⟩, by simp [RowKit.intOf]; omega⟩
      rw [Array.getElem?_setIfInBounds]
      by_cases e : k = i
      · subst e
        rw [if_pos rfl, if_pos (by rw [HI.out.2.2.1]; omega)]
      · rw [if_neg e]
        exact HI.out.2.2.2 i (by omega)
    · have hkn : k = n := by omega
      subst hkn
      have hlt' : ¬ (k : Int) < (k : Int) := by omega
      clear hlt
      go_wp2
      go_ret
      refine ⟨rfl, ⟨fun i => i, ⟨fun i hi => ⟨Nat.le_refl _, hi⟩, fun i hi j h1 h2 => by omega⟩, fun j hj => ⟨fun _ => rfl, fun _ => trivial⟩, fun i hi => ⟨?_, Lib.frozen_of_heap HI.out.2.1 _⟩⟩, HI.out.1, (Array.getElem?_eq_some_iff.1 HI.out.2.1).1⟩
      rw [Lib.cell_of_heap HI.out.2.1]
      exact HI.out.2.2.2 i hi
end Go.Proofs.YthhepebkfokddaaGreatDoor
/- props: runs of rows: what is told of each edge. -/
namespace Go.Proofs.YthhepebkfokddaaGreatDoor
open Go Go.RowKit Go.Kt Go.Kt.Rg Go.Maps Go.Kt.Os Go.Sort

abbrev Rw3 := Nat × Nat × Int
def holdsR (x : Rw3) (e : Nat) : Prop := x.1 ≤ e ∧ e ≤ x.2.1
instance (x : Rw3) (e : Nat) : Decidable (holdsR x e) := inferInstanceAs (Decidable (_ ∧ _))
/-- The value of the last row that holds a number; 0 if none does. -/
def lastV : List Rw3 → Nat → Option Int
  | [], _ => none
  | x :: t, e => match lastV t e with
    | some v => some v
    | none => if holdsR x e then some x.2.2 else none
theorem lastV_none {l : List Rw3} {e : Nat} : lastV l e = none ↔ ∀ x ∈ l, ¬ holdsR x e := by
  induction l with
  | nil => exact ⟨fun _ _ h => (by cases h), fun _ => rfl⟩
  | cons x t ih =>
    unfold lastV
    cases h : lastV t e with
    | some v =>
      refine ⟨fun h1 => (by cases h1), fun h1 => ?_⟩
      have := ih.2 (fun y hy => h1 y (List.mem_cons_of_mem _ hy))
      rw [h] at this; cases this
    | none =>
      have h2 := ih.1 h
      simp only
      split
      · rename_i h3
        exact ⟨fun h1 => (by cases h1), fun h1 => absurd h3 (h1 x List.mem_cons_self)⟩
      · rename_i h3
        exact ⟨fun _ y hy => by rcases List.mem_cons.1 hy with rfl | hy; exact h3; exact h2 y hy, fun _ => rfl⟩
/-- What is told of the edges E while the rows l are done: which are left, and the values. -/
def ToldW (E : List Nat) (l : List Rw3) (P : Nat → Prop) (V : Nat → Int) : Prop :=
  ∀ j e, E[j]? = some e → (P j ↔ lastV l e = none) ∧ V j = (lastV l e).getD 0
/-- Behind a row x more, from its place first to the place at. -/
theorem ToldW.cons {E : List Nat} {l : List Rw3} {P P' : Nat → Prop} {V V' : Nat → Int} (h : ToldW E l P V) {x : Rw3} {first at_ : Nat} (hE : E.Pairwise (· < ·)) (hf : E[first]? = some x.1) (ha : ∀ e, E[at_]? = some e → x.2.1 < e) (hat : at_ < E.length)
    (hb : ∀ j e, first ≤ j → j < at_ → E[j]? = some e → P j → e ≤ x.2.1)
    (hP : ∀ j, j < E.length → (P' j ↔ P j ∧ (j < first ∨ at_ ≤ j))) (hV1 : ∀ j, P j → first ≤ j → j < at_ → V' j = x.2.2) (hV2 : ∀ j, j < E.length → ¬ (P j ∧ first ≤ j ∧ j < at_) → V' j = V j) : ToldW E (x :: l) P' V' := by
  have hlt : ∀ i j a b, E[i]? = some a → E[j]? = some b → i < j → a < b := fun i j a b hi hj hij => by
    have h1 := (List.getElem?_eq_some_iff.1 hi)
    have h2 := (List.getElem?_eq_some_iff.1 hj)
    rw [← h1.2, ← h2.2]
    exact (List.pairwise_iff_getElem.1 hE) i j h1.1 h2.1 hij
  intro j e hj
  have hjl := (List.getElem?_eq_some_iff.1 hj).1
  obtain ⟨h1, h2⟩ := h j e hj
  obtain ⟨ea, hea⟩ : ∃ ea, E[at_]? = some ea := ⟨_, List.getElem?_eq_getElem hat⟩
  have hax := ha ea hea
  rw [hP j hjl]
  unfold lastV
  cases hl : lastV l e with
  | some v =>
    have hp : ¬ P j := fun hp => by have := h1.1 hp; rw [hl] at this; cases this
    rw [hV2 j hjl (fun h => hp h.1), h2, hl]
    exact ⟨⟨fun h => absurd h.1 hp, fun h => (by cases h)⟩, rfl⟩
  | none =>
    have hp : P j := h1.2 hl
    simp only
    by_cases hh : holdsR x e
    · have hjf : first ≤ j := by
        refine Nat.le_of_not_lt fun hlt2 => ?_
        have := hlt j first e x.1 hj hf hlt2
        have := hh.1
        omega
      have hja : j < at_ := by
        refine Nat.lt_of_not_le fun hle => ?_
        have := hh.2
        by_cases e2 : at_ = j
        · subst e2; rw [hea] at hj; cases hj; omega
        · have := hlt at_ j ea e hea hj (by omega)
          omega
      rw [if_pos hh, hV1 j hp hjf hja]
      exact ⟨⟨fun h => (by omega), fun h => (by cases h)⟩, rfl⟩
    · have hn : ¬ (first ≤ j ∧ j < at_) := fun hq => hh (by
        have hle := hb j e hq.1 hq.2 hj hp
        refine ⟨?_, hle⟩
        by_cases e2 : first = j
        · subst e2; rw [hf] at hj; cases hj; exact Nat.le_refl _
        · have := hlt first j x.1 e hf hj (by omega)
          omega)
      rw [if_neg hh, hV2 j hjl (fun h => hn h.2), h2, hl]
      exact ⟨⟨fun _ => rfl, fun _ => ⟨hp, by omega⟩⟩, rfl⟩
end Go.Proofs.YthhepebkfokddaaGreatDoor
/- What is the same of any program: rows of one's own, from a base on; nothing appended. -/
namespace Go.Kt
open Go Go.RowKit

theorem own_from_base {B : Nat} {e : TypeId} {size n : Nat} {v : Value} {xs : List Value} {W : World} (h : W.ownsRow B e size v n xs) : OwnS (fun b => B ≤ b) e size v n xs W := by
  refine ⟨⟨h.1, ?_⟩, fun g hg => ?_⟩
  · rcases h.2 with h1 | ⟨g, cap, cur, rfl, _, rest⟩
    · exact .inl h1
    · exact .inr ⟨g, cap, cur, rfl, Nat.zero_le _, rest⟩
  · rcases h.2 with ⟨rfl, _⟩ | ⟨g', cap, cur, rfl, hb, _⟩
    · cases hg
    · cases hg; exact hb
theorem own_to_base {Y : Nat → Prop} {e : TypeId} {size n base : Nat} {v : Value} {xs : List Value} {W : World} (h : OwnS Y e size v n xs W) (hY : ∀ b, Y b → base ≤ b) : W.ownsRow base e size v n xs := by
  obtain ⟨⟨hl, h2⟩, hY'⟩ := h
  refine ⟨hl, ?_⟩
  rcases h2 with h2 | ⟨g, cap, cur, rfl, hb, hg, rest⟩
  · exact .inl h2
  · exact .inr ⟨g, cap, cur, rfl, hY g (hY' g rfl), hg, rest⟩
theorem append_no_more {w : World} {base : Nat} {P : Program} (t ty e : TypeId) (i : TypeInfo) (size : Nat) (ht : P.underlying t = some (.slice e)) (hi : P.info? e = some i)
    (v : Value) (n : Nat) (xs : List Value) (hown : w.ownsRow base e size v n xs) (c : Nat) :
    (Builtin.append_ #[t, t] ty #[v, .slice none 0 c]).run P w = .ok v w := by
  rcases hown.2 with ⟨rfl, rfl⟩ | ⟨g, cap, cur, rfl, _, _, hnc, _⟩
  · simp [Builtin.append_, run_underlying ht, sizeOf, typeInfo, hi, Builtin.lenOf, Builtin.firstCells]
  · simp [Builtin.append_, run_underlying ht, sizeOf, typeInfo, hi, Builtin.lenOf, Builtin.firstCells, hnc, storeCells]
theorem OwnS.atN {Y : Nat → Prop} {e : TypeId} {size n g cap : Nat} {xs : List Value} {W : World} (h : OwnS Y e size (.slice (some ⟨g, 0, none⟩) n cap) n xs W) {i : Nat} {u : Value} (hi : xs[i]? = some u) : W.cell? ⟨g, i, none⟩ = some u := by
  have := h.1.cells (g := g) rfl i u hi
  rwa [Addr.add_lit, Nat.zero_add] at this
end Go.Kt
/- props: runs of values: what the runs of edges say of each number. -/
namespace Go.Proofs.YthhepebkfokddaaGreatDoor
open Go Go.RowKit Go.Kt Go.Kt.Rg Go.Maps Go.Kt.Os Go.Sort

/-- What runs say of a number: the value of the last one that begins at or below it. -/
def runVal (L : List (Nat × Int)) (r : Int) : Int := L.foldl (fun a x => if (x.1 : Int) ≤ r then x.2 else a) 0
theorem runVal_nil (r : Int) : runVal [] r = 0 := rfl
theorem runVal_snoc (L : List (Nat × Int)) (x : Nat × Int) (r : Int) : runVal (L ++ [x]) r = if (x.1 : Int) ≤ r then x.2 else runVal L r := by
  unfold runVal
  rw [List.foldl_append]
  rfl
theorem runVal_neg (L : List (Nat × Int)) (r : Int) (h : r < 0) : runVal L r = 0 := by
  unfold runVal
  have : ∀ (L : List (Nat × Int)) (a : Int), L.foldl (fun a x => if (x.1 : Int) ≤ r then x.2 else a) a = a := by
    intro L
    induction L with
    | nil => intro a; rfl
    | cons x t ih => intro a; rw [List.foldl_cons, if_neg (by omega)]; exact ih a
  exact this L 0
/-- Where the first k runs begin at or below a number and the others above it, the value is the last of these. -/
theorem runVal_at (L : List (Nat × Int)) (k : Nat) (r : Int) (hk : k ≤ L.length) (h1 : ∀ i x, L[i]? = some x → i < k → (x.1 : Int) ≤ r) (h2 : ∀ i x, L[i]? = some x → k ≤ i → r < (x.1 : Int)) :
    (k = 0 → runVal L r = 0) ∧ (∀ j x, k = j + 1 → L[j]? = some x → runVal L r = x.2) := by
  have key : ∀ (M : List (Nat × Int)) (a : Int), (∀ x ∈ M, r < (x.1 : Int)) → M.foldl (fun a x => if (x.1 : Int) ≤ r then x.2 else a) a = a := by
    intro M
    induction M with
    | nil => intro a _; rfl
    | cons x t ih =>
      intro a hM
      have h9 := hM x List.mem_cons_self
      rw [List.foldl_cons, if_neg (by omega)]
      exact ih a (fun y hy => hM y (List.mem_cons_of_mem _ hy))
  have hd : ∀ x ∈ L.drop k, r < (x.1 : Int) := fun x hx => by
    obtain ⟨i, hi⟩ := List.getElem?_of_mem hx
    rw [List.getElem?_drop] at hi
    exact h2 _ _ hi (by omega)
  have hs : runVal L r = runVal (L.take k) r := by
    conv => lhs; rw [← List.take_append_drop k L]
    unfold runVal
    rw [List.foldl_append]
    exact key _ _ hd
  refine ⟨fun e => ?_, fun j x e hj => ?_⟩
  · subst e
    rw [hs]; rfl
  · subst e
    have ht : L.take (j + 1) = L.take j ++ [x] := by rw [List.take_add_one, hj]; rfl
    rw [hs, ht, runVal_snoc, if_pos (h1 j x hj (by omega))]

/-- What the first k edges say of a number. -/
def evV (E : List Nat) (V : Nat → Int) : Nat → Nat → Int
  | 0, _ => 0
  | k + 1, r => if E.getD k 0 ≤ r then V k else evV E V k r
theorem evV_spec (E : List Nat) (V : Nat → Int) (r : Nat) : ∀ k, ((∀ j, j < k → r < E.getD j 0) ∧ evV E V k r = 0) ∨ ∃ j, j < k ∧ E.getD j 0 ≤ r ∧ (∀ i, j < i → i < k → r < E.getD i 0) ∧ evV E V k r = V j
  | 0 => .inl ⟨fun j h => absurd h (by omega), rfl⟩
  | k + 1 => by
    unfold evV
    by_cases h : E.getD k 0 ≤ r
    · rw [if_pos h]
      exact .inr ⟨k, by omega, h, fun i h1 h2 => by omega, rfl⟩
    · rw [if_neg h]
      rcases evV_spec E V r k with ⟨h1, h2⟩ | ⟨j, h1, h2, h3, h4⟩
      · refine .inl ⟨fun j hj => ?_, h2⟩
        by_cases e : j = k
        · subst e; omega
        · exact h1 j (by omega)
      · refine .inr ⟨j, by omega, h2, fun i h5 h6 => ?_, h4⟩
        by_cases e : i = k
        · subst e; omega
        · exact h3 i h5 (by omega)
theorem lastV_congr {l : List Rw3} {a b : Nat} (h : ∀ x ∈ l, holdsR x a ↔ holdsR x b) : lastV l a = lastV l b := by
  induction l with
  | nil => rfl
  | cons x t ih =>
    unfold lastV
    rw [ih (fun y hy => h y (List.mem_cons_of_mem _ hy))]
    have h1 := h x List.mem_cons_self
    by_cases h2 : holdsR x a
    · rw [if_pos h2, if_pos (h1.1 h2)]
    · rw [if_neg h2, if_neg (fun h3 => h2 (h1.2 h3))]
/-- All edges at hand say of each number what the last row that holds it says. -/
theorem evV_all {E : List Nat} {rows : List Rw3} {P : Nat → Prop} {V : Nat → Int} (hT : ToldW E rows P V) (hE : E.Pairwise (· < ·)) (hm : ∀ x ∈ rows, x.1 ∈ E ∧ x.2.1 + 1 ∈ E) (r : Nat) : evV E V E.length r = (lastV rows r).getD 0 := by
  have hget : ∀ j, j < E.length → E[j]? = some (E.getD j 0) := fun j hj => by
    rw [List.getD_eq_getElem?_getD, List.getElem?_eq_getElem hj]; rfl
  rcases evV_spec E V r E.length with ⟨h1, h2⟩ | ⟨j, h1, h2, h3, h4⟩
  · rw [h2]
    have : lastV rows r = none := lastV_none.2 fun x hx hh => by
      obtain ⟨i, hi⟩ := List.getElem?_of_mem (hm x hx).1
      have hil := (List.getElem?_eq_some_iff.1 hi).1
      have h9 := h1 i hil
      have h8 := hget i hil
      rw [hi] at h8
      injection h8 with h8
      have := hh.1
      omega
    rw [this]; rfl
  · rw [h4, (hT j _ (hget j h1)).2]
    have hle : ∀ y ∈ E, (y ≤ r ↔ y ≤ E.getD j 0) := fun y hy => by
      obtain ⟨i, hi⟩ := List.getElem?_of_mem hy
      have hil := (List.getElem?_eq_some_iff.1 hi).1
      have h8 := hget i hil
      rw [hi] at h8
      injection h8 with h8
      have h5 := List.pairwise_iff_getElem.1 hE
      rcases Nat.lt_trichotomy i j with h6 | h6 | h6
      · have h7 := h5 i j hil h1 h6
        have e1 : E[i] = E.getD i 0 := by rw [List.getD_eq_getElem?_getD, List.getElem?_eq_getElem hil]; rfl
        have e2 : E[j] = E.getD j 0 := by rw [List.getD_eq_getElem?_getD, List.getElem?_eq_getElem h1]; rfl
        rw [e1, e2] at h7
        omega
      · subst h6; omega
      · have h7 := h3 i h6 hil
        have h9 := h5 j i h1 hil h6
        have e1 : E[i] = E.getD i 0 := by rw [List.getD_eq_getElem?_getD, List.getElem?_eq_getElem hil]; rfl
        have e2 : E[j] = E.getD j 0 := by rw [List.getD_eq_getElem?_getD, List.getElem?_eq_getElem h1]; rfl
        rw [e1, e2] at h9
        omega
    congr 1
    refine lastV_congr fun x hx => ?_
    obtain ⟨m1, m2⟩ := hm x hx
    have a1 := hle _ m1
    have a2 := hle _ m2
    unfold holdsR
    omega
/-- What the runs so far are, at the edge k, with the value at hand. -/
def RunsAt (E : List Nat) (V : Nat → Int) (k : Nat) (c : Int) (L : List (Nat × Int)) : Prop :=
  L.length ≤ k ∧ c = (if k = 0 then 0 else V (k - 1)) ∧ L.Pairwise (fun a b => a.1 < b.1) ∧ (∀ x ∈ L, ∃ j, j < k ∧ E[j]? = some x.1) ∧ ∀ r : Nat, runVal L r = evV E V k r
theorem RunsAt.zero (E : List Nat) (V : Nat → Int) : RunsAt E V 0 0 [] := ⟨Nat.le_refl _, rfl, .nil, fun _ h => (by cases h), fun _ => rfl⟩
theorem RunsAt.same {E : List Nat} {V : Nat → Int} {k : Nat} {c : Int} {L : List (Nat × Int)} (h : RunsAt E V k c L) (hE : E.Pairwise (· < ·)) (hk : k < E.length) (hc : V k = c) : RunsAt E V (k + 1) c L := by
  obtain ⟨h1, h2, h3, h4, h5⟩ := h
  refine ⟨by omega, by rw [if_neg (by omega)]; exact hc.symm, h3, fun x hx => ?_, fun r => ?_⟩
  · obtain ⟨j, hj, he⟩ := h4 x hx
    exact ⟨j, by omega, he⟩
  · rw [h5 r]
    show _ = (if E.getD k 0 ≤ r then V k else evV E V k r)
    by_cases hr : E.getD k 0 ≤ r
    · rw [if_pos hr, hc, h2]
      cases k with
      | zero => rfl
      | succ k =>
        rw [if_neg (by omega)]
        show (if E.getD k 0 ≤ r then V k else evV E V k r) = _
        have h7 := (List.pairwise_iff_getElem.1 hE) k (k + 1) (by omega) hk (by omega)
        rw [List.getD_eq_getElem?_getD, List.getElem?_eq_getElem hk] at hr
        rw [List.getD_eq_getElem?_getD, List.getElem?_eq_getElem (show k < E.length by omega)]
        simp only [Option.getD_some] at hr ⊢
        rw [if_pos (by omega)]
        rfl
    · rw [if_neg hr]
theorem RunsAt.more {E : List Nat} {V : Nat → Int} {k : Nat} {c : Int} {L : List (Nat × Int)} (h : RunsAt E V k c L) (hE : E.Pairwise (· < ·)) {e : Nat} (he : E[k]? = some e) : RunsAt E V (k + 1) (V k) (L ++ [(e, V k)]) := by
  obtain ⟨h1, h2, h3, h4, h5⟩ := h
  refine ⟨by rw [List.length_append]; simp; omega, by rw [if_neg (by omega)]; rfl, ?_, fun x hx => ?_, fun r => ?_⟩
  · rw [List.pairwise_append]
    refine ⟨h3, List.pairwise_singleton _ _, fun a ha b hb => ?_⟩
    obtain ⟨j, hj, hje⟩ := h4 a ha
    simp at hb
    subst hb
    have q1 := List.getElem?_eq_some_iff.1 hje
    have q2 := List.getElem?_eq_some_iff.1 he
    have h7 := (List.pairwise_iff_getElem.1 hE) j k q1.1 q2.1 hj
    rw [q1.2, q2.2] at h7
    exact h7
  · rcases List.mem_append.1 hx with hx | hx
    · obtain ⟨j, hj, hje⟩ := h4 x hx
      exact ⟨j, by omega, hje⟩
    · simp at hx
      subst hx
      exact ⟨k, by omega, he⟩
  · rw [runVal_snoc]
    show _ = (if E.getD k 0 ≤ r then V k else evV E V k r)
    have hg : E.getD k 0 = e := by rw [List.getD_eq_getElem?_getD, he]; rfl
    rw [hg, ← h5 r]
    by_cases hr : e ≤ r
    · rw [if_pos hr, if_pos (by simp only; omega)]
    · rw [if_neg hr, if_neg (by simp only; omega)]
/-- Runs that are read: pairs of where they begin and a value. -/
def encR2 (L : List (Nat × Int)) : List Value := L.flatMap fun x => [.int .i32 (x.1 : Nat), .int .i64 x.2]
theorem encR2_snoc (L : List (Nat × Int)) (x : Nat × Int) : encR2 (L ++ [x]) = encR2 L ++ [.int .i32 (x.1 : Nat), .int .i64 x.2] := by simp [encR2]
theorem encR2_len (L : List (Nat × Int)) : (encR2 L).length = 2 * L.length := by
  induction L with
  | nil => rfl
  | cons x t ih => simp [encR2] at ih ⊢; omega
theorem encR2_get (L : List (Nat × Int)) (i : Nat) (x : Nat × Int) (h : L[i]? = some x) : (encR2 L)[i * 2]? = some (.int .i32 (x.1 : Nat)) ∧ (encR2 L)[i * 2 + 1]? = some (.int .i64 x.2) := by
  induction L generalizing i with
  | nil => cases h
  | cons y t ih =>
    cases i with
    | zero =>
      simp at h
      subst h
      simp [encR2]
    | succ i =>
      simp at h
      have := ih i h
      have e : encR2 (y :: t) = [.int .i32 (y.1 : Nat), .int .i64 y.2] ++ encR2 t := by simp [encR2]
      rw [e, show (i + 1) * 2 = i * 2 + 2 by omega]
      refine ⟨?_, ?_⟩
      · rw [List.getElem?_append_right (by simp)]
        simpa using this.1
      · rw [List.getElem?_append_right (by simp)]
        have h9 := this.2
        simpa [show i * 2 + 2 + 1 - 2 = i * 2 + 1 by omega] using h9
/-- Runs of values that are read; none may lie nowhere. -/
def RunV (w : World) (v : Value) (l : List (Nat × Int)) : Prop :=
  ∃ ao cp, v = .slice ao l.length cp ∧ (l = [] ∨ ∃ g, ao = some ⟨g, 0, none⟩ ∧ ∀ (i : Nat) (x : Nat × Int), l[i]? = some x → w.cell? ⟨g, i * 2, none⟩ = some (.int .i32 (x.1 : Nat)) ∧ w.cell? ⟨g, i * 2 + 1, none⟩ = some (.int .i64 x.2))
theorem RunV.below {v : Value} {l : List (Nat × Int)} {A B : World} (h : RunV A v l) (hb : Below A.heap.size A B) : RunV B v l := by
  obtain ⟨ao, cp, rfl, h⟩ := h
  refine ⟨ao, cp, rfl, ?_⟩
  rcases h with h | ⟨g, e, h⟩
  · exact .inl h
  · exact .inr ⟨g, e, fun i r hr => ⟨(hb.cell (lt_of_cell (h i r hr).1)).trans (h i r hr).1, (hb.cell (lt_of_cell (h i r hr).2)).trans (h i r hr).2⟩⟩
/-- One's own runs are runs that are read. -/
theorem own_runv {Y : Nat → Prop} {v : Value} {l : List (Nat × Int)} {w : World} (h : OwnS Y 146 2 v l.length (encR2 l) w) : RunV w v l := by
  rcases h.shape with ⟨hv, h0⟩ | ⟨gb, cap, hv, hg, hgl⟩
  · exact ⟨none, 0, by rw [hv, h0], .inl (List.length_eq_zero_iff.1 h0)⟩
  · refine ⟨_, cap, hv, .inr ⟨gb, rfl, fun i r hr => ?_⟩⟩
    subst hv
    obtain ⟨e1, e2⟩ := encR2_get l i r hr
    exact ⟨h.atN e1, h.atN e2⟩
end Go.Proofs.YthhepebkfokddaaGreatDoor
/- What is the same of any program: a drawn region without calls inside a fence, in a round too, operation by operation: K12 so. -/
namespace Go.Kt
open Go

section
variable {F : Fence} {n : Nat} {P : Program} {ops : Array Oper} {Q : Exit → Act → World → Prop} {md : Region.Mode}
theorem wpIn_value {o : Oper} {a : Act} {w w' : World} {v : Value} {K : Act → World → Prop} (hc : ∀ c, o.op ≠ .call c ∧ o.op ≠ .defer c) (h : (execOp a.eval o).run P w = .ok (.value v) w') (hK : K (a.put o.dst v) w') : o.wpIn F n P a w K Q := by
  unfold Oper.wpIn
  refine ⟨fun f hf => ?_, ?_⟩
  · unfold Oper.about at hf
    split at hf
    · rename_i c e; exact absurd e (hc c).1
    · cases hf
  · rw [Oper.semAt_plain F _ _ (fun c => (hc c).2), h]
    exact hK
theorem wpAnyIn_inv (I : Array Bool → Act → World → Prop)
    (step : ∀ listed a w i, I listed a w → i ∈ Region.ready md ops listed → wpOpIn F n P ops Q i (I (listed.setIfInBounds i true)) a w)
    (done : ∀ listed a w, I listed a w → Region.ready md ops listed = [] → Q .normal a w) :
    ∀ fuel listed a w, unlisted listed ops.size ≤ fuel → I listed a w → wpAnyIn F n P md ops Q fuel listed a w := by
  intro fuel
  induction fuel with
  | zero =>
    intro listed a w hf hI
    have hr : Region.ready md ops listed = [] := by
      rcases List.eq_nil_or_concat (Region.ready md ops listed) with h | ⟨l, i, h⟩
      · exact h
      · have hi : i ∈ Region.ready md ops listed := by rw [h]; simp
        obtain ⟨h1, o, ho, _⟩ := mem_ready.1 hi
        have hm : i ∈ (List.range ops.size).filter fun i => !listed.getD i true := by
          rw [List.mem_filter]
          exact ⟨List.mem_range.2 (Array.getElem?_eq_some_iff.1 ho).1, by rw [h1]; rfl⟩
        have := List.length_pos_of_mem hm
        unfold unlisted at hf
        omega
    exact ⟨hr, done _ _ _ hI hr⟩
  | succ fuel ih =>
    intro listed a w hf hI
    refine ⟨done _ _ _ hI, fun i hi => ?_⟩
    obtain ⟨h1, o, ho, _⟩ := mem_ready.1 hi
    have hlt := filter_set_lt listed i h1 (List.range ops.size) (List.mem_range.2 (Array.getElem?_eq_some_iff.1 ho).1)
    refine wpOpIn_mono (fun a' w' h' => ih _ a' w' ?_ h') (step listed a w i hI hi)
    unfold unlisted at hf ⊢
    omega

/-- One operation: D tells what is done. -/
def DInStep (F : Fence) (n : Nat) (P : Program) (md : Region.Mode) (ops : Array Oper) (Q : Exit → Act → World → Prop) (S : (Nat → Bool) → World → Prop) (p : Nat → Value → World → Prop) (a0 : Act) (i : Nat) (o : Oper) : Prop :=
  ∀ (D : Nat → Bool) a w, D i = false → (∀ j, awaits md ops j i = true → D j = false) → (∀ j, waitsB md o j = true → D j = true) → S D w → Like ops a0 a → (∀ j k, waitsB md o j = true → slotB ops j k = true → p j (a.tmps.getD k undef) w) →
    Region.wanted o (yielded ops a.tmps) = true ∧ o.wpIn F n P a w (fun a' w' => ∃ v, a' = a.put o.dst v ∧ S (fun j => D j || j == i) w' ∧ (∀ j u, D j = true → p j u w → p j u w') ∧ p i v w') Q
def DInSteps (F : Fence) (n : Nat) (P : Program) (md : Region.Mode) (ops : Array Oper) (Q : Exit → Act → World → Prop) (S : (Nat → Bool) → World → Prop) (p : Nat → Value → World → Prop) (a0 : Act) : Nat → List Oper → Prop
  | _, [] => True
  | i, o :: r => DInStep F n P md ops Q S p a0 i o ∧ DInSteps F n P md ops Q S p a0 (i + 1) r
theorem DInSteps.get {S : (Nat → Bool) → World → Prop} {p : Nat → Value → World → Prop} {a0 : Act} : ∀ (l : List Oper) (i : Nat), DInSteps F n P md ops Q S p a0 i l → ∀ j o, l[j]? = some o → DInStep F n P md ops Q S p a0 (i + j) o
  | [], _, _, j, o, h => by simp at h
  | x :: r, i, hs, 0, o, h => by simp at h; subst h; exact hs.1
  | x :: r, i, hs, j + 1, o, h => by
    have := DInSteps.get r (i + 1) hs.2 j o (by simpa using h)
    rw [show i + (j + 1) = i + 1 + j by omega]; exact this
theorem DInSteps.cons {S : (Nat → Bool) → World → Prop} {p : Nat → Value → World → Prop} {a0 : Act} {i : Nat} {o : Oper} {r : List Oper} (h : DInStep F n P md ops Q S p a0 i o) (hr : DInSteps F n P md ops Q S p a0 (i + 1) r) : DInSteps F n P md ops Q S p a0 i (o :: r) := ⟨h, hr⟩
theorem DInSteps.nil {S : (Nat → Bool) → World → Prop} {p : Nat → Value → World → Prop} {a0 : Act} {i : Nat} : DInSteps F n P md ops Q S p a0 i [] := trivial

/-- A drawn region, operation by operation; S D w: what holds of the world when D is done. -/
theorem wpIn_region_done {id : Nat} {a0 : Act} {w0 : World} (S : (Nat → Bool) → World → Prop) (p : Nat → Value → World → Prop) (hm : P.follows .mixedOrders = true) (hap : apartB ops a0.tmps.size = true) (hfw : forwardB .any ops = true)
    (hS : S (fun _ => false) w0.drew) (hs : DInSteps F n P .any ops Q S p a0 0 ops.toList)
    (hd : ∀ D a w, (∀ j, j < ops.size → D j = true) → S D w → Like ops a0 a → (∀ j k, slotB ops j k = true → p j (a.tmps.getD k undef) w) → (∀ j, j < ops.size → ∃ v, p j v w) → Q .normal a w) : (Code.region id ops true).wpIn F n P Q a0 w0 := by
  have hdst : ∀ (i : Nat) (o : Oper) (k : Nat), ops[i]? = some o → o.dst = some k → k < a0.tmps.size ∧ ∀ (j : Nat) (oj : Oper), ops[j]? = some oj → oj.dst = some k → i = j := by
    intro i o k ho hk
    have hi := (Array.getElem?_eq_some_iff.1 ho).1
    have h1 := List.all_eq_true.1 hap i (List.mem_range.2 hi)
    have h2 : ops.getD i default = o := by simp [Array.getD_eq_getD_getElem?, ho]
    rw [h2, hk] at h1
    simp only [Bool.and_eq_true, decide_eq_true_eq] at h1
    refine ⟨h1.1, fun j oj hj hjk => ?_⟩
    have hj' := (Array.getElem?_eq_some_iff.1 hj).1
    have h3 := List.all_eq_true.1 h1.2 j (List.mem_range.2 hj')
    have h4 : ops.getD j default = oj := by simp [Array.getD_eq_getD_getElem?, hj]
    rw [h4, hjk] at h3
    simpa using h3
  refine wpIn_region_any hm ?_
  refine wpAnyIn_inv (fun listed a w => listed.size = ops.size ∧ S (fun j => listed.getD j false) w ∧ (∀ j k, listed.getD j false = true → awaits .any ops j k = true → listed.getD k false = true) ∧ Like ops a0 a ∧ (∀ j, listed.getD j false = true → ∃ v, p j v w) ∧ ∀ j k, listed.getD j false = true → slotB ops j k = true → p j (a.tmps.getD k undef) w) ?_ ?_ _ _ _ _ ?_ ⟨by simp, by rw [show (fun j => (Array.replicate ops.size false).getD j false) = fun _ => false from funext fun j => by simp only [Array.getD_eq_getD_getElem?, Array.getElem?_replicate]; split <;> rfl]; exact hS, ?_, ⟨rfl, rfl, fun _ _ => rfl⟩, ?_, ?_⟩
  · rintro listed a w i ⟨hz, hSw, hC, hL, hE, hP⟩ hi
    obtain ⟨hjun, o, ho, hall⟩ := mem_ready.1 hi
    have hilt := (Array.getElem?_eq_some_iff.1 ho).1
    have hin : listed.getD i false = false := by
      have hi2 : i < listed.size := by omega
      simpa [Array.getD_eq_getD_getElem?, hi2] using hjun
    have hw8 : ∀ j, waitsB .any o j = true → listed.getD j false = true := fun j hj => by
      unfold waitsB at hj
      obtain ⟨e, he, h2⟩ := Array.any_eq_true'.1 hj
      simp only [Bool.and_eq_true, beq_iff_eq] at h2
      have := hall e he h2.2
      rw [h2.1] at this
      exact this
    have hst := DInSteps.get ops.toList 0 hs i o (by simpa using ho)
    rw [Nat.zero_add] at hst
    obtain ⟨hw, hx⟩ := hst (fun j => listed.getD j false) a w hin (fun j hj => by
      cases hl : listed.getD j false with
      | false => rfl
      | true => have := hC j i hl hj; rw [hin] at this; cases this) hw8 hSw hL (fun j k hj hk => hP j k (hw8 j hj) hk)
    unfold wpOpIn
    simp only [ho, hw, if_true]
    refine Oper.wpIn_mono ?_ hx
    rintro a' w' ⟨v, rfl, hS', hR', hpv⟩
    refine ⟨by simpa using hz, by rw [set_done listed i (by omega)]; exact hS', ?_, ⟨?_, ?_, fun k hk => ?_⟩, fun j hj => ?_, fun j k hj hk => ?_⟩
    · intro j k hj hk
      have hd1 := congrFun (set_done listed i (by omega))
      rw [hd1] at hj ⊢
      rw [Bool.or_eq_true] at hj ⊢
      left
      rcases hj with hj | hj
      · exact hC j k hj hk
      · have : j = i := by simpa using hj
        subst this
        unfold awaits at hk
        rw [ho] at hk
        exact hw8 k hk
    · cases h : o.dst <;> exact hL.defers
    · cases h : o.dst
      · exact hL.size
      · simp only [Act.put, Array.size_setIfInBounds]; exact hL.size
    · cases h : o.dst with
      | none => exact hL.far k hk
      | some d =>
        have hne : d ≠ k := fun e => by
          subst e
          unfold outside at hk
          have := Array.all_eq_true.1 hk i hilt
          rw [(Array.getElem?_eq_some_iff.1 ho).2, h] at this
          simp at this
        simp only [Act.put, Array.getD_eq_getD_getElem?, Array.getElem?_setIfInBounds, if_neg hne]
        have := hL.far k hk
        simpa only [Array.getD_eq_getD_getElem?] using this
    · by_cases hji : j = i
      · subst hji; exact ⟨v, hpv⟩
      · have hjl : listed.getD j false = true := by
          simp only [Array.getD_eq_getD_getElem?, Array.getElem?_setIfInBounds, if_neg (Ne.symm hji)] at hj ⊢
          exact hj
        obtain ⟨u, hu⟩ := hE j hjl
        exact ⟨u, hR' j _ hjl hu⟩
    · obtain ⟨oj, hoj, hjk⟩ : ∃ oj, ops[j]? = some oj ∧ oj.dst = some k := by
        unfold slotB at hk
        cases h : ops[j]? with
        | none => rw [h] at hk; cases hk
        | some oj => rw [h] at hk; exact ⟨oj, rfl, by simpa using hk⟩
      by_cases hji : j = i
      · subst hji
        rw [hoj] at ho
        cases ho
        have hkz := (hdst j _ k hoj hjk).1
        rw [hjk]
        have : (a.put (some k) v).tmps.getD k undef = v := by
          have : k < a.tmps.size := by rw [hL.size]; exact hkz
          simp [Act.put, Array.getD_eq_getD_getElem?, this]
        rw [this]
        exact hpv
      · have hjl : listed.getD j false = true := by
          simp only [Array.getD_eq_getD_getElem?, Array.getElem?_setIfInBounds, if_neg (Ne.symm hji)] at hj ⊢
          exact hj
        have h1 := hR' j _ hjl (hP j k hjl hk)
        cases h : o.dst with
        | none => exact h1
        | some d =>
          have hne : d ≠ k := fun e => by
            subst e
            exact hji ((hdst i o d ho h).2 j oj hoj hjk).symm
          simp only [Act.put, Array.getD_eq_getD_getElem?, Array.getElem?_setIfInBounds, if_neg hne] at h1 ⊢
          exact h1
  · rintro listed a w ⟨hz, hSw, hC, hL, hE, hP⟩ hr
    have hall : ∀ n j, j < n → j < ops.size → listed.getD j false = true := by
      intro n
      induction n with
      | zero => intro j h; omega
      | succ n ih =>
        intro j hjn hj
        cases hl : listed.getD j true with
        | true =>
          have : j < listed.size := by omega
          simpa [Array.getD_eq_getD_getElem?, this] using hl
        | false =>
          exfalso
          have hmem : j ∈ Region.ready .any ops listed := mem_ready.2 ⟨hl, ops[j], by simp [hj], fun e he hb => by
            have h1 := List.all_eq_true.1 hfw j (List.mem_range.2 hj)
            have h2 : ops.getD j default = ops[j] := by simp [Array.getD_eq_getD_getElem?, hj]
            rw [h2] at h1
            have h3 := Array.all_eq_true_iff_forall_mem.1 h1 e he
            rw [hb] at h3
            simp at h3
            exact ih e.on (by omega) (by omega)⟩
          rw [hr] at hmem
          cases hmem
    refine hd _ a w (fun j hj => hall (j + 1) j (by omega) hj) hSw hL (fun j k hk => hP j k (hall (j + 1) j (by omega) ?_) hk) (fun j hj => hE j (hall (j + 1) j (by omega) hj))
    unfold slotB at hk
    cases h : ops[j]? with
    | none => rw [h] at hk; cases hk
    | some oj => exact (Array.getElem?_eq_some_iff.1 h).1
  · unfold unlisted
    exact Nat.le_trans (List.length_filter_le _ _) (by simp)
  · intro j k hj
    simp only [Array.getD_eq_getD_getElem?, Array.getElem?_replicate] at hj
    split at hj <;> simp at hj
  · intro j hj
    simp only [Array.getD_eq_getD_getElem?, Array.getElem?_replicate] at hj
    split at hj <;> simp at hj
  · intro j k hj
    simp only [Array.getD_eq_getD_getElem?, Array.getElem?_replicate] at hj
    split at hj <;> simp at hj
end
/-- Of a region that only reads: its world, and its values. -/
def RoS (w : World) (_ : Nat → Bool) (X : World) : Prop := X = w
def RoP (val : Nat → Option Value) (i : Nat) (v : Value) (_ : World) : Prop := ∀ u, val i = some u → v = u
theorem RoP.mk {val : Nat → Option Value} {i : Nat} {v : Value} {X : World} (e : val i = some v) : RoP val i v X := fun u h => by rw [e] at h; exact Option.some.inj h
end Go.Kt
