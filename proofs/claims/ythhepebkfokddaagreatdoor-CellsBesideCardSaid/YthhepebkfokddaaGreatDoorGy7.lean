/- Parts of the proof of what the last text says. -/
import Derived.Test.YthhepebkfokddaaGreatDoorGy6
import Derived.Test.YthhepebkfokddaaGreatDoorGy5
import Derived.BigRegionIn
import Derived.LoopIn
import Derived.BigFrameIn
import Derived.Sort.MapsRangeIn
import Derived.Test.YthhepebkfokddaaGreatDoorGy2
import Derived.Sort.LotA
import Derived.Sort.LotB
import Derived.Sort.LotC
import Derived.Sort.Row
import Derived.Deep.Draws
import Derived.Test.YthhepebkfokddaaGreatDoorProg
import Derived.WalkLawsBesides
import Derived.WalkSpells
import Derived.Lib.Hide
import Derived.RegionTactic
import Derived.BigRegion
import Derived.WalkKit
import Derived.BigGuard
import Derived.BigCall
import Derived.CellFam
import Derived.Deep.QuietTactic
import Derived.BigQuiet
/- props: the iterator of a map's keys. -/
namespace Go.Proofs.YthhepebkfokddaaGreatDoor
open Go Go.RowKit Go.Kt Go.Kt.Rg Go.Maps
attribute [local go_sem] Oper.semAt_some

theorem ranges_heap {H : Type} {P : Program} {k : TypeId} {R : Value → Option (DataW H × List MemPlace)} {b r n : Nat} {D : DataW H} {left : Lit → Bool} {cnt : Nat} {w w' : World}
    (h : w.ranges P k R b r n D left cnt) (hb : w'.heap[b]? = w.heap[b]?) (hr : w'.heap[r]? = w.heap[r]?) : w'.ranges P k R b r n D left cnt := by
  unfold World.ranges at h ⊢
  rw [hb, hr]
  exact h
def encK (x : Nat) : Array Value := #[.int .i32 (x : Nat)]
def OkK (vs : Nat → Option Value) (pre : List Nat) : Prop := pre.Nodup ∧ ∀ x ∈ pre, (vs x).isSome = true
def FinK (vs : Nat → Option Value) (L : List Nat) : Prop := L.Nodup ∧ ∀ x, x ∈ L ↔ (vs x).isSome = true

theorem pkeys_call (b : Nat) (w : World) :
    Calls Tryz.prog 47 #[.map (some b)] w fun e w' => e = .returned (.func (.func 83) #[] #[.pointer (some ⟨w.heap.size, 0, none⟩)]) ∧ w.alloc (.cells #[.map (some b)] 54) = w' := by
  go_enter Tryz.func47, Tryz.ntmps47
  go_wp2
  go_ret
  exact ⟨rfl, rfl⟩
theorem enters_keys : ∀ args w, (callFunc 83 args).run Tryz.prog w = .ok (.enter 83 args) w := enters_of Tryz.func83 (by kernel_rfl) rfl

set_option maxRecDepth 100000 in
set_option maxHeartbeats 4000000 in
theorem pkeys_iter (b n : Nat) (vs : Nat → Option Value) (bs : Nat) (w0 : World) (hbs : w0.cell? ⟨bs, 0, none⟩ = some (.map (some b))) (hM : MapG Tryz.prog 21 b n (ptF vs) w0) :
    Iter5 Tryz.prog 83 #[.pointer (some ⟨bs, 0, none⟩)] encK (OkK vs) (FinK vs) (fun _ => False) (fun x => x = bs ∨ x = b) w0 := by
  intro m X J Jx W hNd hX hsame hsz hJ hJx hSl hY h0
  have q1 : W.cell? ⟨bs, 0, none⟩ = some (.map (some b)) := (World.cell?_of_block (a := ⟨bs, 0, none⟩) (hsame bs (.inr (.inl rfl)))).trans hbs
  have hMW : MapG Tryz.prog 21 b n (ptF vs) W := hM.of_heap (hsame b (.inr (.inr rfl)))
  have hbW := hMW.lt
  obtain ⟨D, hown, hhas, hat⟩ := hMW
  have hXb : Hid (¬ X bs ∧ ¬ X b ∧ b < W.heap.size ∧ bs < W.heap.size) := Lib.hid ⟨hNd bs (.inr (.inl rfl)), hNd b (.inr (.inr rfl)), hbW, lt_of_cell q1⟩
  have HK := Lib.hid (And.intro hX (And.intro hJ (And.intro hJx (And.intro hSl hY))))
  have HH : Hid (∀ kl, WideAt.IsKeyLit kl → Maps.has D kl = (ptF vs kl).isSome) := Lib.hid hhas
  have hfn : ∀ k, Fence.wide.fn k := fun _ => trivial
  have hdep : Fence.wide.depth = none := rfl
  clear hNd hsame hsz hX hJ hJx hSl hY hhas hat hM hbs hbW
  refine (callsIn_wide (n := 0)).1 ?_
  refine callsIn_of_wp Tryz.func83 rfl trivial ?_ rfl
  simp only [Tryz.ntmps83, List.size_toArray, List.length_cons, List.length_nil, Nat.reduceAdd, Nat.reduceSub, Array.replicate_succ, Array.replicate_zero, List.push_toArray, List.append_toArray, List.nil_append, List.cons_append]
  gi_wp2_with (first | (gi_at_range; refine wpListIn_range_own _ rfl _ 54 rfl 21 _ (int_keyed Tryz.underlying21) Tryz.underlying54 _ b n D rfl hown ?_; intro w1 hrg0 hg0 hs0) | fail)
  have hJ1 : J [] (fun _ => False) w1 := HK.out.2.1 _ _ _ _ ((keep_grown hg0).weaken (fun _ _ h => by cases h)) h0
  have hk1 : Keep (fun b => X b ∨ False) W w1 := (keep_grown hg0).weaken (fun _ _ h => by cases h)
  have hat0 : ∀ x : Nat, Maps.has D (.int .i32 (x : Nat)) = (vs x).isSome := fun x => by
    have h := HH.out (.int .i32 (x : Nat)) trivial
    rw [ptF_at] at h
    exact h
  have H1 := Lib.hid (And.intro hJ1 (And.intro hk1 (And.intro hrg0 hat0)))
  have hs1 : Hid (w1.heap.size = W.heap.size + 1) := Lib.hid hs0
  clear hJ1 hk1 hrg0 hat0 hg0 hs0 h0 hown q1
  gi_wp2_with fail
  go_frame
  gi_loopw [3] (fun _ wr => ∃ (left : Lit → Bool) (cnt : Nat) (pre : List Nat) (Y : Nat → Prop), wr.ranges Tryz.prog 21 rawR b W.heap.size n D left cnt ∧ OkK vs pre ∧ (∀ kl, left kl = true → Maps.has D kl = true) ∧ (∀ x : Nat, left (.int .i32 (x : Nat)) = true ↔ (vs x).isSome = true ∧ x ∉ pre) ∧ (∀ y, Y y → W.heap.size < y) ∧ J pre Y wr ∧ Keep (fun b => X b ∨ False) W wr)
    (fun _ wr => wr.rangeLeft b W.heap.size)
  case atStart => exact ⟨Maps.has D, _, [], _, H1.out.2.2.1, ⟨List.nodup_nil, fun _ h => by cases h⟩, fun _ h => h, fun x => by rw [H1.out.2.2.2]; simp, fun _ h => h.elim, H1.out.1, H1.out.2.1⟩
  case round =>
    obtain ⟨left, cnt, pre, Y, hrg, hok, hlh, hlp, hYl, hJs, hkp⟩ := hrel
    have HI := Lib.hid (And.intro hok (And.intro hlh (And.intro hlp (And.intro hYl (And.intro hJs hkp)))))
    have HRG := Lib.hid hrg
    clear hok hlh hlp hYl hJs hkp
    gi_wp2_with (first | (gi_at_next; refine wpListIn_next_ranges _ rfl _ rfl 21 (int_keyed Tryz.underlying21) rawR (Value.int .i32) (fun v : Value => v) (fun key kl hkey => by obtain ⟨x, rfl, _⟩ := Maps.keyOf_int_inv Tryz.underlying21 hkey; exact ⟨x, rfl⟩) (fun v y _ => ⟨v, rfl⟩) b W.heap.size n D left cnt rfl hrg ?_ ?_) | fail)
    · intro hc0 hl0
      have hfin : FinK vs pre := ⟨HI.out.1.1, fun x => ⟨HI.out.1.2 x, fun h => Decidable.byContradiction fun hx => by
        have := (HI.out.2.2.1 x).2 ⟨h, hx⟩
        rw [hl0] at this
        cases this⟩⟩
      have HF := Lib.hid hfin
      clear hfin hl0 hc0 hrg
      gi_wp2_with fail
      go_end0
      exact ⟨⟨_, rfl⟩, HI.out.2.2.2.2.2, .inl ⟨pre, Y, HF.out, fun y hy => by have := HI.out.2.2.2.1 y hy; omega, HI.out.2.2.2.2.1⟩⟩
    · intro z c kl y1 y2 w2 cnt2 hkey hlk hv hat hrg2 hlt hgr hsz2 hen
      obtain ⟨z', ez, rfl, hwf⟩ := Maps.keyOf_int_inv Tryz.underlying21 hkey
      cases ez
      have hz0 : (ptF vs (.int .i32 z)).isSome = true := by rw [← HH.out (.int .i32 z) trivial]; exact HI.out.2.1 _ hlk
      have hzp : 0 ≤ z := by
        refine Decidable.byContradiction fun h => ?_
        unfold ptF at hz0
        simp only [if_neg h] at hz0
        cases hz0
      obtain ⟨x, rfl⟩ := Int.eq_ofNat_of_zero_le hzp
      have hx := (HI.out.2.2.1 x).1 hlk
      have hk2 : Keep (fun b => b = W.heap.size) wr w2 := (keep_grown hgr).weaken (fun y _ h => by cases h; rfl)
      have hYr : ¬ Y W.heap.size := fun h => by have := HI.out.2.2.2.1 _ h; omega
      have hJ2 : J pre Y w2 := HK.out.2.1 _ _ _ _ (hk2.weaken (fun y _ h => ⟨.inr (by omega), by rw [h]; exact hYr⟩)) HI.out.2.2.2.2.1
      have hkW2 : Keep (fun b => X b ∨ False) W w2 := by
        have hk3 := HI.out.2.2.2.2.2
        exact ⟨hk2.os.trans hk3.os, hk2.tape.trans hk3.tape, hk2.output.trans hk3.output, Nat.le_trans hk3.size hk2.size, fun b hb hx => (hk2.same b (Nat.lt_of_lt_of_le hb hk3.size) (fun h => by omega)).trans (hk3.same b hb hx)⟩
      have hnd : (pre ++ [x]).Nodup := by
        rw [List.nodup_append]
        refine ⟨HI.out.1.1, by simp, fun a ha c hc => ?_⟩
        rw [List.mem_singleton.1 hc]
        exact fun e => hx.2 (e ▸ ha)
      have hmm : ∀ y ∈ pre ++ [x], (vs y).isSome = true := fun y hy => by
        rcases List.mem_append.1 hy with hy | hy
        · exact HI.out.1.2 y hy
        · rw [List.mem_singleton.1 hy]; exact hx.1
      have hok2 : OkK vs (pre ++ [x]) := ⟨hnd, hmm⟩
      clear hnd hmm
      have hyy : YieldAt Fence.wide 0 Tryz.prog m #[.int .i32 (x : Nat)] w2 _ := HK.out.2.2.2.2 pre x Y w2 hok2 hJ2 hkW2.size (fun y hy => by have := HI.out.2.2.2.1 y hy; omega)
      obtain ⟨fn, tmps, assign, body, hy, hR⟩ := hyy
      have hlx : ∀ y : Nat, (left (.int .i32 (y : Nat)) && !(Lit.int .i32 (y : Nat)).sameKey (.int .i32 (x : Nat))) = true ↔ (vs y).isSome = true ∧ y ∉ pre ++ [x] := fun y => by
        rw [Bool.and_eq_true, HI.out.2.2.1 y]
        by_cases e : y = x
        · subst e
          rw [WideAt.sameKey_self (a := .int .i32 (y : Nat)) trivial]
          simp
        · rw [sameKey_ne (fun h => by injection h with _ h; exact e (by omega))]
          simp [e]
      have H2 := Lib.hid (And.intro hkW2 (And.intro hrg2 (And.intro hlx (And.intro hok2 (And.intro hlt hYr)))))
      clear hk2 hJ2 hkW2 hok2 hlx hx hz0 hzp hlk hv hat hrg2 hlt hgr hsz2 hwf hkey hrg hYr
      gi_wp2_with fail
      refine hR.mono ?_
      rintro e3 V3 ⟨Y', hk4, hY', (⟨rfl, hJ3⟩ | ⟨rfl, hJx3⟩)⟩
      all_goals have hk3 := H2.out.1
      all_goals have hzk := hk3.size
      all_goals have hkW : Keep (fun b => X b ∨ False) W V3 := ⟨hk4.os.trans hk3.os, hk4.tape.trans hk3.tape, hk4.output.trans hk3.output, Nat.le_trans hk3.size hk4.size, fun b hb hx => (hk4.same b (Nat.lt_of_lt_of_le hb hk3.size) (fun h => by rcases h with h | h; exact hx (.inl h); have := HI.out.2.2.2.1 b h; omega)).trans (hk3.same b hb hx)⟩
      all_goals have hYl2 : ∀ b, Y' b → W.heap.size < b := fun b hb => by rcases hY' b hb with h | h; exact HI.out.2.2.2.1 b h; have := H2.out.2.1.lt; omega
      · have hrg3 := ranges_heap H2.out.2.1 (hk4.same b (by have := hXb.out.2.2.1; omega) (fun h => by
          rcases h with h | h
          · exact hXb.out.2.1 h
          · have := HI.out.2.2.2.1 b h; have := hXb.out.2.2.1; omega)) (hk4.same W.heap.size H2.out.2.1.lt (fun h => by
          rcases h with h | h
          · have := HK.out.1 _ h; omega
          · exact H2.out.2.2.2.2.2 h))
        have HF := Lib.hid (And.intro hYl2 (And.intro hJ3 (And.intro hkW hrg3)))
        clear hk4 hk3 hYl2 hJ3 hkW hrg3 hY'
        gi_wp2_with fail
        go_roundw
        case rel => exact ⟨_, cnt2, pre ++ [x], Y', HF.out.2.2.2, H2.out.2.2.2.1, fun kl h => HI.out.2.1 kl (by rw [Bool.and_eq_true] at h; exact h.1), H2.out.2.2.1, HF.out.1, HF.out.2.1, HF.out.2.2.1⟩
        case measure => rw [HF.out.2.2.2.left_eq, HRG.out.left_eq]; exact H2.out.2.2.2.2.1
      · have HF := Lib.hid (And.intro hYl2 (And.intro hJx3 hkW))
        clear hk4 hk3 hYl2 hJx3 hkW hY'
        gi_wp2_with fail
        refine bodyPost_ret (results_none rfl _ _ _) rfl ?_
        exact ⟨⟨_, rfl⟩, HF.out.2.2, .inr ⟨_, Y', H2.out.2.2.2.1, fun y hy => by have := HF.out.1 y hy; omega, HF.out.2.1⟩⟩
end Go.Proofs.YthhepebkfokddaaGreatDoor
/- props: slices.AppendSeq of a map's keys. -/
namespace Go.Proofs.YthhepebkfokddaaGreatDoor
open Go Go.RowKit Go.Kt Go.Kt.Rg Go.Maps
attribute [local go_sem] Oper.semAt_some

theorem tinfoI32 : (Tryz.prog.info? 21).map (fun i => (i.zero, i.size, i.bytes)) = some (some (.int .i32 0), 1, 4) := by kernel_rfl
def encN (l : List Nat) : List Value := l.map fun x => .int .i32 (x : Nat)
theorem encN_snoc (l : List Nat) (x : Nat) : encN (l ++ [x]) = encN l ++ [.int .i32 (x : Nat)] := by simp [encN]
theorem nodup_le : ∀ (N : Nat) (l : List Nat), l.Nodup → (∀ x ∈ l, x < N) → l.length ≤ N
  | 0, l, _, h => by
    cases l with
    | nil => exact Nat.le_refl _
    | cons x t => exact absurd (h x List.mem_cons_self) (by omega)
  | N + 1, l, hn, h => by
    have h1 := nodup_le N (l.erase N) (hn.erase N) (fun x hx => by
      have h2 := h x (List.mem_of_mem_erase hx)
      have h3 : x ≠ N := fun e => (hn.not_mem_erase (a := N)) (e ▸ hx)
      omega)
    have h4 := List.length_erase (a := N) (l := l)
    split at h4 <;> omega

def AppI (n : Nat) (pre : List Nat) (Y : Nat → Prop) (W : World) : Prop := ∃ ao cv, W.heap[n]? = some (.cells #[.slice ao pre.length cv] 62 (0, 0)) ∧ OwnS (fun b => Y b) 21 1 (.slice ao pre.length cv) pre.length (encN pre) W

set_option maxRecDepth 100000 in
set_option maxHeartbeats 2000000 in
theorem pappend_any (vs : Nat → Option Value) (gf : Nat) (lb : Array Value) (Nd : Nat → Prop) (w w0 : World) (eg : ∀ args w, (callFunc gf args).run Tryz.prog w = .ok (.enter gf args) w)
    (hit : Iter5 Tryz.prog gf lb encK (OkK vs) (FinK vs) (fun _ => False) Nd w0) (hNd : ∀ b, Nd b → b < w.heap.size) (hNdw : ∀ b, Nd b → w.heap[b]? = w0.heap[b]?) (hw0 : w0.heap.size ≤ w.heap.size) (hbd : ∀ x, (vs x).isSome = true → x < 1114112) :
    Calls Tryz.prog 113 #[.slice none 0 0, .func (.func gf) #[] lb] w fun e w' => ∃ L ao cp, FinK vs L ∧ e = .returned (.slice ao L.length cp) ∧ OwnS (fun b => w.heap.size ≤ b) 21 1 (.slice ao L.length cp) L.length (encN L) w' ∧ Below w.heap.size w w' := by
  obtain ⟨n, hn⟩ : ∃ n, w.heap.size = n := ⟨_, rfl⟩
  have hfn : ∀ k, Fence.wide.fn k := fun _ => trivial
  have hdep : Fence.wide.depth = none := rfl
  refine (callsIn_wide (n := 0)).1 ?_
  refine callsIn_of_wp_marks Tryz.func113 rfl trivial ?_ rfl
  simp only [Tryz.ntmps113, List.size_toArray, List.length_cons, List.length_nil, Nat.reduceAdd, Nat.reduceSub, Array.replicate_succ, Array.replicate_zero, List.push_toArray, List.append_toArray, List.nil_append, List.cons_append]
  obtain ⟨w1, hw1⟩ : ∃ w1, w.alloc (.cells #[.slice none 0 0] 62) = w1 := ⟨_, rfl⟩
  have hz1 : w1.heap.size = n + 1 := by rw [← hw1]; simp [hn]
  have b0 : w1.heap[n]? = some (.cells #[.slice none 0 0] 62 (0, 0)) := by rw [← hw1]; exact alloc_at hn.symm
  have hb1 : Below n w w1 := by rw [← hw1]; exact (Below.refl _ _).alloc (by omega) _
  have HW1 := Lib.hid hw1
  have HIT := Lib.hid hit
  have HN := Lib.hid hn
  have HBD := Lib.hid hbd
  clear hw1 hit hbd
  gi_wp2_with fail
  rw [HW1.out]
  refine loop_out5 (gf := gf) (lb := lb) (encs := encK) rfl eg
    HIT.out (fun _ => rfl) (X := fun b => b = n)
    (fun b hb => by omega) (fun b hb => ?nd) (fun b hb => ?ndw) (by rw [HN.out] at hw0; omega)
    (AppI n)
    (fun _ _ _ _ => False)
    (fun pre Y W W' hk h' => by
      obtain ⟨ao, cv, h1, h2⟩ := h'
      exact ⟨ao, cv, hk.heap h1 (fun hx => by rcases hx.1 with h | h; exact h; omega), h2.keep hk (fun b hx hy => hx.2 hy)⟩)
    (fun pre Y W h' => by
      obtain ⟨ao, cv, h1, h2⟩ := h'
      exact ⟨ao, cv, h1, h2.1, fun b hb => ⟨h2.2 b hb, (h2.1.lt b hb).2⟩⟩)
    (fun _ _ _ _ _ _ h => h) ⟨_, _, b0, own_nil _ _ _ _⟩ ?round ?done ?stop
  case nd =>
    rcases hb with hb | hb
    · exact hb.elim
    · have := hNd b hb
      rw [HN.out] at this
      exact ⟨by omega, by omega⟩
  case ndw =>
    rcases hb with hb | hb
    · exact hb.elim
    · exact (hb1.block b (by have := hNd b hb; rw [HN.out] at this; omega)).trans (hNdw b hb)
  case stop => intro D c pre Y W _ _ _ h; exact h.elim
  case round =>
    rintro l' hl' pre x Y W hpre hi' hk hY hlt hr
    simp only [encK]
    have HI := Lib.hid hi'
    have hlen : pre.length < 1114112 := by
      have := nodup_le 1114112 (pre ++ [x]) hpre.1 (fun y hy => HBD.out y (hpre.2 y hy))
      simp at this
      omega
    have HPre := Lib.hid hpre
    have HY := Lib.hid hY
    have HK := Lib.hid hk
    have HR := Lib.hid hr
    clear eg hNd hNdw hi' hk hpre hY hr
    gi_wp2
    refine ⟨Keep.refl _ _, ?_⟩
    rintro W2 hk1 hk2 ⟨ao, cv, hv, hown⟩ rl hr2
    have hYY := HY.out
    have hW := HK.out.size
    have hz2 : n < W2.heap.size := by have := hk2.size; omega
    have hYn : ∀ b, Y b → b ≠ n := fun b hb => by have := (hYY b hb).1; omega
    obtain ⟨v, hvv⟩ : ∃ v, Value.slice ao pre.length cv = v := ⟨_, rfl⟩
    rw [hvv] at hown hv
    obtain ⟨g, cap, w3, hrun, hown3, hk3, hg3, hz3⟩ := append_x (P := Tryz.prog) W2 62 21 Tryz.underlying62 tinfoI32 rfl (by omega) hown [.int .i32 (x : Nat)] rfl
      (by intro u hu; simp at hu; rcases hu with rfl; rfl) (by unfold maxLen; omega) (by omega)
    have hvY : ∀ b, v.ownBlock = some b → Y b := hown.2
    have hg3Y : Y g ∨ W2.heap.size ≤ g := by
      rcases hg3 with hx | hx
      · exact .inl (hvY g hx)
      · exact .inr (by omega)
    have hgn : g ≠ n := by
      rcases hg3Y with hx | hx
      · exact hYn g hx
      · omega
    have k0 := cell_one hv
    have hvn : ∀ b, v.ownBlock = some b → b ≠ n := fun b hx => hYn b (hvY b hx)
    have hv3 : w3.heap[n]? = some (.cells #[v] 62 (0, 0)) := hk3.heap hv (fun hx => hvn n hx rfl)
    obtain ⟨w4, hw4⟩ : ∃ w4, w3.setCell ⟨n, 0, none⟩ (.slice (some ⟨g, 0, none⟩) (pre.length + 1) cap) = w4 := ⟨_, rfl⟩
    have hk4 : Keep (fun b => b = n) w3 w4 := by rw [← hw4]; exact Keep.setCell (X := fun b => b = n) (p := ⟨n, 0, none⟩) (Keep.refl _ _) rfl _
    have hv4 : w4.heap[n]? = some (.cells #[.slice (some ⟨g, 0, none⟩) (pre.length + 1) cap] 62 (0, 0)) := by rw [← hw4]; exact set_at hv3
    have hown4 := hown3.keep hk4 (fun b hb hy => hgn (by rw [← hy, hb]))
    have k3 := cell_one hv3
    have f3 := frozen_one hv3
    have hfin : Kt.Left (fun b => b = n) Y (AppI n) (pre ++ [x]) W2 w4 := by
      refine ⟨fun b => b = g, ?_, ?_, some ⟨g, 0, none⟩, cap, ?_, ?_⟩
      · exact (hk3.weaken (Y := fun b => b = n ∨ Y b) (fun b _ hx => .inr (hvY b hx))).trans (hk4.weaken fun b _ hx => .inl hx)
      · rintro b rfl
        exact hg3Y
      · have e1 : (pre ++ [x]).length = pre.length + 1 := by simp
        rw [e1]; exact hv4
      · have e1 : (pre ++ [x]).length = pre.length + 1 := by simp
        rw [e1, encN_snoc]
        exact hown4
    have HF := Lib.hid hfin
    have H3 := Lib.hid hrun
    have HW4 := Lib.hid hw4
    clear hfin hrun hw4 hown hown3 hown4 hk3 hk4 hg3 hvY hvn hv hv3 hv4 hg3Y hYY hYn hk1 hk2 hr2 hgn hlen
    gi_wp2_with (first | (refine wpListIn_append_eq (o := ⟨some 11, _, _, _, _, _⟩) (by rfl) (by rfl) (by rfl) (by rfl) H3.out ?_))
    rw [HW4.out]
    exact HF.out
  case done =>
    rintro D L Y W hFin hD hDd ⟨ao, cv, hv, hown⟩ hY hkW
    have hk2 : Below n w W := hb1.trans ((hkW.weaken (Y := fun b => b = n) (fun b _ h => by rcases h with h | h; exact h; exact h.elim)).below (by omega) (fun b hb => by omega))
    have b2 := cell_one hv
    have HF := Lib.hid (And.intro hown (And.intro hk2 (And.intro hY hFin)))
    have HDD := Lib.hid hDd
    have hDn : Hid (n + 1 ≤ D) := Lib.hid (by omega)
    clear hown hk2 hkW hY hDd eg hNd hNdw hw0 hFin
    gi_wp2
    refine leaves_marks (Ds := [D]) (by simp) (fun D' h => by simp at h; subst h; exact HDD.out) (fun W' hk' => ⟨_, results_tmp rfl _ _ _, ?_⟩)
    obtain ⟨ho, hkk, hY, hFin⟩ := HF.out
    have hk' : Keep (fun b => b = D) W W' := hk'.weaken fun b _ hb => by simpa using hb
    have ho2 := ho.keep hk' (fun b hb hy => (hY b hy).2 hb)
    rw [HN.out]
    refine ⟨L, _, _, hFin, rfl, ho2.weaken (fun b hy => ?_), hkk.trans (hk'.below (by have := hkk.size; rw [HN.out] at this; omega) (fun b hb => by have := hDn.out; omega))⟩
    have := (hY b hy).1
    omega
end Go.Proofs.YthhepebkfokddaaGreatDoor
/- Numbers of 32 bits that are put in order: what a row at work is, what two stores make of it, and how the plain functions go on. No program. -/
namespace Go.Kt.Os
open Go Go.RowKit Go.Kt Go.Sort

abbrev E32 : Int → Value := Value.int .i32

theorem holds_keep {X : Nat → Prop} {blk off : Nat} {d : Array Int} {A B : World} (h : Holds E32 A blk off d) (k : Keep X A B) (hX : ¬ X blk) : Holds E32 B blk off d := fun j hj => by
  obtain ⟨h1, h2⟩ := h j hj
  exact ⟨k.cell h1 hX, (k.frozen (lt_of_cell h1) hX).trans h2⟩

structure SW (w : World) (blk off : Nat) (d : Array Int) (wr : World) : Prop where
  keep : Keep (fun b => b = blk) w wr
  holds : Holds E32 wr blk off d

section
variable {w wr w1 : World} {blk off : Nat} {d d' : Array Int}
theorem SW.refl (h : Holds E32 w blk off d) : SW w blk off d w := ⟨Keep.refl _ _, h⟩
theorem SW.trans (h : SW w blk off d wr) (k : SW wr blk off d' w1) : SW w blk off d' w1 := ⟨h.keep.trans k.keep, k.holds⟩
theorem SW.drewN (h : SW w blk off d wr) (q : Nat) : SW w blk off d (wr.drewN q) := ⟨h.keep.trans ⟨rfl, rfl, rfl, Nat.le_refl _, fun _ _ _ => rfl⟩, h.holds⟩
theorem SW.then (h : SW w blk off d wr) (k : Keep (fun b => b ≠ blk ∧ w.heap.size ≤ b) wr w1) : SW w blk off d w1 :=
  ⟨h.keep.plus k (fun b hb hz => absurd hz.2 (by omega)), holds_keep h.holds k (fun e => e.1 rfl)⟩
theorem SW.cells (h : SW w blk off d wr) {G : Nat → Int} (hG : ∀ t, G t = d[t]!) {n : Nat} (hn : d.size = n) : ∀ t, t < n → wr.cell? ⟨blk, off + t, none⟩ = some (.int .i32 (G t)) := fun t ht => by
  rw [hG]; exact (h.holds t (by omega)).1
theorem SW.thaw (h : SW w blk off d wr) {n : Nat} (hn : d.size = n) : ∀ t, t < n → wr.frozen? ⟨blk, off + t, none⟩ = false := fun t ht => (h.holds t (by omega)).2
theorem SW.swap (h : SW w blk off d wr) {G : Nat → Int} (hG : ∀ t, G t = d[t]!) {i j : Nat} (hi : i < d.size) (hj : j < d.size) :
    SW w blk off (swp d i j) ((wr.setCell ⟨blk, off + i, none⟩ (.int .i32 (G j))).setCell ⟨blk, off + j, none⟩ (.int .i32 (G i))) := by
  refine ⟨(h.keep.setCell rfl _).setCell rfl _, ?_⟩
  rw [hG, hG]
  have e := putRow_swp E32 wr blk off d i j hi hj
  rw [putRow_self E32 wr blk off d h.holds] at e
  rw [show (wr.setCell ⟨blk, off + i, none⟩ (.int .i32 d[j]!)).setCell ⟨blk, off + j, none⟩ (.int .i32 d[i]!) = _ from e]
  exact holds_putRow E32 wr blk off d _ h.holds (size_swp _ _ _)
theorem SW.swapq (h : SW w blk off d wr) {G : Nat → Int} (hG : ∀ t, G t = d[t]!) {i j : Nat} (hi : i < d.size) (hj : j < d.size) (q r : Nat) :
    SW w blk off (swp d i j) ((((wr.drewN q).setCell ⟨blk, off + i, none⟩ (.int .i32 (G j))).setCell ⟨blk, off + j, none⟩ (.int .i32 (G i))).drewN r) :=
  ((h.drewN q).swap hG hi hj).drewN r
end

section
variable (lt : Int → Int → Bool)
theorem insInner_go (a j : Nat) (d : Array Int) (hj : a < j) (hl : lt d[j]! d[j - 1]! = true) : insInner lt a j d = insInner lt a (j - 1) (swp d j (j - 1)) := by
  obtain ⟨k, rfl⟩ : ∃ k, j = k + 1 := ⟨j - 1, by omega⟩
  simp only [Nat.add_sub_cancel] at hl ⊢
  rw [insInner, if_pos (by simp [hl]; omega)]
theorem insInner_stop (a j : Nat) (d : Array Int) (h : j ≤ a ∨ lt d[j]! d[j - 1]! = false) : insInner lt a j d = d := by
  cases j with
  | zero => rfl
  | succ k =>
    simp only [Nat.add_sub_cancel] at h
    rw [insInner, if_neg]
    rcases h with h | h
    · simp; omega
    · simp [h]
theorem insOuter_go (a b i : Nat) (d : Array Int) (h : i < b) : insOuter lt a b i d = insOuter lt a b (i + 1) (insInner lt a i d) := by rw [insOuter, if_pos h]
theorem insOuter_stop (a b i : Nat) (d : Array Int) (h : ¬ i < b) : insOuter lt a b i d = d := by rw [insOuter, if_neg h]

theorem sd_end {hi F root : Nat} (d : Array Int) (h : hi ≤ 2 * root + 1) : siftDown lt hi F root d = d := by rw [siftDown, dif_pos h]
theorem sd_right {hi F root : Nat} (d : Array Int) (h1 : 2 * root + 2 < hi) (h2 : lt d[F + (2 * root + 1)]! d[F + (2 * root + 1) + 1]! = true) :
    siftDown lt hi F root d = if lt d[F + root]! d[F + (2 * root + 2)]! then siftDown lt hi F (2 * root + 2) (swp d (F + root) (F + (2 * root + 2))) else d := by
  rw [siftDown, dif_neg (by omega), if_pos (by simp [h2]; omega)]
  cases lt d[F + root]! d[F + (2 * root + 2)]! with
  | true => simp [h1]
  | false => simp
theorem sd_left {hi F root : Nat} (d : Array Int) (h0 : 2 * root + 1 < hi) (h1 : ¬ (2 * root + 2 < hi) ∨ lt d[F + (2 * root + 1)]! d[F + (2 * root + 1) + 1]! = false) :
    siftDown lt hi F root d = if lt d[F + root]! d[F + (2 * root + 1)]! then siftDown lt hi F (2 * root + 1) (swp d (F + root) (F + (2 * root + 1))) else d := by
  rw [siftDown, dif_neg (by omega), if_neg (by rcases h1 with h | h <;> simp [h] <;> omega)]
  cases lt d[F + root]! d[F + (2 * root + 1)]! with
  | true => simp
  | false => simp
theorem sd_r {hi F root : Nat} (d : Array Int) (h1 : 2 * root + 2 < hi) (h2 : lt d[F + 2 * root + 1]! d[F + 2 * root + 2]! = true) :
    siftDown lt hi F root d = if lt d[F + root]! d[F + 2 * root + 2]! then siftDown lt hi F (2 * root + 2) (swp d (F + root) (F + 2 * root + 2)) else d := sd_right lt d h1 h2
theorem sd_l {hi F root : Nat} (d : Array Int) (h0 : 2 * root + 1 < hi) (h1 : ¬ (2 * root + 2 < hi) ∨ lt d[F + 2 * root + 1]! d[F + 2 * root + 2]! = false) :
    siftDown lt hi F root d = if lt d[F + root]! d[F + 2 * root + 1]! then siftDown lt hi F (2 * root + 1) (swp d (F + root) (F + 2 * root + 1)) else d := sd_left lt d h0 h1
theorem size_siftDown (hi F : Nat) : ∀ (n root : Nat) (d : Array Int), hi - root ≤ n → (siftDown lt hi F root d).size = d.size := by
  intro n
  induction n with
  | zero => intro root d h; rw [sd_end lt d (by omega)]
  | succ n ih =>
    intro root d h
    by_cases h0 : hi ≤ 2 * root + 1
    · rw [sd_end lt d h0]
    · by_cases h1 : 2 * root + 2 < hi ∧ lt d[F + (2 * root + 1)]! d[F + (2 * root + 1) + 1]! = true
      · rw [sd_right lt d h1.1 h1.2]
        split
        · rw [ih _ _ (by omega), size_swp]
        · rfl
      · rw [sd_left lt d (by omega) (by
          by_cases h2 : 2 * root + 2 < hi
          · right; cases h3 : lt d[F + (2 * root + 1)]! d[F + (2 * root + 1) + 1]! with
            | true => exact absurd ⟨h2, h3⟩ h1
            | false => rfl
          · exact .inl h2)]
        split
        · rw [ih _ _ (by omega), size_swp]
        · rfl

theorem scanUp_go (p : Int → Bool) (d : Array Int) (j i : Nat) (h : i ≤ j) (hp : p d[i]! = true) : scanUp p d j i = scanUp p d j (i + 1) := by
  rw [scanUp, if_pos (by simp [h, hp])]
theorem scanUp_end (p : Int → Bool) (d : Array Int) (j i : Nat) (h : ¬ i ≤ j ∨ p d[i]! = false) : scanUp p d j i = i := by
  rw [scanUp, if_neg (by rcases h with h | h <;> simp [h])]
theorem scanDown_go (p : Int → Bool) (d : Array Int) (i j : Nat) (h : i ≤ j) (h0 : 0 < j) (hp : p d[j]! = true) : scanDown p d i j = scanDown p d i (j - 1) := by
  obtain ⟨k, rfl⟩ : ∃ k, j = k + 1 := ⟨j - 1, by omega⟩
  rw [scanDown, if_pos (by simp [h, hp])]
  rfl
theorem scanDown_end (p : Int → Bool) (d : Array Int) (i j : Nat) (h : ¬ i ≤ j ∨ p d[j]! = false) : scanDown p d i j = j := by
  cases j with
  | zero => rfl
  | succ k => rw [scanDown, if_neg (by rcases h with h | h <;> simp [h])]

theorem ss_go (d : Array Int) (b i : Nat) (h : i < b) (hl : lt d[i]! d[i - 1]! = false) : scanSorted lt d b i = scanSorted lt d b (i + 1) := by
  rw [scanSorted, if_pos (by simp [h, hl])]
theorem ss_stop (d : Array Int) (b i : Nat) (h : ¬ i < b ∨ lt d[i]! d[i - 1]! = true) : scanSorted lt d b i = i := by
  rw [scanSorted, if_neg (by rcases h with h | h <;> simp [h])]
theorem sdn_go (j : Nat) (d : Array Int) (hj : 1 ≤ j) (hl : lt d[j]! d[j - 1]! = true) : shiftDown lt j d = shiftDown lt (j - 1) (swp d j (j - 1)) := by
  obtain ⟨k, rfl⟩ : ∃ k, j = k + 1 := ⟨j - 1, by omega⟩
  simp only [Nat.add_sub_cancel] at hl ⊢
  rw [shiftDown, if_neg (by simp [hl])]
theorem sdn_stop (j : Nat) (d : Array Int) (h : ¬ 1 ≤ j ∨ lt d[j]! d[j - 1]! = false) : shiftDown lt j d = d := by
  cases j with
  | zero => rfl
  | succ k =>
    simp only [Nat.add_sub_cancel] at h
    rw [shiftDown, if_pos]
    rcases h with h | h
    · omega
    · simp [h]
theorem sup_go (b j : Nat) (d : Array Int) (hj : j < b) (hl : lt d[j]! d[j - 1]! = true) : shiftUp lt b j d = shiftUp lt b (j + 1) (swp d j (j - 1)) := by
  rw [shiftUp, if_pos hj, if_neg (by simp [hl])]
theorem sup_stop (b j : Nat) (d : Array Int) (h : ¬ j < b ∨ lt d[j]! d[j - 1]! = false) : shiftUp lt b j d = d := by
  rw [shiftUp]
  rcases h with h | h
  · rw [if_neg h]
  · rw [if_pos (by simp [h] : (!lt d[j]! d[j - 1]!) = true)]
    split <;> rfl
theorem pi_true (a b s i : Nat) (d : Array Int) (hs : s < 5) (hK : scanSorted lt d b i = b) : partialIns lt a b (5 - s) i d = (d, true) := by
  rw [show 5 - s = (4 - s) + 1 by omega, partialIns]
  simp [hK]
theorem pi_short (a b s i k : Nat) (d : Array Int) (hs : s < 5) (hK : scanSorted lt d b i = k) (hkb : k ≠ b) (h50 : b - a < 50) : partialIns lt a b (5 - s) i d = (d, false) := by
  rw [show 5 - s = (4 - s) + 1 by omega, partialIns]
  simp [hK, hkb, h50]
theorem pi_go (a b s i k : Nat) (d : Array Int) (hs : s < 5) (hK : scanSorted lt d b i = k) (hkb : k ≠ b) (h50 : ¬ b - a < 50) {d1 d2 d3 : Array Int} (h1 : d1 = swp d k (k - 1))
    (h2 : d2 = if k - a ≥ 2 then shiftDown lt (k - 1) d1 else d1) (h3 : d3 = if b - k ≥ 2 then shiftUp lt b (k + 1) d2 else d2) : partialIns lt a b (5 - s) i d = partialIns lt a b (5 - (s + 1)) k d3 := by
  subst h1 h2 h3
  rw [show 5 - s = (5 - (s + 1)) + 1 by omega, partialIns]
  simp only [hK]
  rw [if_neg hkb, if_neg h50]
end
end Go.Kt.Os
/- slices.Sort on numbers of 32 bits: Less; insertion; a row turned round. -/
namespace Go.Proofs.YthhepebkfokddaaGreatDoor
open Go Go.RowKit Go.Kt Go.Kt.Os Go.Sort

theorem oNaN (x : Int) (w : World) : Calls Tryz.prog 148 #[.int .i32 x] w fun e w' => e = .returned (.bool false) ∧ w' = w := by
  go_enter Tryz.func148, Tryz.ntmps148
  go_wp2
  go_ret
  exact ⟨by simp, rfl⟩
theorem oLess (x y : Int) (w : World) : Calls Tryz.prog 118 #[.int .i32 x, .int .i32 y] w fun e w' => e = .returned (.bool (ltInt x y)) ∧ w' = w := by
  go_enter Tryz.func118, Tryz.ntmps118
  go_wp2_with (go_at_call 148; refine (oNaN _ _).mono ?_; rintro e w' ⟨rfl, rfl⟩)
  go_ret
  exact ⟨rfl, rfl⟩

set_option maxRecDepth 100000 in
set_option maxHeartbeats 8000000 in
theorem oIns (blk off cap a b : Nat) (d : Array Int) (w : World) (hH : Holds E32 w blk off d) (hab : a ≤ b) (hb : b ≤ d.size) (hsz : d.size < 4611686018427387904) :
    Calls Tryz.prog 138 #[.slice (some ⟨blk, off, none⟩) d.size cap, .int .i64 a, .int .i64 b] w fun e w' =>
      e = .returned (.tuple #[]) ∧ SW w blk off (insertionSort ltInt d a b) w' := by
  have H0 := Lib.hid (SW.refl hH)
  clear hH
  obtain ⟨n, hn⟩ : ∃ n, d.size = n := ⟨_, rfl⟩
  rw [hn] at hb hsz ⊢
  have HN := Lib.hid hn
  clear hn
  go_enter Tryz.func138, Tryz.ntmps138
  go_wp2
  go_loopw [6] (fun vi wr => ∃ (i : Nat) (dk : Array Int), vi = .int .i64 i ∧ a < i ∧ i ≤ b + 1 ∧ Hid (dk.size = n ∧ SW w blk off dk wr ∧ insOuter ltInt a b i dk = insOuter ltInt a b (a + 1) d)) (fun vi _ => b + 1 - (RowKit.intOf vi).toNat)
  case atStart => exact ⟨a + 1, d, by go_num, by omega, by omega, Lib.hid ⟨HN.out, H0.out, rfl⟩⟩
  case round =>
    obtain ⟨i, dk, rfl, hai, hib, hh⟩ := hrel
    obtain ⟨W1, hW1⟩ : ∃ W1, W1 = wr := ⟨_, rfl⟩
    subst hW1
    go_wp2
    · rename_i hlt0
      have hlt : i < b := by omega
      go_loopw [7] (fun vj wr2 => ∃ (j : Nat) (dj : Array Int), vj = .int .i64 j ∧ a ≤ j ∧ j ≤ i ∧ Hid (dj.size = n ∧ SW w blk off dj wr2 ∧ insInner ltInt a j dj = insInner ltInt a i dk)) (fun vj _ => (RowKit.intOf vj).toNat)
      case atStart => exact ⟨i, dk, rfl, by omega, Nat.le_refl _, Lib.hid ⟨hh.out.1, hh.out.2.1, rfl⟩⟩
      case round =>
        obtain ⟨j, dj, rfl, haj, hji, hg⟩ := hrel
        obtain ⟨G, hG⟩ : ∃ G : Nat → Int, ∀ t, G t = dj[t]! := ⟨fun t => dj[t]!, fun _ => rfl⟩
        have hcw := hg.out.2.1.cells hG hg.out.1
        have hfw := hg.out.2.1.thaw hg.out.1
        have HG := Lib.hid hG
        clear hG
        by_cases hja : a < j
        · have hjz : (a : Int) < (j : Int) := by omega
          go_wp2_with fail
          go_big_quiet (first | (go_at_call 118; refine Calls.quiet_of_same (oLess _ _ _)))
          go_wp2_with fail
          · have hl : ltInt (G j) (G (j - 1)) = true := by assumption
            have hcw2 : ∀ t, t < n → (wr.drewN nq).cell? ⟨blk, off + t, none⟩ = some (.int .i32 (G t)) := hcw
            have hfw2 : ∀ t, t < n → (wr.drewN nq).frozen? ⟨blk, off + t, none⟩ = false := hfw
            have HS := Lib.hid (hg.out.2.1.drewN nq)
            clear hcw hfw
            generalize wr.drewN nq = wr3 at hcw2 hfw2 HS ⊢
            go_region
            all_goals go_wp2
            go_roundw
            case rel =>
              refine ⟨j - 1, swp dj j (j - 1), by congr 1; omega, by omega, by omega, Lib.hid ⟨by rw [size_swp]; exact hg.out.1, HS.out.swapq HG.out (by have := hg.out.1; omega) (by have := hg.out.1; omega) 0 1, ?_⟩⟩
              rw [← hg.out.2.2, insInner_go ltInt a j dj hja (by rw [← HG.out, ← HG.out]; exact hl)]
            case measure => simp [RowKit.intOf]; omega
          · have hl : ltInt (G j) (G (j - 1)) = false := by assumption
            go_wp2
            go_roundw
            case rel => exact ⟨i + 1, dj, by go_num, by omega, by omega, Lib.hid ⟨hg.out.1, hg.out.2.1.drewN nq, by rw [← hh.out.2.2, insOuter_go _ _ _ _ _ hlt, ← hg.out.2.2, insInner_stop _ _ _ _ (.inr (by rw [← HG.out, ← HG.out]; exact hl))]⟩⟩
            case measure => simp [RowKit.intOf]; omega
        · have hjz : ¬ (a : Int) < (j : Int) := by omega
          go_wp2_with fail
          go_big_quiet (first | (go_at_call 118; refine Calls.quiet_of_same (oLess _ _ _)))
          go_wp2
          go_roundw
          case rel => exact ⟨i + 1, dj, by go_num, by omega, by omega, Lib.hid ⟨hg.out.1, hg.out.2.1.drewN nq, by rw [← hh.out.2.2, insOuter_go _ _ _ _ _ hlt, ← hg.out.2.2, insInner_stop _ _ _ _ (.inl (by omega))]⟩⟩
          case measure => simp [RowKit.intOf]; omega
    · rename_i hge
      go_end0
      refine ⟨rfl, ?_⟩
      have e : insertionSort ltInt d a b = dk := by unfold insertionSort; rw [← hh.out.2.2, insOuter_stop _ _ _ _ _ (by omega)]
      rw [e]
      exact hh.out.2.1

set_option maxRecDepth 100000 in
set_option maxHeartbeats 8000000 in
theorem oRev (blk off cap a b : Nat) (d : Array Int) (w : World) (hH : Holds E32 w blk off d) (hab : a < b) (hb : b ≤ d.size) (hsz : d.size < 4611686018427387904) :
    Calls Tryz.prog 142 #[.slice (some ⟨blk, off, none⟩) d.size cap, .int .i64 a, .int .i64 b] w fun e w' =>
      e = .returned (.tuple #[]) ∧ ∃ d', PermIn a b d d' ∧ SW w blk off d' w' := by
  have H0 := Lib.hid (SW.refl hH)
  clear hH
  obtain ⟨n, hn⟩ : ∃ n, d.size = n := ⟨_, rfl⟩
  rw [hn] at hb hsz ⊢
  have HN := Lib.hid hn
  clear hn
  go_enter Tryz.func142, Tryz.ntmps142
  go_wp2
  go_loopw [6, 7] (fun vi vj wr => ∃ (i j : Nat) (dk : Array Int), vi = .int .i64 i ∧ vj = .int .i64 j ∧ a ≤ i ∧ i ≤ j + 2 ∧ j < b ∧ Hid (PermIn a b d dk ∧ SW w blk off dk wr)) (fun vi vj _ => (RowKit.intOf vj).toNat + 2 - (RowKit.intOf vi).toNat)
  case atStart => exact ⟨a, b - 1, d, rfl, by go_num, by omega, by omega, by omega, Lib.hid ⟨permIn_refl _ _ _, H0.out⟩⟩
  case round =>
    obtain ⟨i, j, dk, rfl, rfl, hai, hij, hjb, hh⟩ := hrel
    have hsk : dk.size = n := hh.out.1.1.trans HN.out
    obtain ⟨G, hG⟩ : ∃ G : Nat → Int, ∀ t, G t = dk[t]! := ⟨fun t => dk[t]!, fun _ => rfl⟩
    have hcw := hh.out.2.cells hG hsk
    have hfw := hh.out.2.thaw hsk
    have HG := Lib.hid hG
    have HSK := Lib.hid hsk
    clear hG hsk
    go_wp2
    · rename_i hlt
      go_region
      all_goals go_wp2
      go_roundw
      case rel =>
        have hsk := HSK.out
        refine ⟨i + 1, j - 1, swp dk i j, by go_num, by go_num, by omega, by omega, by omega, Lib.hid ⟨?_, hh.out.2.swapq HG.out (by omega) (by omega) 0 1⟩⟩
        exact permIn_trans _ _ _ _ _ hh.out.1 (swp_permIn dk a b i j hai (by omega) (by omega) hjb (by omega))
      case measure => simp [RowKit.intOf]; omega
    · go_end0
      exact ⟨rfl, dk, hh.out.1, hh.out.2⟩
end Go.Proofs.YthhepebkfokddaaGreatDoor
/- slices.Sort on numbers of 32 bits: the heap. -/
namespace Go.Proofs.YthhepebkfokddaaGreatDoor
open Go Go.RowKit Go.Kt Go.Kt.Os Go.Sort

set_option maxRecDepth 100000 in
set_option maxHeartbeats 8000000 in
theorem oSift (blk off cap lo hi F n : Nat) (d : Array Int) (w : World) (hn : d.size = n) (hH : Holds E32 w blk off d) (hlo : lo ≤ hi) (hb : F + hi ≤ n) (hsz : n < 4611686018427387904) :
    Calls Tryz.prog 158 #[.slice (some ⟨blk, off, none⟩) n cap, .int .i64 lo, .int .i64 hi, .int .i64 F] w fun e w' =>
      e = .returned (.tuple #[]) ∧ SW w blk off (siftDown ltInt hi F lo d) w' := by
  have H0 := Lib.hid (SW.refl hH)
  have HN := Lib.hid hn
  clear hH hn
  go_enter Tryz.func158, Tryz.ntmps158
  go_wp2
  go_loopw [8] (fun vr wr => ∃ (r : Nat) (dk : Array Int), vr = .int .i64 r ∧ r ≤ hi ∧ Hid (dk.size = n ∧ SW w blk off dk wr ∧ siftDown ltInt hi F r dk = siftDown ltInt hi F lo d)) (fun vr _ => hi - (RowKit.intOf vr).toNat)
  case atStart => exact ⟨lo, d, rfl, hlo, Lib.hid ⟨HN.out, H0.out, rfl⟩⟩
  case round =>
    obtain ⟨r, dk, rfl, hr, hh⟩ := hrel
    obtain ⟨G, hG⟩ : ∃ G : Nat → Int, ∀ t, G t = dk[t]! := ⟨fun t => dk[t]!, fun _ => rfl⟩
    have hcw := hh.out.2.1.cells hG hh.out.1
    have hfw := hh.out.2.1.thaw hh.out.1
    have HG := Lib.hid hG
    clear hG
    by_cases h0 : hi ≤ 2 * r + 1
    · have h0z : (hi : Int) ≤ 2 * (r : Int) + 1 := by omega
      go_wp2
      go_end0
      refine ⟨rfl, ?_⟩
      rw [← hh.out.2.2, sd_end ltInt dk h0]
      exact hh.out.2.1
    · have h0z : ¬ ((hi : Int) ≤ 2 * (r : Int) + 1) := by omega
      by_cases h1 : 2 * r + 2 < hi
      · have h1z : 2 * (r : Int) + 1 + 1 < (hi : Int) := by omega
        go_wp2_with fail
        go_big_quiet (first | (go_at_call 118; refine Calls.quiet_of_same (oLess _ _ _)))
        go_wp2_with fail
        · have hL : ltInt (G (F + 2 * r + 1)) (G (F + 2 * r + 2)) = true := by assumption
          have HS := Lib.hid (hh.out.2.1.drewN nq)
          clear hcw hfw
          generalize wr.drewN nq = wr2 at HS ⊢
          clear nq
          have hcw2 := HS.out.cells HG.out hh.out.1
          have hfw2 := HS.out.thaw hh.out.1
          go_big_quiet (first | (go_at_call 118; refine Calls.quiet_of_same (oLess _ _ _)))
          go_wp2_with fail
          · have hS : ltInt (G (F + r)) (G (F + 2 * r + 2)) = false := by
              have : (!ltInt (G (F + r)) (G (F + 2 * r + 2))) = true := by assumption
              simpa using this
            (try simp only [Exit.inBlock, Exit.then]); refine bodyPost_ret (results_none rfl _ _ _) rfl ?_
            refine ⟨rfl, ?_⟩
            rw [← hh.out.2.2, sd_r ltInt dk h1 (by rw [← HG.out, ← HG.out]; exact hL), if_neg (by rw [← HG.out, ← HG.out, hS]; exact Bool.false_ne_true)]
            exact HS.out.drewN nq
          · have hS : ltInt (G (F + r)) (G (F + 2 * r + 2)) = true := by
              have : (!ltInt (G (F + r)) (G (F + 2 * r + 2))) = false := by assumption
              simpa using this
            have HS3 := Lib.hid (HS.out.drewN nq)
            clear hcw2 hfw2
            generalize wr2.drewN nq = wr3 at HS3 ⊢
            have hcw3 := HS3.out.cells HG.out hh.out.1
            have hfw3 := HS3.out.thaw hh.out.1
            go_region
            all_goals go_wp2
            go_roundw
            case rel =>
              refine ⟨2 * r + 2, swp dk (F + r) (F + 2 * r + 2), by go_num, by omega, Lib.hid ⟨by rw [size_swp]; exact hh.out.1, HS3.out.swapq HG.out (by have := hh.out.1; omega) (by have := hh.out.1; omega) 0 1, ?_⟩⟩
              rw [← hh.out.2.2, sd_r ltInt dk h1 (by rw [← HG.out, ← HG.out]; exact hL), if_pos (by rw [← HG.out, ← HG.out]; exact hS)]
            case measure => simp [RowKit.intOf]; omega
        · have hL : ltInt (G (F + 2 * r + 1)) (G (F + 2 * r + 2)) = false := by assumption
          have HS := Lib.hid (hh.out.2.1.drewN nq)
          clear hcw hfw
          generalize wr.drewN nq = wr2 at HS ⊢
          clear nq
          have hcw2 := HS.out.cells HG.out hh.out.1
          have hfw2 := HS.out.thaw hh.out.1
          go_big_quiet (first | (go_at_call 118; refine Calls.quiet_of_same (oLess _ _ _)))
          go_wp2_with fail
          · have hS : ltInt (G (F + r)) (G (F + 2 * r + 1)) = false := by
              have : (!ltInt (G (F + r)) (G (F + 2 * r + 1))) = true := by assumption
              simpa using this
            (try simp only [Exit.inBlock, Exit.then]); refine bodyPost_ret (results_none rfl _ _ _) rfl ?_
            refine ⟨rfl, ?_⟩
            rw [← hh.out.2.2, sd_l ltInt dk (by omega) (.inr (by rw [← HG.out, ← HG.out]; exact hL)), if_neg (by rw [← HG.out, ← HG.out, hS]; exact Bool.false_ne_true)]
            exact HS.out.drewN nq
          · have hS : ltInt (G (F + r)) (G (F + 2 * r + 1)) = true := by
              have : (!ltInt (G (F + r)) (G (F + 2 * r + 1))) = false := by assumption
              simpa using this
            have HS3 := Lib.hid (HS.out.drewN nq)
            clear hcw2 hfw2
            generalize wr2.drewN nq = wr3 at HS3 ⊢
            have hcw3 := HS3.out.cells HG.out hh.out.1
            have hfw3 := HS3.out.thaw hh.out.1
            go_region
            all_goals go_wp2
            go_roundw
            case rel =>
              refine ⟨2 * r + 1, swp dk (F + r) (F + 2 * r + 1), by go_num, by omega, Lib.hid ⟨by rw [size_swp]; exact hh.out.1, HS3.out.swapq HG.out (by have := hh.out.1; omega) (by have := hh.out.1; omega) 0 1, ?_⟩⟩
              rw [← hh.out.2.2, sd_l ltInt dk (by omega) (.inr (by rw [← HG.out, ← HG.out]; exact hL)), if_pos (by rw [← HG.out, ← HG.out]; exact hS)]
            case measure => simp [RowKit.intOf]; omega
      · have h1z : decide (2 * (r : Int) + 1 + 1 < (hi : Int)) = false := decide_eq_false (by omega)
        go_wp2_with fail
        go_big_quiet (first | (go_at_call 118; refine Calls.quiet_of_same (oLess _ _ _)))
        go_wp2_with fail
        have HS := Lib.hid (hh.out.2.1.drewN nq)
        clear hcw hfw
        generalize wr.drewN nq = wr2 at HS ⊢
        clear nq
        have hcw2 := HS.out.cells HG.out hh.out.1
        have hfw2 := HS.out.thaw hh.out.1
        go_big_quiet (first | (go_at_call 118; refine Calls.quiet_of_same (oLess _ _ _)))
        go_wp2_with fail
        · have hS : ltInt (G (F + r)) (G (F + 2 * r + 1)) = false := by
            have : (!ltInt (G (F + r)) (G (F + 2 * r + 1))) = true := by assumption
            simpa using this
          (try simp only [Exit.inBlock, Exit.then]); refine bodyPost_ret (results_none rfl _ _ _) rfl ?_
          refine ⟨rfl, ?_⟩
          rw [← hh.out.2.2, sd_l ltInt dk (by omega) (.inl h1), if_neg (by rw [← HG.out, ← HG.out, hS]; exact Bool.false_ne_true)]
          exact HS.out.drewN nq
        · have hS : ltInt (G (F + r)) (G (F + 2 * r + 1)) = true := by
            have : (!ltInt (G (F + r)) (G (F + 2 * r + 1))) = false := by assumption
            simpa using this
          have HS3 := Lib.hid (HS.out.drewN nq)
          clear hcw2 hfw2
          generalize wr2.drewN nq = wr3 at HS3 ⊢
          have hcw3 := HS3.out.cells HG.out hh.out.1
          have hfw3 := HS3.out.thaw hh.out.1
          go_region
          all_goals go_wp2
          go_roundw
          case rel =>
            refine ⟨2 * r + 1, swp dk (F + r) (F + 2 * r + 1), by go_num, by omega, Lib.hid ⟨by rw [size_swp]; exact hh.out.1, HS3.out.swapq HG.out (by have := hh.out.1; omega) (by have := hh.out.1; omega) 0 1, ?_⟩⟩
            rw [← hh.out.2.2, sd_l ltInt dk (by omega) (.inl h1), if_pos (by rw [← HG.out, ← HG.out]; exact hS)]
          case measure => simp [RowKit.intOf]; omega

theorem half_up {a b : Nat} (h : a ≤ b) : ((b : Int) - (a : Int) - 1).tdiv 2 = (((b - a - 1) / 2 + 1 : Nat) : Int) - 1 := by
  obtain ⟨c, rfl⟩ : ∃ c, b = a + c := ⟨b - a, by omega⟩
  rcases Nat.eq_zero_or_pos c with h0 | h0
  · subst h0
    rw [show ((a + 0 : Nat) : Int) - (a : Int) - 1 = -1 by omega, show a + 0 - a - 1 = 0 by omega]
    decide
  · rw [show ((a + c : Nat) : Int) - (a : Int) - 1 = ((c - 1 : Nat) : Int) by omega, show a + c - a - 1 = c - 1 by omega, Int.tdiv_eq_ediv_of_nonneg (by omega)]
    omega

set_option maxRecDepth 100000 in
set_option maxHeartbeats 1000000 in
theorem oHeap (blk off cap a b n : Nat) (d : Array Int) (w : World) (hn : d.size = n) (hH : Holds E32 w blk off d) (hab : a ≤ b) (hb : b ≤ n) (hsz : n < 4611686018427387904) :
    Calls Tryz.prog 139 #[.slice (some ⟨blk, off, none⟩) n cap, .int .i64 a, .int .i64 b] w fun e w' =>
      e = .returned (.tuple #[]) ∧ SW w blk off (heapSort ltInt d a b) w' := by
  have H0 := Lib.hid (SW.refl hH)
  have HN := Lib.hid hn
  clear hH hn
  have EC := Lib.hid (show ((b - a : Nat) : Int) = (b : Int) - (a : Int) by omega)
  have EH := Lib.hid (half_up hab)
  have EB := Lib.hid (show heapSort ltInt d a b = heapPop ltInt a (b - a) (heapBuild ltInt (b - a) a ((b - a - 1) / 2 + 1) d) from rfl)
  go_enter Tryz.func139, Tryz.ntmps139
  go_wp2
  go_loopw [9] (fun vk wr => ∃ (k : Nat) (dk : Array Int), vk = .int .i64 ((k : Int) - 1) ∧ k ≤ (b - a - 1) / 2 + 1 ∧ Hid (dk.size = n ∧ SW w blk off dk wr ∧ heapBuild ltInt (b - a) a k dk = heapBuild ltInt (b - a) a ((b - a - 1) / 2 + 1) d)) (fun vk _ => (RowKit.intOf vk + 1).toNat)
  case atStart => exact ⟨_, d, by rw [← EH.out], Nat.le_refl _, Lib.hid ⟨HN.out, H0.out, rfl⟩⟩
  case round =>
    obtain ⟨k, dk, hv, hk, hg⟩ := hrel
    cases k with
    | zero =>
      replace hv := hv.trans (show Value.int .i64 (((0 : Nat) : Int) - 1) = .int .i64 (-1) from rfl)
      subst hv
      go_wp2
      go_loopw [10] (fun vk wr => ∃ (k : Nat) (dj : Array Int), vk = .int .i64 ((k : Int) - 1) ∧ k ≤ b - a ∧ Hid (dj.size = n ∧ SW w blk off dj wr ∧ heapPop ltInt a k dj = heapPop ltInt a (b - a) dk)) (fun vk _ => (RowKit.intOf vk + 1).toNat)
      case atStart => exact ⟨b - a, dk, by rw [EC.out], Nat.le_refl _, Lib.hid ⟨hg.out.1, hg.out.2.1, rfl⟩⟩
      case round =>
        obtain ⟨k, dj, hv, hk, hp⟩ := hrel
        cases k with
        | zero =>
          replace hv := hv.trans (show Value.int .i64 (((0 : Nat) : Int) - 1) = .int .i64 (-1) from rfl)
          subst hv
          go_wp2
          go_end0
          refine ⟨rfl, ?_⟩
          rw [EB.out, ← hg.out.2.2]
          show SW w blk off (heapPop ltInt a (b - a) dk) _
          rw [← hp.out.2.2]
          exact hp.out.2.1
        | succ k =>
          replace hv := hv.trans (show Value.int .i64 (((k + 1 : Nat) : Int) - 1) = .int .i64 (k : Int) by congr 1; omega)
          subst hv
          obtain ⟨G, hG⟩ : ∃ G : Nat → Int, ∀ t, G t = dj[t]! := ⟨fun t => dj[t]!, fun _ => rfl⟩
          have hcw := hp.out.2.1.cells hG hp.out.1
          have hfw := hp.out.2.1.thaw hp.out.1
          have HG := Lib.hid hG
          clear hG
          have hk0 : (0 : Int) ≤ (k : Int) := by omega
          obtain ⟨v', hy⟩ := cell?_setCell_some (w := wr) (p := ⟨blk, off + a, none⟩) (x := .int .i32 (G (a + k))) (q := ⟨blk, off + (a + k), none⟩) (hcw (a + k) (by omega))
          have HS := Lib.hid (SW.swapq hp.out.2.1 HG.out (i := a) (j := a + k) (by have := hp.out.1; omega) (by have := hp.out.1; omega))
          go_wp2
          go_region
          all_goals go_wp2_with fail
          have HS5 : SW w blk off (swp dj a (a + k)) (((wr.setCell ⟨blk, off + a, none⟩ (.int .i32 (G (a + k)))).setCell ⟨blk, off + (a + k), none⟩ (.int .i32 (G a))).drew) := HS.out 0 1
          generalize ((wr.setCell ⟨blk, off + a, none⟩ (.int .i32 (G (a + k)))).setCell ⟨blk, off + (a + k), none⟩ (.int .i32 (G a))).drew = W5 at HS5 ⊢
          have C0 := oSift blk off cap 0 k a n (swp dj a (a + k)) W5 (by rw [size_swp]; exact hp.out.1) HS5.holds (by omega) (by omega) hsz
          rw [show ((0 : Nat) : Int) = 0 from rfl] at C0
          refine C0.mono ?_
          rintro e w1 ⟨rfl, hS⟩
          go_wp2
          go_roundw
          case rel => exact ⟨k, siftDown ltInt k a 0 (swp dj a (a + k)), rfl, by omega, Lib.hid ⟨by rw [size_siftDown ltInt _ _ _ _ _ (Nat.le_refl _), size_swp]; exact hp.out.1, HS5.trans hS, hp.out.2.2⟩⟩
          case measure => simp [RowKit.intOf]
    | succ k =>
      replace hv := hv.trans (show Value.int .i64 (((k + 1 : Nat) : Int) - 1) = .int .i64 (k : Int) by congr 1; omega)
      subst hv
      have hk0 : (0 : Int) ≤ (k : Int) := by omega
      have C0 := oSift blk off cap k (b - a) a n dk wr hg.out.1 hg.out.2.1.holds (by omega) (by omega) hsz
      rw [EC.out] at C0
      have C := Lib.hid C0
      clear C0
      go_wp2_with (go_at_call 158; refine C.out.mono ?_; rintro e w1 ⟨rfl, hS⟩)
      go_roundw
      case rel => exact ⟨k, siftDown ltInt (b - a) a k dk, rfl, by omega, Lib.hid ⟨by rw [size_siftDown ltInt _ _ _ _ _ (Nat.le_refl _)]; exact hg.out.1, hg.out.2.1.trans hS, hg.out.2.2⟩⟩
      case measure => simp [RowKit.intOf]
end Go.Proofs.YthhepebkfokddaaGreatDoor
/- slices.Sort on numbers of 32 bits: a row whose least stands ahead is parted. -/
namespace Go.Proofs.YthhepebkfokddaaGreatDoor
open Go Go.RowKit Go.Kt Go.Kt.Os Go.Sort
theorem peq_stop (a i j : Nat) (dk : Array Int) {i2 j2 : Nat} (hi : i2 = scanUp (fun x => !ltInt dk[a]! x) dk j i) (hj : j2 = scanDown (fun x => ltInt dk[a]! x) dk i2 j) (h : j2 < i2) : partEqLoop ltInt a i j dk = (i2, dk) := by
  rw [partEqLoop_eq, ← hi, ← hj, if_pos h]
theorem peq_go (a i j : Nat) (dk : Array Int) {i2 j2 : Nat} (hi : i2 = scanUp (fun x => !ltInt dk[a]! x) dk j i) (hj : j2 = scanDown (fun x => ltInt dk[a]! x) dk i2 j) (h : ¬ j2 < i2) :
    partEqLoop ltInt a i j dk = partEqLoop ltInt a (i2 + 1) (j2 - 1) (swp dk i2 j2) := by
  rw [partEqLoop_eq, ← hi, ← hj, if_neg h]
set_option maxRecDepth 100000 in
set_option maxHeartbeats 2000000 in
theorem oPeq (blk off cap a b pv n : Nat) (d : Array Int) (w : World) (hn : d.size = n) (hH : Holds E32 w blk off d) (hap : a ≤ pv) (hpb : pv < b) (hb : b ≤ n) (hsz : n < 4611686018427387904) :
    Calls Tryz.prog 144 #[.slice (some ⟨blk, off, none⟩) n cap, .int .i64 a, .int .i64 b, .int .i64 pv] w fun e w' =>
      e = .returned (.int .i64 (partitionEqual ltInt d a b pv).1) ∧ SW w blk off (partitionEqual ltInt d a b pv).2 w' := by
  obtain ⟨G0, hG⟩ : ∃ G : Nat → Int, ∀ t, G t = d[t]! := ⟨fun t => d[t]!, fun _ => rfl⟩
  have hcw := (SW.refl hH).cells hG hn
  have hfw := (SW.refl hH).thaw hn
  have HS1 := Lib.hid ((SW.refl hH).swapq hG (i := a) (j := pv) (by omega) (by omega) 0 1)
  obtain ⟨v0, hy0⟩ := cell?_setCell_some (w := w) (p := ⟨blk, off + a, none⟩) (x := .int .i32 (G0 pv)) (q := ⟨blk, off + pv, none⟩) (hcw pv (by omega))
  have HN := Lib.hid hn
  clear hG hH hn
  go_enter Tryz.func144, Tryz.ntmps144
  go_wp2
  go_region
  go_wp2_with fail
  replace HS1 : Hid (SW w blk off (swp d a pv) ((w.setCell ⟨blk, off + a, none⟩ (.int .i32 (G0 pv))).setCell ⟨blk, off + pv, none⟩ (.int .i32 (G0 a))).drew) := HS1
  generalize ((w.setCell ⟨blk, off + a, none⟩ (.int .i32 (G0 pv))).setCell ⟨blk, off + pv, none⟩ (.int .i32 (G0 a))).drew = w0 at HS1 ⊢
  clear hcw hfw v0 hy0
  have EP := Lib.hid (show partitionEqual ltInt d a b pv = partEqLoop ltInt a (a + 1) (b - 1) (swp d a pv) from rfl)
  go_wp2
  go_loopw [9, 10] (fun vi vj wr => ∃ (i j : Nat) (dk : Array Int), vi = .int .i64 i ∧ vj = .int .i64 j ∧ a < i ∧ i ≤ j + 1 ∧ j < b ∧ Hid (dk.size = n ∧ SW w blk off dk wr ∧ partEqLoop ltInt a i j dk = partEqLoop ltInt a (a + 1) (b - 1) (swp d a pv))) (fun vi vj _ => (RowKit.intOf vj).toNat + 1 - (RowKit.intOf vi).toNat)
  case atStart => exact ⟨a + 1, b - 1, swp d a pv, by go_num, by go_num, by omega, by omega, by omega, Lib.hid ⟨by rw [size_swp]; exact HN.out, HS1.out, rfl⟩⟩
  case round =>
    obtain ⟨i, j, dk, rfl, rfl, hai, hij, hjb, hh⟩ := hrel
    clear HS1
    obtain ⟨G, hG⟩ : ∃ G : Nat → Int, ∀ t, G t = dk[t]! := ⟨fun t => dk[t]!, fun _ => rfl⟩
    have HG := Lib.hid hG
    have HD := Lib.hid hh.out.1
    have HS0 := Lib.hid hh.out.2.1
    have HE := Lib.hid hh.out.2.2
    clear hG hh
    go_wp2
    go_loopw [9] (fun vi w1 => ∃ i' : Nat, vi = .int .i64 i' ∧ i ≤ i' ∧ i' ≤ j + 1 ∧ Hid (SW w blk off dk w1 ∧ scanUp (fun x => !ltInt dk[a]! x) dk j i' = scanUp (fun x => !ltInt dk[a]! x) dk j i)) (fun vi _ => j + 1 - (RowKit.intOf vi).toNat)
    case atStart => exact ⟨i, by go_num, Nat.le_refl _, hij, Lib.hid ⟨HS0.out, rfl⟩⟩
    case round =>
      obtain ⟨i', rfl, hii, hij', hs1⟩ := hrel
      have hcw := hs1.out.1.cells HG.out HD.out
      clear HS0
      by_cases hle : i' ≤ j
      · go_wp2_with fail
        go_big_quiet (first | (go_at_call 118; refine Calls.quiet_of_same (oLess _ _ _)))
        go_wp2_with fail
        · have ht : (!ltInt (G a) (G i')) = true := by assumption
          go_wp2
          go_roundw
          case rel => exact ⟨i' + 1, by go_num, by omega, by omega, Lib.hid ⟨hs1.out.1.drewN nq, (scanUp_go (fun x => !ltInt dk[a]! x) dk j i' hle (by show (!ltInt dk[a]! dk[i']!) = true; rw [← HG.out, ← HG.out]; exact ht)).symm.trans hs1.out.2⟩⟩
          case measure => simp [RowKit.intOf]; omega
        · have ht : (!ltInt (G a) (G i')) = false := by assumption
          have hi2 : Hid (i' = scanUp (fun x => !ltInt dk[a]! x) dk j i) := Lib.hid ((scanUp_end (fun x => !ltInt dk[a]! x) dk j i' (.inr (by show (!ltInt dk[a]! dk[i']!) = false; rw [← HG.out, ← HG.out]; exact ht))).symm.trans hs1.out.2)
          have HT := Lib.hid ht
          have HS := Lib.hid (hs1.out.1.drewN nq)
          clear ht hcw hs1
          generalize wr.drewN nq = w3 at HS ⊢
          clear nq
          go_loopw [10] (fun vj w2 => ∃ j' : Nat, vj = .int .i64 j' ∧ j' ≤ j ∧ i' ≤ j' + 1 ∧ Hid (SW w blk off dk w2 ∧ scanDown (fun x => ltInt dk[a]! x) dk i' j' = scanDown (fun x => ltInt dk[a]! x) dk i' j)) (fun vj _ => (RowKit.intOf vj).toNat)
          case atStart => exact ⟨j, by go_num, Nat.le_refl _, hij', Lib.hid ⟨HS.out, rfl⟩⟩
          case round =>
            obtain ⟨j', rfl, hjj, hij2, hs2⟩ := hrel
            have hcw := hs2.out.1.cells HG.out HD.out
            clear HS
            by_cases hle2 : i' ≤ j'
            · go_wp2_with fail
              go_big_quiet (first | (go_at_call 118; refine Calls.quiet_of_same (oLess _ _ _)))
              go_wp2_with fail
              · have ht : ltInt (G a) (G j') = true := by assumption
                go_wp2
                go_roundw
                case rel => exact ⟨j' - 1, by go_num, by omega, by omega, Lib.hid ⟨hs2.out.1.drewN nq, (scanDown_go (fun x => ltInt dk[a]! x) dk i' j' hle2 (by omega) (by show ltInt dk[a]! dk[j']! = true; rw [← HG.out, ← HG.out]; exact ht)).symm.trans hs2.out.2⟩⟩
                case measure => simp [RowKit.intOf]; omega
              · have ht : ltInt (G a) (G j') = false := by assumption
                have hj2 : Hid (j' = scanDown (fun x => ltInt dk[a]! x) dk i' j) := Lib.hid ((scanDown_end (fun x => ltInt dk[a]! x) dk i' j' (.inr (by show ltInt dk[a]! dk[j']! = false; rw [← HG.out, ← HG.out]; exact ht))).symm.trans hs2.out.2)
                have hlt3 : i' < j' := by
                  rcases Nat.lt_or_ge i' j' with h | h
                  · exact h
                  · have e : i' = j' := by omega
                    have := HT.out
                    rw [e] at this
                    cases hq : ltInt (G a) (G j') <;> cases hp : ltInt (G j') (G a) <;> simp [hq] at this ht
                have HS := Lib.hid (hs2.out.1.drewN nq)
                clear ht hcw hs2 HT
                generalize wr.drewN nq = w4 at HS ⊢
                clear nq
                have hcw := HS.out.cells HG.out HD.out
                have hfw := HS.out.thaw HD.out
                obtain ⟨v3, hy3⟩ := cell?_setCell_some (w := w4) (p := ⟨blk, off + i', none⟩) (x := .int .i32 (G j')) (q := ⟨blk, off + j', none⟩) (hcw j' (by omega))
                go_wp2
                go_region
                all_goals go_wp2
                all_goals go_roundw
                case rel => exact ⟨i' + 1, j' - 1, swp dk i' j', by go_num, by go_num, by omega, by omega, by omega, Lib.hid ⟨by rw [size_swp]; exact HD.out, HS.out.swapq HG.out (by have := HD.out; omega) (by have := HD.out; omega) 0 1, by rw [← HE.out]; exact (peq_go a i j dk hi2.out hj2.out (by omega)).symm⟩⟩
                case measure => simp [RowKit.intOf]; omega
            · go_wp2_with fail
              go_big_quiet (first | (go_at_call 118; refine Calls.quiet_of_same (oLess _ _ _)))
              go_wp2_with fail
              have hj2 : Hid (j' = scanDown (fun x => ltInt dk[a]! x) dk i' j) := Lib.hid ((scanDown_end (fun x => ltInt dk[a]! x) dk i' j' (.inl hle2)).symm.trans hs2.out.2)
              have HS := Lib.hid (hs2.out.1.drewN nq)
              clear hcw hs2
              generalize wr.drewN nq = w4 at HS ⊢
              clear nq
              go_wp2
              go_ret
              have e := (peq_stop a i j dk hi2.out hj2.out (by omega)).symm.trans HE.out
              rw [EP.out, ← e]
              exact ⟨rfl, HS.out⟩
      · go_wp2_with fail
        go_big_quiet (first | (go_at_call 118; refine Calls.quiet_of_same (oLess _ _ _)))
        go_wp2_with fail
        have hi2 : Hid (i' = scanUp (fun x => !ltInt dk[a]! x) dk j i) := Lib.hid ((scanUp_end (fun x => !ltInt dk[a]! x) dk j i' (.inl hle)).symm.trans hs1.out.2)
        have HS := Lib.hid (hs1.out.1.drewN nq)
        clear hcw hs1
        generalize wr.drewN nq = w3 at HS ⊢
        clear nq
        go_loopw [10] (fun vj w2 => ∃ j' : Nat, vj = .int .i64 j' ∧ j' ≤ j ∧ i' ≤ j' + 1 ∧ Hid (SW w blk off dk w2 ∧ scanDown (fun x => ltInt dk[a]! x) dk i' j' = scanDown (fun x => ltInt dk[a]! x) dk i' j)) (fun vj _ => (RowKit.intOf vj).toNat)
        case atStart => exact ⟨j, by go_num, Nat.le_refl _, hij', Lib.hid ⟨HS.out, rfl⟩⟩
        case round =>
          obtain ⟨j', rfl, hjj, hij2, hs2⟩ := hrel
          have hcw := hs2.out.1.cells HG.out HD.out
          clear HS
          by_cases hle2 : i' ≤ j'
          · exfalso; omega
          · go_wp2_with fail
            go_big_quiet (first | (go_at_call 118; refine Calls.quiet_of_same (oLess _ _ _)))
            go_wp2_with fail
            have hj2 : Hid (j' = scanDown (fun x => ltInt dk[a]! x) dk i' j) := Lib.hid ((scanDown_end (fun x => ltInt dk[a]! x) dk i' j' (.inl hle2)).symm.trans hs2.out.2)
            have HS := Lib.hid (hs2.out.1.drewN nq)
            clear hcw hs2
            generalize wr.drewN nq = w4 at HS ⊢
            clear nq
            go_wp2
            go_ret
            have e := (peq_stop a i j dk hi2.out hj2.out (by omega)).symm.trans HE.out
            rw [EP.out, ← e]
            exact ⟨rfl, HS.out⟩
end Go.Proofs.YthhepebkfokddaaGreatDoor
