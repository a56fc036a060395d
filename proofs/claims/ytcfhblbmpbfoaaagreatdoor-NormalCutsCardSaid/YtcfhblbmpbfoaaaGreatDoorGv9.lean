/- Parts of the proof of what the last text says. -/
import Derived.Test.YtcfhblbmpbfoaaaGreatDoorGv3
import Derived.Test.YtcfhblbmpbfoaaaGreatDoorGv7
import Derived.BigRegionIn
import Derived.LoopIn
import Derived.BigFrameIn
import Derived.Sort.MapsRangeIn
import Derived.Test.YtcfhblbmpbfoaaaGreatDoorGv8
namespace Go.Proofs.YtcfhblbmpbfoaaaGreatDoor
open Go Go.RowKit Go.Kt Go.Kt.Rg Go.Maps
attribute [local go_sem] Oper.semAt_some

theorem ranges_heap {H : Type} {P : Program} {k : TypeId} {R : Value → Option (DataW H × List MemPlace)} {b r n : Nat} {D : DataW H} {left : Lit → Bool} {cnt : Nat} {w w' : World}
    (h : w.ranges P k R b r n D left cnt) (hb : w'.heap[b]? = w.heap[b]?) (hr : w'.heap[r]? = w.heap[r]?) : w'.ranges P k R b r n D left cnt := by
  unfold World.ranges at h ⊢
  rw [hb, hr]
  exact h
def encK (x : Nat) : Array Value := #[.int .i32 (x : Nat)]
def OkK (vs : Nat → Option Value) (pre : List Nat) : Prop := pre.Nodup ∧ ∀ x ∈ pre, (vs x).isSome = true
def FinK (vs : Nat → Option Value) (L : List Nat) : Prop := L.Nodup ∧ ∀ x, x ∈ L ↔ (vs x).isSome = true

theorem pkeys_call (b : Nat) (w : World) :
    Calls Tryz.prog 103 #[.map (some b)] w fun e w' => e = .returned (.func (.func 147) #[] #[.pointer (some ⟨w.heap.size, 0, none⟩)]) ∧ w.alloc (.cells #[.map (some b)] 89) = w' := by
  go_enter Tryz.func103, Tryz.ntmps103
  go_wp2
  go_ret
  exact ⟨rfl, rfl⟩
theorem enters_keys : ∀ args w, (callFunc 147 args).run Tryz.prog w = .ok (.enter 147 args) w := enters_of Tryz.func147 (by kernel_rfl) rfl

set_option maxRecDepth 100000 in
set_option maxHeartbeats 4000000 in
theorem pkeys_iter (b n : Nat) (vs : Nat → Option Value) (bs : Nat) (w0 : World) (hbs : w0.cell? ⟨bs, 0, none⟩ = some (.map (some b))) (hM : MapG Tryz.prog 21 b n (ptF vs) w0) :
    Iter5 Tryz.prog 147 #[.pointer (some ⟨bs, 0, none⟩)] encK (OkK vs) (FinK vs) (fun _ => False) (fun x => x = bs ∨ x = b) w0 := by
  intro m X J Jx W hNd hX hsame hsz hJ hJx hSl hY h0
  have q1 : W.cell? ⟨bs, 0, none⟩ = some (.map (some b)) := (World.cell?_of_block (a := ⟨bs, 0, none⟩) (hsame bs (.inr (.inl rfl)))).trans hbs
  have hMW : MapG Tryz.prog 21 b n (ptF vs) W := hM.of_heap (hsame b (.inr (.inr rfl)))
  have hbW := hMW.lt
  obtain ⟨D, hown, hhas, hat⟩ := hMW
  have hXb : Hid (¬ X bs ∧ ¬ X b ∧ b < W.heap.size ∧ bs < W.heap.size) := Lib.hid ⟨hNd bs (.inr (.inl rfl)), hNd b (.inr (.inr rfl)), hbW, lt_of_cell q1⟩
  have HK := Lib.hid (And.intro hX (And.intro hJ (And.intro hJx (And.intro hSl hY))))
  have HH : Hid (∀ kl, WideAt.IsKeyLit kl → Maps.has D kl = (ptF vs kl).isSome) := Lib.hid hhas
  have hfn : ∀ k, Fence.wide.fn k := fun _ => trivial
  have hdep : Fence.wide.depth = none := rfl
  clear hNd hsame hsz hX hJ hJx hSl hY hhas hat hM hbs hbW
  refine (callsIn_wide (n := 0)).1 ?_
  refine callsIn_of_wp Tryz.func147 rfl trivial ?_ rfl
  simp only [Tryz.ntmps147, List.size_toArray, List.length_cons, List.length_nil, Nat.reduceAdd, Nat.reduceSub, Array.replicate_succ, Array.replicate_zero, List.push_toArray, List.append_toArray, List.nil_append, List.cons_append]
  gi_wp2_with (first | (gi_at_range; refine wpListIn_range_own _ rfl _ 89 rfl 21 _ (int_keyed Tryz.underlying21) Tryz.underlying89 _ b n D rfl hown ?_; intro w1 hrg0 hg0 hs0) | fail)
  have hJ1 : J [] (fun _ => False) w1 := HK.out.2.1 _ _ _ _ ((keep_grown hg0).weaken (fun _ _ h => by cases h)) h0
  have hk1 : Keep (fun b => X b ∨ False) W w1 := (keep_grown hg0).weaken (fun _ _ h => by cases h)
  have hat0 : ∀ x : Nat, Maps.has D (.int .i32 (x : Nat)) = (vs x).isSome := fun x => by
    have h := HH.out (.int .i32 (x : Nat)) trivial
    rw [ptF_at] at h
    exact h
  have H1 := Lib.hid (And.intro hJ1 (And.intro hk1 (And.intro hrg0 hat0)))
  have hs1 : Hid (w1.heap.size = W.heap.size + 1) := Lib.hid hs0
  clear hJ1 hk1 hrg0 hat0 hg0 hs0 h0 hown q1
  gi_wp2_with fail
  go_frame
  gi_loopw [3] (fun _ wr => ∃ (left : Lit → Bool) (cnt : Nat) (pre : List Nat) (Y : Nat → Prop), wr.ranges Tryz.prog 21 rawR b W.heap.size n D left cnt ∧ OkK vs pre ∧ (∀ kl, left kl = true → Maps.has D kl = true) ∧ (∀ x : Nat, left (.int .i32 (x : Nat)) = true ↔ (vs x).isSome = true ∧ x ∉ pre) ∧ (∀ y, Y y → W.heap.size < y) ∧ J pre Y wr ∧ Keep (fun b => X b ∨ False) W wr)
    (fun _ wr => wr.rangeLeft b W.heap.size)
  case atStart => exact ⟨Maps.has D, _, [], _, H1.out.2.2.1, ⟨List.nodup_nil, fun _ h => by cases h⟩, fun _ h => h, fun x => by rw [H1.out.2.2.2]; simp, fun _ h => h.elim, H1.out.1, H1.out.2.1⟩
  case round =>
    obtain ⟨left, cnt, pre, Y, hrg, hok, hlh, hlp, hYl, hJs, hkp⟩ := hrel
    have HI := Lib.hid (And.intro hok (And.intro hlh (And.intro hlp (And.intro hYl (And.intro hJs hkp)))))
    have HRG := Lib.hid hrg
    clear hok hlh hlp hYl hJs hkp
    gi_wp2_with (first | (gi_at_next; refine wpListIn_next_ranges _ rfl _ rfl 21 (int_keyed Tryz.underlying21) rawR (Value.int .i32) (fun v : Value => v) (fun key kl hkey => by obtain ⟨x, rfl, _⟩ := Maps.keyOf_int_inv Tryz.underlying21 hkey; exact ⟨x, rfl⟩) (fun v y _ => ⟨v, rfl⟩) b W.heap.size n D left cnt rfl hrg ?_ ?_) | fail)
    · intro hc0 hl0
      have hfin : FinK vs pre := ⟨HI.out.1.1, fun x => ⟨HI.out.1.2 x, fun h => Decidable.byContradiction fun hx => by
        have := (HI.out.2.2.1 x).2 ⟨h, hx⟩
        rw [hl0] at this
        cases this⟩⟩
      have HF := Lib.hid hfin
      clear hfin hl0 hc0 hrg
      gi_wp2_with fail
      go_end0
      exact ⟨⟨_, rfl⟩, HI.out.2.2.2.2.2, .inl ⟨pre, Y, HF.out, fun y hy => by have := HI.out.2.2.2.1 y hy; omega, HI.out.2.2.2.2.1⟩⟩
    · intro z c kl y1 y2 w2 cnt2 hkey hlk hv hat hrg2 hlt hgr hsz2 hen
      obtain ⟨z', ez, rfl, hwf⟩ := Maps.keyOf_int_inv Tryz.underlying21 hkey
      cases ez
      have hz0 : (ptF vs (.int .i32 z)).isSome = true := by rw [← HH.out (.int .i32 z) trivial]; exact HI.out.2.1 _ hlk
      have hzp : 0 ≤ z := by
        refine Decidable.byContradiction fun h => ?_
        unfold ptF at hz0
        simp only [if_neg h] at hz0
        cases hz0
      obtain ⟨x, rfl⟩ := Int.eq_ofNat_of_zero_le hzp
      have hx := (HI.out.2.2.1 x).1 hlk
      have hk2 : Keep (fun b => b = W.heap.size) wr w2 := (keep_grown hgr).weaken (fun y _ h => by cases h; rfl)
      have hYr : ¬ Y W.heap.size := fun h => by have := HI.out.2.2.2.1 _ h; omega
      have hJ2 : J pre Y w2 := HK.out.2.1 _ _ _ _ (hk2.weaken (fun y _ h => ⟨.inr (by omega), by rw [h]; exact hYr⟩)) HI.out.2.2.2.2.1
      have hkW2 : Keep (fun b => X b ∨ False) W w2 := by
        have hk3 := HI.out.2.2.2.2.2
        exact ⟨hk2.os.trans hk3.os, hk2.tape.trans hk3.tape, hk2.output.trans hk3.output, Nat.le_trans hk3.size hk2.size, fun b hb hx => (hk2.same b (Nat.lt_of_lt_of_le hb hk3.size) (fun h => by omega)).trans (hk3.same b hb hx)⟩
      have hnd : (pre ++ [x]).Nodup := by
        rw [List.nodup_append]
        refine ⟨HI.out.1.1, by simp, fun a ha c hc => ?_⟩
        rw [List.mem_singleton.1 hc]
        exact fun e => hx.2 (e ▸ ha)
      have hmm : ∀ y ∈ pre ++ [x], (vs y).isSome = true := fun y hy => by
        rcases List.mem_append.1 hy with hy | hy
        · exact HI.out.1.2 y hy
        · rw [List.mem_singleton.1 hy]; exact hx.1
      have hok2 : OkK vs (pre ++ [x]) := ⟨hnd, hmm⟩
      clear hnd hmm
      have hyy : YieldAt Fence.wide 0 Tryz.prog m #[.int .i32 (x : Nat)] w2 _ := HK.out.2.2.2.2 pre x Y w2 hok2 hJ2 hkW2.size (fun y hy => by have := HI.out.2.2.2.1 y hy; omega)
      obtain ⟨fn, tmps, assign, body, hy, hR⟩ := hyy
      have hlx : ∀ y : Nat, (left (.int .i32 (y : Nat)) && !(Lit.int .i32 (y : Nat)).sameKey (.int .i32 (x : Nat))) = true ↔ (vs y).isSome = true ∧ y ∉ pre ++ [x] := fun y => by
        rw [Bool.and_eq_true, HI.out.2.2.1 y]
        by_cases e : y = x
        · subst e
          rw [WideAt.sameKey_self (a := .int .i32 (y : Nat)) trivial]
          simp
        · rw [sameKey_ne (fun h => by injection h with _ h; exact e (by omega))]
          simp [e]
      have H2 := Lib.hid (And.intro hkW2 (And.intro hrg2 (And.intro hlx (And.intro hok2 (And.intro hlt hYr)))))
      clear hk2 hJ2 hkW2 hok2 hlx hx hz0 hzp hlk hv hat hrg2 hlt hgr hsz2 hwf hkey hrg hYr
      gi_wp2_with fail
      refine hR.mono ?_
      rintro e3 V3 ⟨Y', hk4, hY', (⟨rfl, hJ3⟩ | ⟨rfl, hJx3⟩)⟩
      all_goals have hk3 := H2.out.1
      all_goals have hzk := hk3.size
      all_goals have hkW : Keep (fun b => X b ∨ False) W V3 := ⟨hk4.os.trans hk3.os, hk4.tape.trans hk3.tape, hk4.output.trans hk3.output, Nat.le_trans hk3.size hk4.size, fun b hb hx => (hk4.same b (Nat.lt_of_lt_of_le hb hk3.size) (fun h => by rcases h with h | h; exact hx (.inl h); have := HI.out.2.2.2.1 b h; omega)).trans (hk3.same b hb hx)⟩
      all_goals have hYl2 : ∀ b, Y' b → W.heap.size < b := fun b hb => by rcases hY' b hb with h | h; exact HI.out.2.2.2.1 b h; have := H2.out.2.1.lt; omega
      · have hrg3 := ranges_heap H2.out.2.1 (hk4.same b (by have := hXb.out.2.2.1; omega) (fun h => by
          rcases h with h | h
          · exact hXb.out.2.1 h
          · have := HI.out.2.2.2.1 b h; have := hXb.out.2.2.1; omega)) (hk4.same W.heap.size H2.out.2.1.lt (fun h => by
          rcases h with h | h
          · have := HK.out.1 _ h; omega
          · exact H2.out.2.2.2.2.2 h))
        have HF := Lib.hid (And.intro hYl2 (And.intro hJ3 (And.intro hkW hrg3)))
        clear hk4 hk3 hYl2 hJ3 hkW hrg3 hY'
        gi_wp2_with fail
        go_roundw
        case rel => exact ⟨_, cnt2, pre ++ [x], Y', HF.out.2.2.2, H2.out.2.2.2.1, fun kl h => HI.out.2.1 kl (by rw [Bool.and_eq_true] at h; exact h.1), H2.out.2.2.1, HF.out.1, HF.out.2.1, HF.out.2.2.1⟩
        case measure => rw [HF.out.2.2.2.left_eq, HRG.out.left_eq]; exact H2.out.2.2.2.2.1
      · have HF := Lib.hid (And.intro hYl2 (And.intro hJx3 hkW))
        clear hk4 hk3 hYl2 hJx3 hkW hY'
        gi_wp2_with fail
        refine bodyPost_ret (results_none rfl _ _ _) rfl ?_
        exact ⟨⟨_, rfl⟩, HF.out.2.2, .inr ⟨_, Y', H2.out.2.2.2.1, fun y hy => by have := HF.out.1 y hy; omega, HF.out.2.1⟩⟩
end Go.Proofs.YtcfhblbmpbfoaaaGreatDoor
namespace Go.Proofs.YtcfhblbmpbfoaaaGreatDoor
open Go Go.RowKit Go.Kt Go.Kt.Rg Go.Maps
attribute [local go_sem] Oper.semAt_some

theorem tinfoI32 : (Tryz.prog.info? 21).map (fun i => (i.zero, i.size, i.bytes)) = some (some (.int .i32 0), 1, 4) := by kernel_rfl
def encN (l : List Nat) : List Value := l.map fun x => .int .i32 (x : Nat)
theorem encN_snoc (l : List Nat) (x : Nat) : encN (l ++ [x]) = encN l ++ [.int .i32 (x : Nat)] := by simp [encN]
theorem nodup_le : ∀ (N : Nat) (l : List Nat), l.Nodup → (∀ x ∈ l, x < N) → l.length ≤ N
  | 0, l, _, h => by
    cases l with
    | nil => exact Nat.le_refl _
    | cons x t => exact absurd (h x List.mem_cons_self) (by omega)
  | N + 1, l, hn, h => by
    have h1 := nodup_le N (l.erase N) (hn.erase N) (fun x hx => by
      have h2 := h x (List.mem_of_mem_erase hx)
      have h3 : x ≠ N := fun e => (hn.not_mem_erase (a := N)) (e ▸ hx)
      omega)
    have h4 := List.length_erase (a := N) (l := l)
    split at h4 <;> omega

def AppI (n : Nat) (pre : List Nat) (Y : Nat → Prop) (W : World) : Prop := ∃ ao cv, W.heap[n]? = some (.cells #[.slice ao pre.length cv] 22 (0, 0)) ∧ OwnS (fun b => Y b) 21 1 (.slice ao pre.length cv) pre.length (encN pre) W

set_option maxRecDepth 100000 in
set_option maxHeartbeats 2000000 in
theorem pappend_any (vs : Nat → Option Value) (gf : Nat) (lb : Array Value) (Nd : Nat → Prop) (w w0 : World) (eg : ∀ args w, (callFunc gf args).run Tryz.prog w = .ok (.enter gf args) w)
    (hit : Iter5 Tryz.prog gf lb encK (OkK vs) (FinK vs) (fun _ => False) Nd w0) (hNd : ∀ b, Nd b → b < w.heap.size) (hNdw : ∀ b, Nd b → w.heap[b]? = w0.heap[b]?) (hw0 : w0.heap.size ≤ w.heap.size) (hbd : ∀ x, (vs x).isSome = true → x < 1114112) :
    Calls Tryz.prog 170 #[.slice none 0 0, .func (.func gf) #[] lb] w fun e w' => ∃ L ao cp, FinK vs L ∧ e = .returned (.slice ao L.length cp) ∧ OwnS (fun b => w.heap.size ≤ b) 21 1 (.slice ao L.length cp) L.length (encN L) w' ∧ Below w.heap.size w w' := by
  obtain ⟨n, hn⟩ : ∃ n, w.heap.size = n := ⟨_, rfl⟩
  have hfn : ∀ k, Fence.wide.fn k := fun _ => trivial
  have hdep : Fence.wide.depth = none := rfl
  refine (callsIn_wide (n := 0)).1 ?_
  refine callsIn_of_wp_marks Tryz.func170 rfl trivial ?_ rfl
  simp only [Tryz.ntmps170, List.size_toArray, List.length_cons, List.length_nil, Nat.reduceAdd, Nat.reduceSub, Array.replicate_succ, Array.replicate_zero, List.push_toArray, List.append_toArray, List.nil_append, List.cons_append]
  obtain ⟨w1, hw1⟩ : ∃ w1, w.alloc (.cells #[.slice none 0 0] 22) = w1 := ⟨_, rfl⟩
  have hz1 : w1.heap.size = n + 1 := by rw [← hw1]; simp [hn]
  have b0 : w1.heap[n]? = some (.cells #[.slice none 0 0] 22 (0, 0)) := by rw [← hw1]; exact alloc_at hn.symm
  have hb1 : Below n w w1 := by rw [← hw1]; exact (Below.refl _ _).alloc (by omega) _
  have HW1 := Lib.hid hw1
  have HIT := Lib.hid hit
  have HN := Lib.hid hn
  have HBD := Lib.hid hbd
  clear hw1 hit hbd
  gi_wp2_with fail
  rw [HW1.out]
  refine loop_out5 (gf := gf) (lb := lb) (encs := encK) rfl eg
    HIT.out (fun _ => rfl) (X := fun b => b = n)
    (fun b hb => by omega) (fun b hb => ?nd) (fun b hb => ?ndw) (by rw [HN.out] at hw0; omega)
    (AppI n)
    (fun _ _ _ _ => False)
    (fun pre Y W W' hk h' => by
      obtain ⟨ao, cv, h1, h2⟩ := h'
      exact ⟨ao, cv, hk.heap h1 (fun hx => by rcases hx.1 with h | h; exact h; omega), h2.keep hk (fun b hx hy => hx.2 hy)⟩)
    (fun pre Y W h' => by
      obtain ⟨ao, cv, h1, h2⟩ := h'
      exact ⟨ao, cv, h1, h2.1, fun b hb => ⟨h2.2 b hb, (h2.1.lt b hb).2⟩⟩)
    (fun _ _ _ _ _ _ h => h) ⟨_, _, b0, own_nil _ _ _ _⟩ ?round ?done ?stop
  case nd =>
    rcases hb with hb | hb
    · exact hb.elim
    · have := hNd b hb
      rw [HN.out] at this
      exact ⟨by omega, by omega⟩
  case ndw =>
    rcases hb with hb | hb
    · exact hb.elim
    · exact (hb1.block b (by have := hNd b hb; rw [HN.out] at this; omega)).trans (hNdw b hb)
  case stop => intro D c pre Y W _ _ _ h; exact h.elim
  case round =>
    rintro l' hl' pre x Y W hpre hi' hk hY hlt hr
    simp only [encK]
    have HI := Lib.hid hi'
    have hlen : pre.length < 1114112 := by
      have := nodup_le 1114112 (pre ++ [x]) hpre.1 (fun y hy => HBD.out y (hpre.2 y hy))
      simp at this
      omega
    have HPre := Lib.hid hpre
    have HY := Lib.hid hY
    have HK := Lib.hid hk
    have HR := Lib.hid hr
    clear eg hNd hNdw hi' hk hpre hY hr
    gi_wp2
    refine ⟨Keep.refl _ _, ?_⟩
    rintro W2 hk1 hk2 ⟨ao, cv, hv, hown⟩ rl hr2
    have hYY := HY.out
    have hW := HK.out.size
    have hz2 : n < W2.heap.size := by have := hk2.size; omega
    have hYn : ∀ b, Y b → b ≠ n := fun b hb => by have := (hYY b hb).1; omega
    obtain ⟨v, hvv⟩ : ∃ v, Value.slice ao pre.length cv = v := ⟨_, rfl⟩
    rw [hvv] at hown hv
    obtain ⟨g, cap, w3, hrun, hown3, hk3, hg3, hz3⟩ := append_x (P := Tryz.prog) W2 22 21 Tryz.underlying22 tinfoI32 rfl (by omega) hown [.int .i32 (x : Nat)] rfl
      (by intro u hu; simp at hu; rcases hu with rfl; rfl) (by unfold maxLen; omega) (by omega)
    have hvY : ∀ b, v.ownBlock = some b → Y b := hown.2
    have hg3Y : Y g ∨ W2.heap.size ≤ g := by
      rcases hg3 with hx | hx
      · exact .inl (hvY g hx)
      · exact .inr (by omega)
    have hgn : g ≠ n := by
      rcases hg3Y with hx | hx
      · exact hYn g hx
      · omega
    have k0 := cell_one hv
    have hvn : ∀ b, v.ownBlock = some b → b ≠ n := fun b hx => hYn b (hvY b hx)
    have hv3 : w3.heap[n]? = some (.cells #[v] 22 (0, 0)) := hk3.heap hv (fun hx => hvn n hx rfl)
    obtain ⟨w4, hw4⟩ : ∃ w4, w3.setCell ⟨n, 0, none⟩ (.slice (some ⟨g, 0, none⟩) (pre.length + 1) cap) = w4 := ⟨_, rfl⟩
    have hk4 : Keep (fun b => b = n) w3 w4 := by rw [← hw4]; exact Keep.setCell (X := fun b => b = n) (p := ⟨n, 0, none⟩) (Keep.refl _ _) rfl _
    have hv4 : w4.heap[n]? = some (.cells #[.slice (some ⟨g, 0, none⟩) (pre.length + 1) cap] 22 (0, 0)) := by rw [← hw4]; exact set_at hv3
    have hown4 := hown3.keep hk4 (fun b hb hy => hgn (by rw [← hy, hb]))
    have k3 := cell_one hv3
    have f3 := frozen_one hv3
    have hfin : Kt.Left (fun b => b = n) Y (AppI n) (pre ++ [x]) W2 w4 := by
      refine ⟨fun b => b = g, ?_, ?_, some ⟨g, 0, none⟩, cap, ?_, ?_⟩
      · exact (hk3.weaken (Y := fun b => b = n ∨ Y b) (fun b _ hx => .inr (hvY b hx))).trans (hk4.weaken fun b _ hx => .inl hx)
      · rintro b rfl
        exact hg3Y
      · have e1 : (pre ++ [x]).length = pre.length + 1 := by simp
        rw [e1]; exact hv4
      · have e1 : (pre ++ [x]).length = pre.length + 1 := by simp
        rw [e1, encN_snoc]
        exact hown4
    have HF := Lib.hid hfin
    have H3 := Lib.hid hrun
    have HW4 := Lib.hid hw4
    clear hfin hrun hw4 hown hown3 hown4 hk3 hk4 hg3 hvY hvn hv hv3 hv4 hg3Y hYY hYn hk1 hk2 hr2 hgn hlen
    gi_wp2_with (first | (refine wpListIn_append_eq (o := ⟨some 11, _, _, _, _, _⟩) (by rfl) (by rfl) (by rfl) (by rfl) H3.out ?_))
    rw [HW4.out]
    exact HF.out
  case done =>
    rintro D L Y W hFin hD hDd ⟨ao, cv, hv, hown⟩ hY hkW
    have hk2 : Below n w W := hb1.trans ((hkW.weaken (Y := fun b => b = n) (fun b _ h => by rcases h with h | h; exact h; exact h.elim)).below (by omega) (fun b hb => by omega))
    have b2 := cell_one hv
    have HF := Lib.hid (And.intro hown (And.intro hk2 (And.intro hY hFin)))
    have HDD := Lib.hid hDd
    have hDn : Hid (n + 1 ≤ D) := Lib.hid (by omega)
    clear hown hk2 hkW hY hDd eg hNd hNdw hw0 hFin
    gi_wp2
    refine leaves_marks (Ds := [D]) (by simp) (fun D' h => by simp at h; subst h; exact HDD.out) (fun W' hk' => ⟨_, results_tmp rfl _ _ _, ?_⟩)
    obtain ⟨ho, hkk, hY, hFin⟩ := HF.out
    have hk' : Keep (fun b => b = D) W W' := hk'.weaken fun b _ hb => by simpa using hb
    have ho2 := ho.keep hk' (fun b hb hy => (hY b hy).2 hb)
    rw [HN.out]
    refine ⟨L, _, _, hFin, rfl, ho2.weaken (fun b hy => ?_), hkk.trans (hk'.below (by have := hkk.size; rw [HN.out] at this; omega) (fun b hb => by have := hDn.out; omega))⟩
    have := (hY b hy).1
    omega
end Go.Proofs.YtcfhblbmpbfoaaaGreatDoor
namespace Go.Proofs.YtcfhblbmpbfoaaaGreatDoor
open Go Go.RowKit Go.Kt Go.Kt.Rg Go.Maps

theorem ptsA_ok : ∀ (ws : List (List UInt8)) (acc l : List Nat), ptsA acc ws = (0, l) → (∀ x ∈ acc, Lib.validRune (x : Int) = true) → l.length = acc.length + ws.length ∧ ∀ x ∈ l, Lib.validRune (x : Int) = true
  | [], acc, l, h, ha => by
    rw [ptsA] at h
    obtain ⟨_, rfl⟩ := Prod.mk.inj h
    exact ⟨by simp, ha⟩
  | x :: t, acc, l, h, ha => by
    cases hx : numP x with
    | none => rw [ptsA_no hx] at h; cases h
    | some n =>
      cases hv : Lib.validRune (n : Int) with
      | false => rw [ptsA_bad hx hv] at h; cases h
      | true =>
        rw [ptsA_go hx hv] at h
        obtain ⟨h1, h2⟩ := ptsA_ok t (acc ++ [n]) l h (fun y hy => by
          rcases List.mem_append.1 hy with hy | hy
          · exact ha y hy
          · rw [List.mem_singleton.1 hy]; exact hv)
        exact ⟨by rw [h1]; simp; omega, h2⟩
theorem ptsP_ok {ws : List (List UInt8)} {l : List Nat} (h : ptsP ws = (0, l)) : l.length = ws.length ∧ ws.length ≤ 9 ∧ ∀ x ∈ l, Lib.validRune (x : Int) = true := by
  unfold ptsP at h
  by_cases h9 : 9 < ws.length
  · rw [if_pos h9] at h; cases h
  · rw [if_neg h9] at h
    have := ptsA_ok ws [] l h (fun _ h => by cases h)
    exact ⟨by simpa using this.1, by omega, this.2⟩
theorem valid_le {x : Nat} (h : Lib.validRune (x : Int) = true) : x ≤ 1114111 := by
  simp [Lib.validRune] at h
  omega

def foldP (S : RdS) (ws : List (List UInt8)) : Nat × RdS := match ptsP ws with
  | (0, x :: t) => if (S.fs x).isSome then (13, S) else (0, { S with fs := updN S.fs x t })
  | (no, _) => (no, S)
def dcmP (line : Nat) (S : RdS) (ws : List (List UInt8)) : Nat × RdS := match ptsP ws with
  | (0, x :: t) => if (S.ds x).isSome then (13, S) else if hanP x then (1, S) else (0, { S with ds := updN S.ds x t, ls := updN S.ls x line })
  | (no, _) => (no, S)
theorem foldP_no {S : RdS} {ws : List (List UInt8)} {no : Nat} {l : List Nat} (h : ptsP ws = (no, l)) (h0 : no ≠ 0) : foldP S ws = (no, S) := by
  unfold foldP
  rw [h]
  split
  · rename_i e; exact absurd (Prod.mk.inj e).1 h0
  · rename_i e; rw [(Prod.mk.inj e).1]
theorem dcmP_no {line : Nat} {S : RdS} {ws : List (List UInt8)} {no : Nat} {l : List Nat} (h : ptsP ws = (no, l)) (h0 : no ≠ 0) : dcmP line S ws = (no, S) := by
  unfold dcmP
  rw [h]
  split
  · rename_i e; exact absurd (Prod.mk.inj e).1 h0
  · rename_i e; rw [(Prod.mk.inj e).1]

theorem DecM.mono {ρ : Nat → Nat} {k B n n' : Nat} {d : Nat → Option (List Nat)} {w : World} (h : DecM ρ k B n d w) (hn : n ≤ n') : DecM ρ k B n' d w := by
  obtain ⟨h0, vs, h1, h2⟩ := h
  exact ⟨h0, vs, h1.mono hn, h2⟩
theorem RdW.mono {B0 : Nat} {ρ : Nat → Nat} {R : RdB} {line n n' m : Nat} {S : RdS} {cv kv : Value} {w : World} (h : RdW B0 ρ R line n m S cv kv w) (hn : n ≤ n') : RdW B0 ρ R line n' m S cv kv w :=
  ⟨h.hr, h.hB, h.g, h.cell, h.c, h.k, h.d.mono hn, h.f.mono hn, ⟨h.l.1, h.l.2.mono hn⟩, h.e, h.s⟩
section
variable {B0 : Nat} {ρ : Nat → Nat} {R : RdB} {line n m : Nat} {S : RdS} {cv kv : Value} {w w' : World}
theorem RdW.newf (h : RdW B0 ρ R line n m S cv kv w) {fs' : Nat → Option (List Nat)} (hk : Keep (fun b => b = R.bf) w w') (hf : DecM ρ 5 R.bf (n + 1) fs' w') : RdW B0 ρ R line (n + 1) m { S with fs := fs' } cv kv w' := by
  have H := h.mono (Nat.le_succ n)
  have hX : ∀ b, b = R.bf → ρ b = 5 := fun b e => by rw [e]; exact h.f.1
  exact {
    hr := H.hr, hB := Nat.le_trans h.hB hk.size, g := H.g, cell := hk.heap H.cell (fun e => by have := hX _ e; have := H.g; omega)
    c := H.c.keep hk (fun b hb h3 => by have := hX b hb; omega)
    k := H.k.keep hk (fun b hb h3 => by have := hX b hb; omega)
    d := H.d.keep hk (fun b hb => by have := hX b hb; omega)
    f := hf
    l := ⟨H.l.1, H.l.2.keep hk (fun hb => by have := hX _ hb; have := H.l.1; omega)⟩
    e := ⟨H.e.1, H.e.2.keep hk (fun hb => by have := hX _ hb; have := H.e.1; omega)⟩
    s := ⟨H.s.1, H.s.2.keep hk (fun hb => by have := hX _ hb; have := H.s.1; omega)⟩ }
theorem RdW.newd (h : RdW B0 ρ R line n m S cv kv w) {ds' : Nat → Option (List Nat)} (hk : Keep (fun b => b = R.bd) w w') (hf : DecM ρ 4 R.bd (n + 1) ds' w') : RdW B0 ρ R line (n + 1) m { S with ds := ds' } cv kv w' := by
  have H := h.mono (Nat.le_succ n)
  have hX : ∀ b, b = R.bd → ρ b = 4 := fun b e => by rw [e]; exact h.d.1
  exact {
    hr := H.hr, hB := Nat.le_trans h.hB hk.size, g := H.g, cell := hk.heap H.cell (fun e => by have := hX _ e; have := H.g; omega)
    c := H.c.keep hk (fun b hb h3 => by have := hX b hb; omega)
    k := H.k.keep hk (fun b hb h3 => by have := hX b hb; omega)
    f := H.f.keep hk (fun b hb => by have := hX b hb; omega)
    d := hf
    l := ⟨H.l.1, H.l.2.keep hk (fun hb => by have := hX _ hb; have := H.l.1; omega)⟩
    e := ⟨H.e.1, H.e.2.keep hk (fun hb => by have := hX _ hb; have := H.e.1; omega)⟩
    s := ⟨H.s.1, H.s.2.keep hk (fun hb => by have := hX _ hb; have := H.s.1; omega)⟩ }
theorem RdW.newl (h : RdW B0 ρ R line (n + 1) m S cv kv w) {ls' : Nat → Option Nat} (hk : Keep (fun b => b = R.bl) w w') (hf : MapG Tryz.prog 21 R.bl (n + 1) (ptF (lsV ls')) w') : RdW B0 ρ R line (n + 1) m { S with ls := ls' } cv kv w' := by
  have H := h
  have hX : ∀ b, b = R.bl → ρ b = 6 := fun b e => by rw [e]; exact h.l.1
  exact {
    hr := H.hr, hB := Nat.le_trans h.hB hk.size, g := H.g, cell := hk.heap H.cell (fun e => by have := hX _ e; have := H.g; omega)
    c := H.c.keep hk (fun b hb h3 => by have := hX b hb; omega)
    k := H.k.keep hk (fun b hb h3 => by have := hX b hb; omega)
    f := H.f.keep hk (fun b hb => by have := hX b hb; omega)
    d := H.d.keep hk (fun b hb => by have := hX b hb; omega)
    l := ⟨H.l.1, hf⟩
    e := ⟨H.e.1, H.e.2.keep hk (fun hb => by have := hX _ hb; have := H.e.1; omega)⟩
    s := ⟨H.s.1, H.s.2.keep hk (fun hb => by have := hX _ hb; have := H.s.1; omega)⟩ }
theorem pts_new (h : RdW B0 ρ R line n m S cv kv w) (hb : Below w.heap.size w w') {B : Nat} {l : List Nat} (_h0 : l ≠ []) (h9 : l.length ≤ 9) (hB : w.heap.size ≤ B) (hB2 : B < w'.heap.size) (hc : ∀ (i : Nat) (x : Nat), l[i]? = some x → w'.cell? ⟨B, i, none⟩ = some (.int .i32 (x : Nat))) :
    RdW B0 (moreR w ρ 0) R line n m S cv kv w' ∧ PtV (moreR w ρ 0) (.slice (some ⟨B, 0, none⟩) l.length l.length) l w' :=
  ⟨(h.role_more 0).below hb, B, 0, l.length, rfl, Nat.le_refl _, by omega, moreR_new B hB, hB2, fun i x hx => by rw [Nat.zero_add]; exact hc i x hx⟩
end

set_option maxRecDepth 100000 in
set_option maxHeartbeats 4000000 in
theorem pfoldR {B0 : Nat} {ρ : Nat → Nat} {R : RdB} {line n m : Nat} {S : RdS} {cv kv : Value} (w : World) (hR : RdW B0 ρ R line n m S cv kv w) (ws : List (List UInt8)) (sv : Value) (hS : StrS sv ws w) (hz : ∀ x ∈ ws, x ≠ [] ∧ x.length ≤ 1048576) (h2 : 2 ≤ ws.length) (hE : PEnv w) (hn : n ≤ 1000000) :
    Calls Tryz.prog 94 #[.pointer (some ⟨R.g, 0, none⟩), sv] w fun e w' => RdOut B0 ρ R line (n + 1) m (foldP S ws).1 (foldP S ws).2 w e w' := by
  have CP := Lib.hid (ppoints ws sv w hS (fun x hx => (hz x hx).2) (fun e => by rw [e] at h2; simp at h2) hE)
  obtain ⟨⟨no, l⟩, hP⟩ : ∃ z, ptsP ws = z := ⟨_, rfl⟩
  rw [hP] at CP
  have HP := Lib.hid hP
  have H2 := Lib.hid h2
  clear hP hS hz h2 hE
  have HR := Lib.hid hR
  have hgl := hR.gl
  clear hR
  go_enter Tryz.func94, Tryz.ntmps94
  go_wp2_with fail
  refine CP.out.mono ?_
  rintro e w1 ⟨hb1, v, rfl, hv⟩
  by_cases h0 : no = 0
  · subst h0
    obtain ⟨b, rfl, hb2, hb3, hc⟩ := hv rfl
    have hok := ptsP_ok HP.out
    have H2' := H2.out
    cases l with
    | nil => exact absurd hok.1 (by simp; omega)
    | cons x t =>
    have ht : t ≠ [] := fun e => by rw [e] at hok; have := hok.1; simp at this; omega
    have hx : x ≤ 1114111 := valid_le (hok.2.2 x List.mem_cons_self)
    obtain ⟨HR1, HV⟩ := pts_new HR.out hb1 (List.cons_ne_nil x t) (by omega) hb2 hb3 hc
    simp only at hc hok
    have HR1' := Lib.hid HR1
    have HB1 := Lib.hid hb1
    have hxc : w1.cell? ⟨b, 0, none⟩ = some (.int .i32 (x : Nat)) := hc 0 x rfl
    have HBN := Lib.hid hb2
    obtain ⟨q, hq⟩ : ∃ q, t.length = q := ⟨_, rfl⟩
    rw [List.length_cons, hq] at HV ⊢
    have HX : Hid (foldP S ws = if (S.fs x).isSome then (13, S) else (0, { S with fs := updN S.fs x t })) := Lib.hid (by unfold foldP; rw [HP.out]; rfl)
    have CU := Lib.hid (pput (moreR w ρ 0) 5 R.bf n S.fs w1 (by decide) HR1.f x t (by omega) ht (by omega) _ (HV))
    rw [show R.g = R.g from rfl]
    have c5 : w1.cell? ⟨R.g, 5, none⟩ = some (.map (some R.bf)) := by rw [Lib.cell_of_heap HR1.cell]; rfl
    clear hb1 hv hok ht hx HR1 HV hc hb2 hb3 hxc hgl H2'
    go_wp2_with fail
    refine CU.out.mono ?_
    rintro e w2 ⟨he, hD, hK⟩
    have HN := Lib.hid (HR1'.out.newf hK hD)
    have HBB : Hid (Keep (fun b => ρ b ≠ 0 ∧ ρ b ≠ 9) w w2) := Lib.hid ((Keep.of_all HB1.out).trans (hK.weaken (fun b _ hb => by
      have h : ρ b = 5 := by rw [hb]; exact HR.out.f.1
      constructor <;> omega)))
    clear hD hK
    cases hs : (S.fs x).isSome with
    | true =>
      rw [hs] at HN HX he
      replace he : e = .returned (.int .i64 13) := he
      replace HX : Hid (foldP S ws = (13, S)) := HX
      subst he
      go_wp2
      go_ret
      rw [HX.out]
      exact ⟨rfl, HBB.out, _, _, _, _, HN.out, fun b hb => moreR_old b hb, fun e => by cases e⟩
    | false =>
      rw [hs] at HN HX he
      replace he : e = .returned (.int .i64 0) := he
      replace HX : Hid (foldP S ws = (0, { S with fs := updN S.fs x t })) := HX
      subst he
      go_wp2
      go_ret
      rw [HX.out]
      exact ⟨rfl, HBB.out, _, _, _, _, HN.out, fun b hb => moreR_old b hb, fun _ => rfl⟩
  · have HX : Hid (foldP S ws = (no, S)) := Lib.hid (foldP_no HP.out h0)
    have b1 : ((no : Int) != 0) = true := by simp; omega
    have HB := Lib.hid hb1
    clear hb1 hv
    go_wp2
    go_ret
    rw [HX.out]
    exact ⟨rfl, Keep.of_all HB.out, ρ, S, cv, kv, (HR.out.below HB.out).mono (Nat.le_succ n), fun _ _ => rfl, fun e => absurd e h0⟩

set_option maxRecDepth 100000 in
set_option maxHeartbeats 4000000 in
theorem pdecR {B0 : Nat} {ρ : Nat → Nat} {R : RdB} {line n m : Nat} {S : RdS} {cv kv : Value} (w : World) (hR : RdW B0 ρ R line n m S cv kv w) (ws : List (List UInt8)) (sv : Value) (hS : StrS sv ws w) (hz : ∀ x ∈ ws, x ≠ [] ∧ x.length ≤ 1048576) (h2 : 2 ≤ ws.length) (hE : PEnv w) (hn : n ≤ 1000000) :
    Calls Tryz.prog 95 #[.pointer (some ⟨R.g, 0, none⟩), sv] w fun e w' => RdOut B0 ρ R line (n + 2) m ((dcmP line) S ws).1 ((dcmP line) S ws).2 w e w' := by
  have CP := Lib.hid (ppoints ws sv w hS (fun x hx => (hz x hx).2) (fun e => by rw [e] at h2; simp at h2) hE)
  obtain ⟨⟨no, l⟩, hP⟩ : ∃ z, ptsP ws = z := ⟨_, rfl⟩
  rw [hP] at CP
  have HP := Lib.hid hP
  have H2 := Lib.hid h2
  clear hP hS hz h2 hE
  have HR := Lib.hid hR
  have hgl := hR.gl
  clear hR
  go_enter Tryz.func95, Tryz.ntmps95
  go_wp2_with fail
  refine CP.out.mono ?_
  rintro e w1 ⟨hb1, v, rfl, hv⟩
  by_cases h0 : no = 0
  · subst h0
    obtain ⟨b, rfl, hb2, hb3, hc⟩ := hv rfl
    have hok := ptsP_ok HP.out
    have H2' := H2.out
    cases l with
    | nil => exact absurd hok.1 (by simp; omega)
    | cons x t =>
    have ht : t ≠ [] := fun e => by rw [e] at hok; have := hok.1; simp at this; omega
    have hx : x ≤ 1114111 := valid_le (hok.2.2 x List.mem_cons_self)
    obtain ⟨HR1, HV⟩ := pts_new HR.out hb1 (List.cons_ne_nil x t) (by omega) hb2 hb3 hc
    simp only at hc hok
    have HR1' := Lib.hid HR1
    have HB1 := Lib.hid hb1
    have hxc : w1.cell? ⟨b, 0, none⟩ = some (.int .i32 (x : Nat)) := hc 0 x rfl
    have HBN := Lib.hid hb2
    obtain ⟨q, hq⟩ : ∃ q, t.length = q := ⟨_, rfl⟩
    rw [List.length_cons, hq] at HV ⊢
    have HX : Hid (dcmP line S ws = if (S.ds x).isSome then (13, S) else if hanP x then (1, S) else (0, { S with ds := updN S.ds x t, ls := updN S.ls x line })) := Lib.hid (by unfold dcmP; rw [HP.out]; rfl)
    have CU := Lib.hid (pput (moreR w ρ 0) 4 R.bd n S.ds w1 (by decide) HR1.d x t (by omega) ht (by omega) _ HV)
    have c4 : w1.cell? ⟨R.g, 4, none⟩ = some (.map (some R.bd)) := by rw [Lib.cell_of_heap HR1.cell]; rfl
    have HXC := Lib.hid hxc
    have HXX := Lib.hid hx
    have HBR : Hid (b ≠ R.bd) := Lib.hid (fun e => by have h1 : moreR w ρ 0 b = 0 := moreR_new b hb2; rw [e, HR1.d.1] at h1; cases h1)
    have CHN := Lib.hid (fun W => phan (x : Int) W)
    clear hb1 hv hok ht hx HR1 HV hc hb2 hb3 hxc hgl H2'
    go_wp2_with fail
    refine CU.out.mono ?_
    rintro e w2 ⟨he, hD, hK⟩
    have HK := Lib.hid hK
    have HBB : Hid (Keep (fun b => ρ b ≠ 0 ∧ ρ b ≠ 9) w w2) := Lib.hid ((Keep.of_all HB1.out).trans (HK.out.weaken (fun b _ hb => by
      have h : ρ b = 4 := by rw [hb]; exact HR.out.d.1
      constructor <;> omega)))
    have HN := Lib.hid (HR1'.out.newd HK.out hD)
    have hxc2 : w2.cell? ⟨b, 0, none⟩ = some (.int .i32 (x : Nat)) := hK.cell HXC.out HBR.out
    clear hD hK CU HB1
    cases hs : (S.ds x).isSome with
    | true =>
      rw [hs] at HN HX he
      replace he : e = .returned (.int .i64 13) := he
      subst he
      replace HX : Hid (dcmP line S ws = (13, S)) := HX
      clear hxc2
      go_wp2
      go_ret
      rw [HX.out]
      exact ⟨rfl, HBB.out, _, _, _, _, HN.out.mono (by omega), fun b hb => moreR_old b hb, fun e => by cases e⟩
    | false =>
      rw [hs] at HN HX he
      replace he : e = .returned (.int .i64 0) := he
      subst he
      replace HX : Hid (dcmP line S ws = if hanP x then (1, S) else (0, { S with ds := updN S.ds x t, ls := updN S.ls x line })) := HX
      replace HN : Hid (RdW B0 (moreR w ρ 0) R line (n + 1) m { S with ds := updN S.ds x t } cv kv w2) := HN
      have hpos : (0 : Int) ≤ (q : Int) := by omega
      go_wp2_with fail
      refine (CHN.out w2).mono ?_
      rintro e w3 ⟨rfl, rfl⟩
      cases hh : hanP (x : Int) with
      | true =>
        rw [hh] at HX
        replace HX : Hid (dcmP line S ws = (1, S)) := HX
        clear hxc2
        go_wp2
        go_ret
        rw [HX.out]
        exact ⟨rfl, HBB.out, _, _, _, _, HN.out.mono (by omega), fun b hb => moreR_old b hb, fun e => by cases e⟩
      | false =>
        rw [hh] at HX
        replace HX : Hid (dcmP line S ws = (0, { S with ds := updN S.ds x t, ls := updN S.ls x line })) := HX
        go_wp2_with fail
        have hkey : keyOf Tryz.prog 21 (.int .i32 (x : Nat)) = some (.int .i32 (x : Nat)) := keyOf_int_mk Tryz.underlying21 (WalkArith.wf_i32 (n := (x : Int)) ⟨by omega, by have := HXX.out; omega⟩)
        have hcell := HN.out.cell
        have hf6 : ∀ X : World, (Instr.fieldAt 92 (.pointer (some ⟨R.g, 0, none⟩)) 6).run Tryz.prog X = .ok (.pointer (some ⟨R.g, 6, none⟩)) X := fun X => by go_simp
        have hf1 : ∀ X : World, (Instr.fieldAt 92 (.pointer (some ⟨R.g, 0, none⟩)) 1).run Tryz.prog X = .ok (.pointer (some ⟨R.g, 1, none⟩)) X := fun X => by go_simp
        have hlb : ∀ X : World, X = w3.drew → (Instr.loadAt 90 (.pointer (some ⟨R.g, 6, none⟩))).run Tryz.prog X = .ok (.map (some R.bl)) X := fun X h => by
          subst h
          have c1 : w3.drew.cell? ⟨R.g, 6, none⟩ = some (.map (some R.bl)) := by rw [Lib.cell_of_heap (w := w3.drew) hcell]; rfl
          go_simp
        have hll : ∀ X : World, X = w3.drew → (Instr.loadAt 3 (.pointer (some ⟨R.g, 1, none⟩))).run Tryz.prog X = .ok (.int .i64 (line : Nat)) X := fun X h => by
          subst h
          have c1 : w3.drew.cell? ⟨R.g, 1, none⟩ = some (.int .i64 (line : Nat)) := by rw [Lib.cell_of_heap (w := w3.drew) hcell]; rfl
          go_simp
        have hlx : ∀ X : World, X = w3.drew → (Instr.loadAt 21 (.pointer (some ⟨b, 0, none⟩))).run Tryz.prog X = .ok (.int .i32 (x : Nat)) X := fun X h => by
          subst h
          have c1 : w3.drew.cell? ⟨b, 0, none⟩ = some (.int .i32 (x : Nat)) := hxc2
          go_simp
        have hix : ∀ X : World, (Instr.indexAt 22 (.slice (some ⟨b, 0, none⟩) (q + 1) (q + 1)) (.int .i64 0)).run Tryz.prog X = .ok (.pointer (some ⟨b, 0, none⟩)) X := fun X => by
          have q1 : ¬ (q : Int) + 1 ≤ 0 := by omega
          go_simp
        obtain ⟨w4, hr2, hM2, hK2⟩ := (HN.out.l.2.keep (Keep.refl (fun _ => False) w3).drew (fun h => h)).put (int_keyed Tryz.underlying21) Tryz.underlying90 (by unfold maxLen; omega) (val := .int .i64 (line : Nat)) hkey
        have hmu : ∀ X : World, X = w3.drew → (Instr.mapUpdate 90 (.map (some R.bl)) (.int .i32 (x : Nat)) (.int .i64 (line : Nat))).run Tryz.prog X = .ok () w4 := fun X h => by
          subst h
          exact hr2
        have HKW := Lib.hid (Keep.trans (Keep.refl (fun b => b = R.bl) w3).drew hK2)
        have HLM : Hid (MapG Tryz.prog 21 R.bl (n + 1 + 1) (ptF (lsV (updN S.ls x line))) w4) := Lib.hid (hM2.congr (fun kl hkl => by
          rw [ptF_put _ _ _ _ hkl]
          congr 1
          funext y
          unfold lsV updN
          by_cases e : y = x
          · rw [if_pos e, if_pos e]; rfl
          · rw [if_neg e, if_neg e]))
        clear hkey hcell hr2 hM2 hK2 hxc2 hpos
        obtain ⟨FF, hFF⟩ : ∃ FF : StoR, FF = ⟨w3.drew, w4, 11, fun z => match z with | 0 => some (.pointer (some ⟨R.g, 0, none⟩)) | 1 => some (.pointer (some ⟨R.g, 0, none⟩)) | 2 => some (.pointer (some ⟨R.g, 6, none⟩)) | 3 => some (.map (some R.bl)) | 4 => some (.slice (some ⟨b, 0, none⟩) (q + 1) (q + 1)) | 5 => some (.pointer (some ⟨b, 0, none⟩)) | 6 => some (.int .i32 (x : Nat)) | 7 => some (.pointer (some ⟨R.g, 0, none⟩)) | 8 => some (.pointer (some ⟨R.g, 0, none⟩)) | 9 => some (.pointer (some ⟨R.g, 1, none⟩)) | 10 => some (.int .i64 (line : Nat)) | _ => none⟩ := ⟨_, rfl⟩
        have H0 : StoR.S FF (fun _ => false) w3.drew := by rw [hFF]; exact fun _ => rfl
        refine wp_region_done (StoR.S FF) (StoR.P FF) (by kernel_rfl) (by kernel_rfl) (by kernel_rfl) H0 ?hs ?hd
        case hs =>
          rw [hFF]
          refine DSteps.cons ?_ (DSteps.cons ?_ (DSteps.cons ?_ (DSteps.cons ?_ (DSteps.cons ?_ (DSteps.cons ?_ (DSteps.cons ?_ (DSteps.cons ?_ (DSteps.cons ?_ (DSteps.cons ?_ (DSteps.cons ?_ (DSteps.cons ?_ (DSteps.nil))))))))))))
          · intro D2 a X9 hDi hDa _ hX hL hd
            refine ⟨rfl, ?_⟩
            have e0 : a.eval (.tmp 0) = .pointer (some ⟨R.g, 0, none⟩) := hL.far 0 (by kernel_rfl)
            exact wp_value (exec_move rfl e0) ⟨_, rfl, hX.more, fun _ _ _ h => h, StoR.P.mk rfl (by simp)⟩
          · intro D2 a X9 hDi hDa _ hX hL hd
            refine ⟨rfl, ?_⟩
            have e0 : a.eval (.tmp 29) = .pointer (some ⟨R.g, 0, none⟩) := (hd 0 29 (by kernel_rfl) (by kernel_rfl)).is rfl
            exact wp_value (exec_nilCheck rfl e0) ⟨_, rfl, hX.more, fun _ _ _ h => h, StoR.P.mk rfl (by simp)⟩
          · intro D2 a X9 hDi hDa _ hX hL hd
            refine ⟨rfl, ?_⟩
            have e0 : a.eval (.tmp 30) = .pointer (some ⟨R.g, 0, none⟩) := (hd 1 30 (by kernel_rfl) (by kernel_rfl)).is rfl
            exact wp_value (exec_fieldAddr rfl e0 (hf6 X9)) ⟨_, rfl, hX.more, fun _ _ _ h => h, StoR.P.mk rfl (by simp)⟩
          · intro D2 a X9 hDi hDa _ hX hL hd
            refine ⟨rfl, ?_⟩
            have e0 : a.eval (.tmp 31) = .pointer (some ⟨R.g, 6, none⟩) := (hd 2 31 (by kernel_rfl) (by kernel_rfl)).is rfl
            exact wp_value (exec_load rfl e0 (hlb X9 (hX (hDa 11 (by kernel_rfl))))) ⟨_, rfl, hX.more, fun _ _ _ h => h, StoR.P.mk rfl (by simp)⟩
          · intro D2 a X9 hDi hDa _ hX hL hd
            refine ⟨rfl, ?_⟩
            have e0 : a.eval (.tmp 5) = .slice (some ⟨b, 0, none⟩) (q + 1) (q + 1) := hL.far 5 (by kernel_rfl)
            exact wp_value (exec_move rfl e0) ⟨_, rfl, hX.more, fun _ _ _ h => h, StoR.P.mk rfl (by simp)⟩
          · intro D2 a X9 hDi hDa _ hX hL hd
            refine ⟨rfl, ?_⟩
            have e0 : a.eval (.tmp 33) = .slice (some ⟨b, 0, none⟩) (q + 1) (q + 1) := (hd 4 33 (by kernel_rfl) (by kernel_rfl)).is rfl
            exact wp_value (exec_indexAddr rfl e0 rfl (hix X9)) ⟨_, rfl, hX.more, fun _ _ _ h => h, StoR.P.mk rfl (by simp)⟩
          · intro D2 a X9 hDi hDa _ hX hL hd
            refine ⟨rfl, ?_⟩
            have e0 : a.eval (.tmp 34) = .pointer (some ⟨b, 0, none⟩) := (hd 5 34 (by kernel_rfl) (by kernel_rfl)).is rfl
            exact wp_value (exec_load rfl e0 (hlx X9 (hX (hDa 11 (by kernel_rfl))))) ⟨_, rfl, hX.more, fun _ _ _ h => h, StoR.P.mk rfl (by simp)⟩
          · intro D2 a X9 hDi hDa _ hX hL hd
            refine ⟨rfl, ?_⟩
            have e0 : a.eval (.tmp 0) = .pointer (some ⟨R.g, 0, none⟩) := hL.far 0 (by kernel_rfl)
            exact wp_value (exec_move rfl e0) ⟨_, rfl, hX.more, fun _ _ _ h => h, StoR.P.mk rfl (by simp)⟩
          · intro D2 a X9 hDi hDa _ hX hL hd
            refine ⟨rfl, ?_⟩
            have e0 : a.eval (.tmp 36) = .pointer (some ⟨R.g, 0, none⟩) := (hd 7 36 (by kernel_rfl) (by kernel_rfl)).is rfl
            exact wp_value (exec_nilCheck rfl e0) ⟨_, rfl, hX.more, fun _ _ _ h => h, StoR.P.mk rfl (by simp)⟩
          · intro D2 a X9 hDi hDa _ hX hL hd
            refine ⟨rfl, ?_⟩
            have e0 : a.eval (.tmp 37) = .pointer (some ⟨R.g, 0, none⟩) := (hd 8 37 (by kernel_rfl) (by kernel_rfl)).is rfl
            exact wp_value (exec_fieldAddr rfl e0 (hf1 X9)) ⟨_, rfl, hX.more, fun _ _ _ h => h, StoR.P.mk rfl (by simp)⟩
          · intro D2 a X9 hDi hDa _ hX hL hd
            refine ⟨rfl, ?_⟩
            have e0 : a.eval (.tmp 38) = .pointer (some ⟨R.g, 1, none⟩) := (hd 9 38 (by kernel_rfl) (by kernel_rfl)).is rfl
            exact wp_value (exec_load rfl e0 (hll X9 (hX (hDa 11 (by kernel_rfl))))) ⟨_, rfl, hX.more, fun _ _ _ h => h, StoR.P.mk rfl (by simp)⟩
          · intro D2 a X9 hDi hDa _ hX hL hd
            refine ⟨rfl, ?_⟩
            have e0 : a.eval (.tmp 32) = .map (some R.bl) := (hd 3 32 (by kernel_rfl) (by kernel_rfl)).is rfl
            have e1 : a.eval (.tmp 35) = .int .i32 (x : Nat) := (hd 6 35 (by kernel_rfl) (by kernel_rfl)).is rfl
            have e2 : a.eval (.tmp 39) = .int .i64 (line : Nat) := (hd 10 39 (by kernel_rfl) (by kernel_rfl)).is rfl
            exact wp_skipped (exec_mapUpdate rfl e0 e1 e2 (hmu X9 (hX hDi))) ⟨undef, rfl, StoR.S.store, fun k2 u hj h => h.store (fun e => by subst e; rw [hDi] at hj; cases hj), StoR.P.last rfl rfl⟩
        case hd =>
          intro D2 a X9 hAll hX hL hP hE
          obtain ⟨_, hp⟩ := hE 11 (by decide)
          rw [hFF] at hp
          have hX9 : X9 = w4 := hp.2 rfl
          obtain ⟨f, ha, hf⟩ := hL.out [29, 30, 31, 32, 33, 34, 35, 36, 37, 38, 39] rfl
          clear hf hAll hP hX hL hE hp hFF H0 hf6 hlb hix hlx hf1 hll hmu
          simp only [List.foldl_cons, List.foldl_nil, List.setIfInBounds_toArray, List.set_cons_zero, List.set_cons_succ] at ha
          subst ha
          subst hX9
          go_wp2
          go_ret
          rw [HX.out]
          have H9 := (HN.out.mono (Nat.le_succ (n + 1))).newl HKW.out HLM.out
          exact ⟨rfl, HBB.out.trans (HKW.out.weaken (fun b _ hb => by
            have h : ρ b = 6 := by rw [hb]; exact HR.out.l.1
            constructor <;> omega)), _, _, _, _, H9, fun b hb => moreR_old b hb, fun _ => rfl⟩
  · have HX : Hid (dcmP line S ws = (no, S)) := Lib.hid (dcmP_no HP.out h0)
    have b1 : ((no : Int) != 0) = true := by simp; omega
    have HB := Lib.hid hb1
    clear hb1 hv
    go_wp2
    go_ret
    rw [HX.out]
    exact ⟨rfl, Keep.of_all HB.out, ρ, S, cv, kv, (HR.out.below HB.out).mono (by omega), fun _ _ => rfl, fun e => absurd e h0⟩
end Go.Proofs.YtcfhblbmpbfoaaaGreatDoor
