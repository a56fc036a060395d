/- Parts of the proof of what the last text says. -/
import Derived.Test.YtfpfpaaojdodnaaGreatDoorGz7
import Derived.Test.YtfpfpaaojdodnaaGreatDoorGz4
import Derived.BigRegionIn
import Derived.LoopIn
import Derived.BigFrameIn
import Derived.Sort.MapsRangeIn
import Derived.Test.YtfpfpaaojdodnaaGreatDoorGz5
import Derived.Test.YtfpfpaaojdodnaaGreatDoorGz6
import Derived.Maps.Own
/- props: the iterator of a map's keys. -/
namespace Go.Proofs.YtfpfpaaojdodnaaGreatDoor
open Go Go.RowKit Go.Kt Go.Kt.Rg Go.Maps
attribute [local go_sem] Oper.semAt_some

theorem ranges_heap {H : Type} {P : Program} {k : TypeId} {R : Value → Option (DataW H × List MemPlace)} {b r n : Nat} {D : DataW H} {left : Lit → Bool} {cnt : Nat} {w w' : World}
    (h : w.ranges P k R b r n D left cnt) (hb : w'.heap[b]? = w.heap[b]?) (hr : w'.heap[r]? = w.heap[r]?) : w'.ranges P k R b r n D left cnt := by
  unfold World.ranges at h ⊢
  rw [hb, hr]
  exact h
def encK (x : Nat) : Array Value := #[.int .i32 (x : Nat)]
def OkK (vs : Nat → Option Value) (pre : List Nat) : Prop := pre.Nodup ∧ ∀ x ∈ pre, (vs x).isSome = true
def FinK (vs : Nat → Option Value) (L : List Nat) : Prop := L.Nodup ∧ ∀ x, x ∈ L ↔ (vs x).isSome = true

theorem pkeys_call (b : Nat) (w : World) :
    Calls Tryz.prog 79 #[.map (some b)] w fun e w' => e = .returned (.func (.func 151) #[] #[.pointer (some ⟨w.heap.size, 0, none⟩)]) ∧ w.alloc (.cells #[.map (some b)] 68) = w' := by
  go_enter Tryz.func79, Tryz.ntmps79
  go_wp2
  go_ret
  exact ⟨rfl, rfl⟩
theorem enters_keys : ∀ args w, (callFunc 151 args).run Tryz.prog w = .ok (.enter 151 args) w := enters_of Tryz.func151 (by kernel_rfl) rfl

set_option maxRecDepth 100000 in
set_option maxHeartbeats 4000000 in
theorem pkeys_iter (b n : Nat) (vs : Nat → Option Value) (bs : Nat) (w0 : World) (hbs : w0.cell? ⟨bs, 0, none⟩ = some (.map (some b))) (hM : MapG Tryz.prog 21 b n (ptF vs) w0) :
    Iter5 Tryz.prog 151 #[.pointer (some ⟨bs, 0, none⟩)] encK (OkK vs) (FinK vs) (fun _ => False) (fun x => x = bs ∨ x = b) w0 := by
  intro m X J Jx W hNd hX hsame hsz hJ hJx hSl hY h0
  have q1 : W.cell? ⟨bs, 0, none⟩ = some (.map (some b)) := (World.cell?_of_block (a := ⟨bs, 0, none⟩) (hsame bs (.inr (.inl rfl)))).trans hbs
  have hMW : MapG Tryz.prog 21 b n (ptF vs) W := hM.of_heap (hsame b (.inr (.inr rfl)))
  have hbW := hMW.lt
  obtain ⟨D, hown, hhas, hat⟩ := hMW
  have hXb : Hid (¬ X bs ∧ ¬ X b ∧ b < W.heap.size ∧ bs < W.heap.size) := Lib.hid ⟨hNd bs (.inr (.inl rfl)), hNd b (.inr (.inr rfl)), hbW, lt_of_cell q1⟩
  have HK := Lib.hid (And.intro hX (And.intro hJ (And.intro hJx (And.intro hSl hY))))
  have HH : Hid (∀ kl, WideAt.IsKeyLit kl → Maps.has D kl = (ptF vs kl).isSome) := Lib.hid hhas
  have hfn : ∀ k, Fence.wide.fn k := fun _ => trivial
  have hdep : Fence.wide.depth = none := rfl
  clear hNd hsame hsz hX hJ hJx hSl hY hhas hat hM hbs hbW
  refine (callsIn_wide (n := 0)).1 ?_
  refine callsIn_of_wp Tryz.func151 rfl trivial ?_ rfl
  simp only [Tryz.ntmps151, List.size_toArray, List.length_cons, List.length_nil, Nat.reduceAdd, Nat.reduceSub, Array.replicate_succ, Array.replicate_zero, List.push_toArray, List.append_toArray, List.nil_append, List.cons_append]
  gi_wp2_with (first | (gi_at_range; refine wpListIn_range_own _ rfl _ 68 rfl 21 _ (int_keyed Tryz.underlying21) Tryz.underlying68 _ b n D rfl hown ?_; intro w1 hrg0 hg0 hs0) | fail)
  have hJ1 : J [] (fun _ => False) w1 := HK.out.2.1 _ _ _ _ ((keep_grown hg0).weaken (fun _ _ h => by cases h)) h0
  have hk1 : Keep (fun b => X b ∨ False) W w1 := (keep_grown hg0).weaken (fun _ _ h => by cases h)
  have hat0 : ∀ x : Nat, Maps.has D (.int .i32 (x : Nat)) = (vs x).isSome := fun x => by
    have h := HH.out (.int .i32 (x : Nat)) trivial
    rw [ptF_at] at h
    exact h
  have H1 := Lib.hid (And.intro hJ1 (And.intro hk1 (And.intro hrg0 hat0)))
  have hs1 : Hid (w1.heap.size = W.heap.size + 1) := Lib.hid hs0
  clear hJ1 hk1 hrg0 hat0 hg0 hs0 h0 hown q1
  gi_wp2_with fail
  go_frame
  gi_loopw [3] (fun _ wr => ∃ (left : Lit → Bool) (cnt : Nat) (pre : List Nat) (Y : Nat → Prop), wr.ranges Tryz.prog 21 rawR b W.heap.size n D left cnt ∧ OkK vs pre ∧ (∀ kl, left kl = true → Maps.has D kl = true) ∧ (∀ x : Nat, left (.int .i32 (x : Nat)) = true ↔ (vs x).isSome = true ∧ x ∉ pre) ∧ (∀ y, Y y → W.heap.size < y) ∧ J pre Y wr ∧ Keep (fun b => X b ∨ False) W wr)
    (fun _ wr => wr.rangeLeft b W.heap.size)
  case atStart => exact ⟨Maps.has D, _, [], _, H1.out.2.2.1, ⟨List.nodup_nil, fun _ h => by cases h⟩, fun _ h => h, fun x => by rw [H1.out.2.2.2]; simp, fun _ h => h.elim, H1.out.1, H1.out.2.1⟩
  case round =>
    obtain ⟨left, cnt, pre, Y, hrg, hok, hlh, hlp, hYl, hJs, hkp⟩ := hrel
    have HI := Lib.hid (And.intro hok (And.intro hlh (And.intro hlp (And.intro hYl (And.intro hJs hkp)))))
    have HRG := Lib.hid hrg
    clear hok hlh hlp hYl hJs hkp
    gi_wp2_with (first | (gi_at_next; refine wpListIn_next_ranges _ rfl _ rfl 21 (int_keyed Tryz.underlying21) rawR (Value.int .i32) (fun v : Value => v) (fun key kl hkey => by obtain ⟨x, rfl, _⟩ := Maps.keyOf_int_inv Tryz.underlying21 hkey; exact ⟨x, rfl⟩) (fun v y _ => ⟨v, rfl⟩) b W.heap.size n D left cnt rfl hrg ?_ ?_) | fail)
    · intro hc0 hl0
      have hfin : FinK vs pre := ⟨HI.out.1.1, fun x => ⟨HI.out.1.2 x, fun h => Decidable.byContradiction fun hx => by
        have := (HI.out.2.2.1 x).2 ⟨h, hx⟩
        rw [hl0] at this
        cases this⟩⟩
      have HF := Lib.hid hfin
      clear hfin hl0 hc0 hrg
      gi_wp2_with fail
      go_end0
      exact ⟨⟨_, rfl⟩, HI.out.2.2.2.2.2, .inl ⟨pre, Y, HF.out, fun y hy => by have := HI.out.2.2.2.1 y hy; omega, HI.out.2.2.2.2.1⟩⟩
    · intro z c kl y1 y2 w2 cnt2 hkey hlk hv hat hrg2 hlt hgr hsz2 hen
      obtain ⟨z', ez, rfl, hwf⟩ := Maps.keyOf_int_inv Tryz.underlying21 hkey
      cases ez
      have hz0 : (ptF vs (.int .i32 z)).isSome = true := by rw [← HH.out (.int .i32 z) trivial]; exact HI.out.2.1 _ hlk
      have hzp : 0 ≤ z := by
        refine Decidable.byContradiction fun h => ?_
        unfold ptF at hz0
        simp only [if_neg h] at hz0
        cases hz0
      obtain ⟨x, rfl⟩ := Int.eq_ofNat_of_zero_le hzp
      have hx := (HI.out.2.2.1 x).1 hlk
      have hk2 : Keep (fun b => b = W.heap.size) wr w2 := (keep_grown hgr).weaken (fun y _ h => by cases h; rfl)
      have hYr : ¬ Y W.heap.size := fun h => by have := HI.out.2.2.2.1 _ h; omega
      have hJ2 : J pre Y w2 := HK.out.2.1 _ _ _ _ (hk2.weaken (fun y _ h => ⟨.inr (by omega), by rw [h]; exact hYr⟩)) HI.out.2.2.2.2.1
      have hkW2 : Keep (fun b => X b ∨ False) W w2 := by
        have hk3 := HI.out.2.2.2.2.2
        exact ⟨hk2.os.trans hk3.os, hk2.tape.trans hk3.tape, hk2.output.trans hk3.output, Nat.le_trans hk3.size hk2.size, fun b hb hx => (hk2.same b (Nat.lt_of_lt_of_le hb hk3.size) (fun h => by omega)).trans (hk3.same b hb hx)⟩
      have hnd : (pre ++ [x]).Nodup := by
        rw [List.nodup_append]
        refine ⟨HI.out.1.1, by simp, fun a ha c hc => ?_⟩
        rw [List.mem_singleton.1 hc]
        exact fun e => hx.2 (e ▸ ha)
      have hmm : ∀ y ∈ pre ++ [x], (vs y).isSome = true := fun y hy => by
        rcases List.mem_append.1 hy with hy | hy
        · exact HI.out.1.2 y hy
        · rw [List.mem_singleton.1 hy]; exact hx.1
      have hok2 : OkK vs (pre ++ [x]) := ⟨hnd, hmm⟩
      clear hnd hmm
      have hyy : YieldAt Fence.wide 0 Tryz.prog m #[.int .i32 (x : Nat)] w2 _ := HK.out.2.2.2.2 pre x Y w2 hok2 hJ2 hkW2.size (fun y hy => by have := HI.out.2.2.2.1 y hy; omega)
      obtain ⟨fn, tmps, assign, body, hy, hR⟩ := hyy
      have hlx : ∀ y : Nat, (left (.int .i32 (y : Nat)) && !(Lit.int .i32 (y : Nat)).sameKey (.int .i32 (x : Nat))) = true ↔ (vs y).isSome = true ∧ y ∉ pre ++ [x] := fun y => by
        rw [Bool.and_eq_true, HI.out.2.2.1 y]
        by_cases e : y = x
        · subst e
          rw [WideAt.sameKey_self (a := .int .i32 (y : Nat)) trivial]
          simp
        · rw [sameKey_ne (fun h => by injection h with _ h; exact e (by omega))]
          simp [e]
      have H2 := Lib.hid (And.intro hkW2 (And.intro hrg2 (And.intro hlx (And.intro hok2 (And.intro hlt hYr)))))
      clear hk2 hJ2 hkW2 hok2 hlx hx hz0 hzp hlk hv hat hrg2 hlt hgr hsz2 hwf hkey hrg hYr
      gi_wp2_with fail
      refine hR.mono ?_
      rintro e3 V3 ⟨Y', hk4, hY', (⟨rfl, hJ3⟩ | ⟨rfl, hJx3⟩)⟩
      all_goals have hk3 := H2.out.1
      all_goals have hzk := hk3.size
      all_goals have hkW : Keep (fun b => X b ∨ False) W V3 := ⟨hk4.os.trans hk3.os, hk4.tape.trans hk3.tape, hk4.output.trans hk3.output, Nat.le_trans hk3.size hk4.size, fun b hb hx => (hk4.same b (Nat.lt_of_lt_of_le hb hk3.size) (fun h => by rcases h with h | h; exact hx (.inl h); have := HI.out.2.2.2.1 b h; omega)).trans (hk3.same b hb hx)⟩
      all_goals have hYl2 : ∀ b, Y' b → W.heap.size < b := fun b hb => by rcases hY' b hb with h | h; exact HI.out.2.2.2.1 b h; have := H2.out.2.1.lt; omega
      · have hrg3 := ranges_heap H2.out.2.1 (hk4.same b (by have := hXb.out.2.2.1; omega) (fun h => by
          rcases h with h | h
          · exact hXb.out.2.1 h
          · have := HI.out.2.2.2.1 b h; have := hXb.out.2.2.1; omega)) (hk4.same W.heap.size H2.out.2.1.lt (fun h => by
          rcases h with h | h
          · have := HK.out.1 _ h; omega
          · exact H2.out.2.2.2.2.2 h))
        have HF := Lib.hid (And.intro hYl2 (And.intro hJ3 (And.intro hkW hrg3)))
        clear hk4 hk3 hYl2 hJ3 hkW hrg3 hY'
        gi_wp2_with fail
        go_roundw
        case rel => exact ⟨_, cnt2, pre ++ [x], Y', HF.out.2.2.2, H2.out.2.2.2.1, fun kl h => HI.out.2.1 kl (by rw [Bool.and_eq_true] at h; exact h.1), H2.out.2.2.1, HF.out.1, HF.out.2.1, HF.out.2.2.1⟩
        case measure => rw [HF.out.2.2.2.left_eq, HRG.out.left_eq]; exact H2.out.2.2.2.2.1
      · have HF := Lib.hid (And.intro hYl2 (And.intro hJx3 hkW))
        clear hk4 hk3 hYl2 hJx3 hkW hY'
        gi_wp2_with fail
        refine bodyPost_ret (results_none rfl _ _ _) rfl ?_
        exact ⟨⟨_, rfl⟩, HF.out.2.2, .inr ⟨_, Y', H2.out.2.2.2.1, fun y hy => by have := HF.out.1 y hy; omega, HF.out.2.1⟩⟩
end Go.Proofs.YtfpfpaaojdodnaaGreatDoor
/- props: slices.AppendSeq of a map's keys. -/
namespace Go.Proofs.YtfpfpaaojdodnaaGreatDoor
open Go Go.RowKit Go.Kt Go.Kt.Rg Go.Maps
attribute [local go_sem] Oper.semAt_some

theorem tinfoI32 : (Tryz.prog.info? 21).map (fun i => (i.zero, i.size, i.bytes)) = some (some (.int .i32 0), 1, 4) := by kernel_rfl
def encN (l : List Nat) : List Value := l.map fun x => .int .i32 (x : Nat)
theorem encN_snoc (l : List Nat) (x : Nat) : encN (l ++ [x]) = encN l ++ [.int .i32 (x : Nat)] := by simp [encN]
theorem nodup_le : ∀ (N : Nat) (l : List Nat), l.Nodup → (∀ x ∈ l, x < N) → l.length ≤ N
  | 0, l, _, h => by
    cases l with
    | nil => exact Nat.le_refl _
    | cons x t => exact absurd (h x List.mem_cons_self) (by omega)
  | N + 1, l, hn, h => by
    have h1 := nodup_le N (l.erase N) (hn.erase N) (fun x hx => by
      have h2 := h x (List.mem_of_mem_erase hx)
      have h3 : x ≠ N := fun e => (hn.not_mem_erase (a := N)) (e ▸ hx)
      omega)
    have h4 := List.length_erase (a := N) (l := l)
    split at h4 <;> omega

def AppI (n : Nat) (pre : List Nat) (Y : Nat → Prop) (W : World) : Prop := ∃ ao cv, W.heap[n]? = some (.cells #[.slice ao pre.length cv] 22 (0, 0)) ∧ OwnS (fun b => Y b) 21 1 (.slice ao pre.length cv) pre.length (encN pre) W

set_option maxRecDepth 100000 in
set_option maxHeartbeats 2000000 in
theorem pappend_any (vs : Nat → Option Value) (gf : Nat) (lb : Array Value) (Nd : Nat → Prop) (w w0 : World) (eg : ∀ args w, (callFunc gf args).run Tryz.prog w = .ok (.enter gf args) w)
    (hit : Iter5 Tryz.prog gf lb encK (OkK vs) (FinK vs) (fun _ => False) Nd w0) (hNd : ∀ b, Nd b → b < w.heap.size) (hNdw : ∀ b, Nd b → w.heap[b]? = w0.heap[b]?) (hw0 : w0.heap.size ≤ w.heap.size) (hbd : ∀ x, (vs x).isSome = true → x < 1114112) :
    Calls Tryz.prog 199 #[.slice none 0 0, .func (.func gf) #[] lb] w fun e w' => ∃ L ao cp, FinK vs L ∧ e = .returned (.slice ao L.length cp) ∧ OwnS (fun b => w.heap.size ≤ b) 21 1 (.slice ao L.length cp) L.length (encN L) w' ∧ Below w.heap.size w w' := by
  obtain ⟨n, hn⟩ : ∃ n, w.heap.size = n := ⟨_, rfl⟩
  have hfn : ∀ k, Fence.wide.fn k := fun _ => trivial
  have hdep : Fence.wide.depth = none := rfl
  refine (callsIn_wide (n := 0)).1 ?_
  refine callsIn_of_wp_marks Tryz.func199 rfl trivial ?_ rfl
  simp only [Tryz.ntmps199, List.size_toArray, List.length_cons, List.length_nil, Nat.reduceAdd, Nat.reduceSub, Array.replicate_succ, Array.replicate_zero, List.push_toArray, List.append_toArray, List.nil_append, List.cons_append]
  obtain ⟨w1, hw1⟩ : ∃ w1, w.alloc (.cells #[.slice none 0 0] 22) = w1 := ⟨_, rfl⟩
  have hz1 : w1.heap.size = n + 1 := by rw [← hw1]; simp [hn]
  have b0 : w1.heap[n]? = some (.cells #[.slice none 0 0] 22 (0, 0)) := by rw [← hw1]; exact alloc_at hn.symm
  have hb1 : Below n w w1 := by rw [← hw1]; exact (Below.refl _ _).alloc (by omega) _
  have HW1 := Lib.hid hw1
  have HIT := Lib.hid hit
  have HN := Lib.hid hn
  have HBD := Lib.hid hbd
  clear hw1 hit hbd
  gi_wp2_with fail
  rw [HW1.out]
  refine loop_out5 (gf := gf) (lb := lb) (encs := encK) rfl eg
    HIT.out (fun _ => rfl) (X := fun b => b = n)
    (fun b hb => by omega) (fun b hb => ?nd) (fun b hb => ?ndw) (by rw [HN.out] at hw0; omega)
    (AppI n)
    (fun _ _ _ _ => False)
    (fun pre Y W W' hk h' => by
      obtain ⟨ao, cv, h1, h2⟩ := h'
      exact ⟨ao, cv, hk.heap h1 (fun hx => by rcases hx.1 with h | h; exact h; omega), h2.keep hk (fun b hx hy => hx.2 hy)⟩)
    (fun pre Y W h' => by
      obtain ⟨ao, cv, h1, h2⟩ := h'
      exact ⟨ao, cv, h1, h2.1, fun b hb => ⟨h2.2 b hb, (h2.1.lt b hb).2⟩⟩)
    (fun _ _ _ _ _ _ h => h) ⟨_, _, b0, own_nil _ _ _ _⟩ ?round ?done ?stop
  case nd =>
    rcases hb with hb | hb
    · exact hb.elim
    · have := hNd b hb
      rw [HN.out] at this
      exact ⟨by omega, by omega⟩
  case ndw =>
    rcases hb with hb | hb
    · exact hb.elim
    · exact (hb1.block b (by have := hNd b hb; rw [HN.out] at this; omega)).trans (hNdw b hb)
  case stop => intro D c pre Y W _ _ _ h; exact h.elim
  case round =>
    rintro l' hl' pre x Y W hpre hi' hk hY hlt hr
    simp only [encK]
    have HI := Lib.hid hi'
    have hlen : pre.length < 1114112 := by
      have := nodup_le 1114112 (pre ++ [x]) hpre.1 (fun y hy => HBD.out y (hpre.2 y hy))
      simp at this
      omega
    have HPre := Lib.hid hpre
    have HY := Lib.hid hY
    have HK := Lib.hid hk
    have HR := Lib.hid hr
    clear eg hNd hNdw hi' hk hpre hY hr
    gi_wp2
    refine ⟨Keep.refl _ _, ?_⟩
    rintro W2 hk1 hk2 ⟨ao, cv, hv, hown⟩ rl hr2
    have hYY := HY.out
    have hW := HK.out.size
    have hz2 : n < W2.heap.size := by have := hk2.size; omega
    have hYn : ∀ b, Y b → b ≠ n := fun b hb => by have := (hYY b hb).1; omega
    obtain ⟨v, hvv⟩ : ∃ v, Value.slice ao pre.length cv = v := ⟨_, rfl⟩
    rw [hvv] at hown hv
    obtain ⟨g, cap, w3, hrun, hown3, hk3, hg3, hz3⟩ := append_x (P := Tryz.prog) W2 22 21 Tryz.underlying22 tinfoI32 rfl (by omega) hown [.int .i32 (x : Nat)] rfl
      (by intro u hu; simp at hu; rcases hu with rfl; rfl) (by unfold maxLen; omega) (by omega)
    have hvY : ∀ b, v.ownBlock = some b → Y b := hown.2
    have hg3Y : Y g ∨ W2.heap.size ≤ g := by
      rcases hg3 with hx | hx
      · exact .inl (hvY g hx)
      · exact .inr (by omega)
    have hgn : g ≠ n := by
      rcases hg3Y with hx | hx
      · exact hYn g hx
      · omega
    have k0 := cell_one hv
    have hvn : ∀ b, v.ownBlock = some b → b ≠ n := fun b hx => hYn b (hvY b hx)
    have hv3 : w3.heap[n]? = some (.cells #[v] 22 (0, 0)) := hk3.heap hv (fun hx => hvn n hx rfl)
    obtain ⟨w4, hw4⟩ : ∃ w4, w3.setCell ⟨n, 0, none⟩ (.slice (some ⟨g, 0, none⟩) (pre.length + 1) cap) = w4 := ⟨_, rfl⟩
    have hk4 : Keep (fun b => b = n) w3 w4 := by rw [← hw4]; exact Keep.setCell (X := fun b => b = n) (p := ⟨n, 0, none⟩) (Keep.refl _ _) rfl _
    have hv4 : w4.heap[n]? = some (.cells #[.slice (some ⟨g, 0, none⟩) (pre.length + 1) cap] 22 (0, 0)) := by rw [← hw4]; exact set_at hv3
    have hown4 := hown3.keep hk4 (fun b hb hy => hgn (by rw [← hy, hb]))
    have k3 := cell_one hv3
    have f3 := frozen_one hv3
    have hfin : Kt.Left (fun b => b = n) Y (AppI n) (pre ++ [x]) W2 w4 := by
      refine ⟨fun b => b = g, ?_, ?_, some ⟨g, 0, none⟩, cap, ?_, ?_⟩
      · exact (hk3.weaken (Y := fun b => b = n ∨ Y b) (fun b _ hx => .inr (hvY b hx))).trans (hk4.weaken fun b _ hx => .inl hx)
      · rintro b rfl
        exact hg3Y
      · have e1 : (pre ++ [x]).length = pre.length + 1 := by simp
        rw [e1]; exact hv4
      · have e1 : (pre ++ [x]).length = pre.length + 1 := by simp
        rw [e1, encN_snoc]
        exact hown4
    have HF := Lib.hid hfin
    have H3 := Lib.hid hrun
    have HW4 := Lib.hid hw4
    clear hfin hrun hw4 hown hown3 hown4 hk3 hk4 hg3 hvY hvn hv hv3 hv4 hg3Y hYY hYn hk1 hk2 hr2 hgn hlen
    gi_wp2_with (first | (refine wpListIn_append_eq (o := ⟨some 11, _, _, _, _, _⟩) (by rfl) (by rfl) (by rfl) (by rfl) H3.out ?_))
    rw [HW4.out]
    exact HF.out
  case done =>
    rintro D L Y W hFin hD hDd ⟨ao, cv, hv, hown⟩ hY hkW
    have hk2 : Below n w W := hb1.trans ((hkW.weaken (Y := fun b => b = n) (fun b _ h => by rcases h with h | h; exact h; exact h.elim)).below (by omega) (fun b hb => by omega))
    have b2 := cell_one hv
    have HF := Lib.hid (And.intro hown (And.intro hk2 (And.intro hY hFin)))
    have HDD := Lib.hid hDd
    have hDn : Hid (n + 1 ≤ D) := Lib.hid (by omega)
    clear hown hk2 hkW hY hDd eg hNd hNdw hw0 hFin
    gi_wp2
    refine leaves_marks (Ds := [D]) (by simp) (fun D' h => by simp at h; subst h; exact HDD.out) (fun W' hk' => ⟨_, results_tmp rfl _ _ _, ?_⟩)
    obtain ⟨ho, hkk, hY, hFin⟩ := HF.out
    have hk' : Keep (fun b => b = D) W W' := hk'.weaken fun b _ hb => by simpa using hb
    have ho2 := ho.keep hk' (fun b hb hy => (hY b hy).2 hb)
    rw [HN.out]
    refine ⟨L, _, _, hFin, rfl, ho2.weaken (fun b hy => ?_), hkk.trans (hk'.below (by have := hkk.size; rw [HN.out] at this; omega) (fun b hb => by have := hDn.out; omega))⟩
    have := (hY b hy).1
    omega
end Go.Proofs.YtfpfpaaojdodnaaGreatDoor
/- props: the parts of a syllable. -/
namespace Go.Proofs.YtfpfpaaojdodnaaGreatDoor
open Go Go.RowKit Go.Kt Go.Kt.Rg Go.Maps

def partsP (n : Nat) : List Nat := [4352 + n / 28 / 21, 4449 + n / 28 % 21] ++ if n % 28 = 0 then [] else [4519 + n % 28]

theorem own_full (w : World) (xs : List Value) (e : TypeId) (hm : xs.length ≤ maxLen) : OwnS (fun b => b = w.heap.size) e 1 (.slice (some ⟨w.heap.size, 0, none⟩) xs.length xs.length) xs.length xs (w.alloc (.cells xs.toArray e)) :=
  ⟨⟨by simp, .inr ⟨w.heap.size, xs.length, xs.toArray, rfl, Nat.zero_le _, heap_alloc_new w _, Nat.le_refl _, hm, by simp, by simp⟩⟩, fun b hb => by simp [Value.ownBlock] at hb; exact hb.symm⟩
set_option maxRecDepth 100000 in
set_option maxHeartbeats 2000000 in
theorem pparts (n : Nat) (hn : n < 11172) (w : World) : Calls Tryz.prog 97 #[.int .i32 (44032 + (n : Nat))] w fun e w' => ∃ ao cp, e = .returned (.slice ao (partsP n).length cp) ∧ OwnS (fun b => w.heap.size ≤ b) 21 1 (.slice ao (partsP n).length cp) (partsP n).length (encN (partsP n)) w' ∧ Below w.heap.size w w' := by
  have e1 : IntKind.i32.wrap ((44032 + (n : Int)) - 44032) = n := by rw [IntWalk.i32_in _ (by omega)]; omega
  obtain ⟨h, hh⟩ : ∃ h, w.heap.size = h := ⟨_, rfl⟩
  obtain ⟨W1, hW1⟩ : ∃ W1, w.alloc (.cells #[.int .i32 (4352 + (n : Int) / 28 / 21), .int .i32 (4449 + (n : Int) / 28 % 21)] 21) = W1 := ⟨_, rfl⟩
  have ho := own_full w [.int .i32 (4352 + (n : Int) / 28 / 21), .int .i32 (4449 + (n : Int) / 28 % 21)] 21 (by show 2 ≤ maxLen; decide)
  replace ho : OwnS (fun b => b = h) 21 1 (.slice (some ⟨h, 0, none⟩) 2 2) 2 [.int .i32 (4352 + (n : Int) / 28 / 21), .int .i32 (4449 + (n : Int) / 28 % 21)] W1 := by
    rw [hh] at ho
    rw [← hW1]
    exact ho
  have hb1 : Below h w W1 := by rw [← hW1, ← hh]; exact (Below.refl _ w).alloc (Nat.le_refl _) _
  have hz1 : W1.heap.size = h + 1 := by rw [← hW1, ← hh]; exact Array.size_push _
  have HB := Lib.hid (And.intro hb1 (And.intro ho hz1))
  by_cases hc : n % 28 = 0
  · have HP : Hid (partsP n = [4352 + n / 28 / 21, 4449 + n / 28 % 21]) := Lib.hid (by unfold partsP; rw [if_pos hc]; rfl)
    have q0 : ((n : Int) % 28 != 0) = false := by
      have : (n : Int) % 28 = 0 := by omega
      rw [this]; rfl
    rw [HP.out]
    clear hc ho hb1 hz1
    go_enter Tryz.func97, Tryz.ntmps97
    go_wp2
    go_ret
    rw [hh]
    exact ⟨some ⟨h, 0, none⟩, 2, rfl, HB.out.2.1.weaken (fun b hb => by omega), HB.out.1⟩
  · have HP : Hid (partsP n = [4352 + n / 28 / 21, 4449 + n / 28 % 21] ++ [4519 + n % 28]) := Lib.hid (by unfold partsP; rw [if_neg hc])
    have q0 : ((n : Int) % 28 != 0) = true := by
      simp only [bne_iff_ne, ne_eq]
      omega
    obtain ⟨g, cap, w3, hrun, hown3, hk3, hg3, hz3⟩ := append_x (P := Tryz.prog) W1 22 21 Tryz.underlying22 tinfoI32 rfl (by omega) ho [.int .i32 (4520 + (n : Int) % 28 - 1)] rfl
      (by intro u hu; simp at hu; rcases hu with rfl; rfl) (by unfold maxLen; omega) (by omega)
    have hgg : h ≤ g := by
      rcases hg3 with hx | hx
      · simp [Value.ownBlock] at hx; omega
      · omega
    have HRun := Lib.hid hrun
    have H3 := Lib.hid (And.intro hown3 (And.intro (hb1.trans (hk3.below (by omega) (fun b hb => by simp [Value.ownBlock] at hb; omega))) hgg))
    have HZ := Lib.hid hz1
    rw [HP.out]
    clear hc ho hb1 hz1 hrun hown3 hk3 hg3 hz3 hgg
    go_enter Tryz.func97, Tryz.ntmps97
    go_wp2_with (at_builtin; refine wpList_append_eq rfl rfl rfl rfl HRun.out ?_)
    go_ret
    rw [hh]
    have e : encN [4352 + n / 28 / 21, 4449 + n / 28 % 21, 4519 + n % 28] = [.int .i32 (4352 + (n : Int) / 28 / 21), .int .i32 (4449 + (n : Int) / 28 % 21)] ++ [.int .i32 (4520 + (n : Int) % 28 - 1)] := by
      simp [encN]
      omega
    rw [e]
    exact ⟨some ⟨g, 0, none⟩, cap, rfl, H3.out.1.weaken (fun b hb => by have := H3.out.2.2; omega), H3.out.2.1⟩
end Go.Proofs.YtfpfpaaojdodnaaGreatDoor
/- props: the length of a full decomposition. -/
namespace Go.Proofs.YtfpfpaaojdodnaaGreatDoor
open Go Go.RowKit Go.Kt Go.Kt.Rg Go.Maps

abbrev LeT := Nat → Option Int
def lenL (g : LeT → Nat → Int × LeT) (x : Nat) : List Nat → Int → LeT → Int × LeT
  | [], sum, le => (sum, updN le x sum)
  | y :: t, sum, le => if (g le y).1 = -1 then (-1, (g le y).2) else lenL g x t (min (sum + (g le y).1) 9) (g le y).2
def lenF (ds : Nat → Option (List Nat)) : Nat → LeT → Nat → Int × LeT
  | 0, le, _ => (0, le)
  | f + 1, le, x => if sylP x then (((partsP (x - 44032)).length : Nat), le) else
    match ds x with
    | none => (1, le)
    | some own => match le x with
      | some n => (n, le)
      | none => lenL (lenF ds f) x own 0 (updN le x (-1))
def LeOk (le : LeT) : Prop := ∀ y v, le y = some v → -1 ≤ v ∧ v ≤ 9
theorem LeOk.upd {le : LeT} (h : LeOk le) {x : Nat} {v : Int} (h1 : -1 ≤ v) (h9 : v ≤ 9) : LeOk (updN le x v) := fun y u hu => by
  unfold updN at hu
  by_cases e : y = x
  · rw [if_pos e] at hu; cases hu; exact ⟨h1, h9⟩
  · rw [if_neg e] at hu; exact h y u hu
def LeLe (le le' : LeT) : Prop := ∀ y, (le y).isSome = true → (le' y).isSome = true
theorem LeLe.upd (le : LeT) (x : Nat) (v : Int) : LeLe le (updN le x v) := fun y h => by
  unfold updN
  by_cases e : y = x
  · rw [if_pos e]; rfl
  · rw [if_neg e]; exact h
theorem lenL_ok {g : LeT → Nat → Int × LeT} (hg : ∀ le y, LeOk le → (-1 ≤ (g le y).1 ∧ (g le y).1 ≤ 9) ∧ LeOk (g le y).2 ∧ LeLe le (g le y).2) (x : Nat) : ∀ (l : List Nat) (sum : Int) (le : LeT), 0 ≤ sum → sum ≤ 9 → LeOk le →
    (-1 ≤ (lenL g x l sum le).1 ∧ (lenL g x l sum le).1 ≤ 9) ∧ LeOk (lenL g x l sum le).2 ∧ LeLe le (lenL g x l sum le).2
  | [], sum, le, h0, h9, hl => ⟨⟨by simp [lenL]; omega, by simp [lenL]; omega⟩, LeOk.upd hl (by omega) h9, LeLe.upd _ _ _⟩
  | y :: t, sum, le, h0, h9, hl => by
    obtain ⟨h1, h2, h3⟩ := hg le y hl
    rw [lenL]
    by_cases e : (g le y).1 = -1
    · rw [if_pos e]
      exact ⟨⟨by simp, by simp⟩, h2, h3⟩
    · rw [if_neg e]
      have h4 := lenL_ok hg x t (min (sum + (g le y).1) 9) (g le y).2 (by omega) (by omega) h2
      exact ⟨h4.1, h4.2.1, fun z hz => h4.2.2 z (h3 z hz)⟩
theorem lenF_ok (ds : Nat → Option (List Nat)) : ∀ (f : Nat) (le : LeT) (x : Nat), LeOk le → (-1 ≤ (lenF ds f le x).1 ∧ (lenF ds f le x).1 ≤ 9) ∧ LeOk (lenF ds f le x).2 ∧ LeLe le (lenF ds f le x).2
  | 0, le, x, h => ⟨⟨by simp [lenF], by simp [lenF]⟩, h, fun _ h => h⟩
  | f + 1, le, x, h => by
    rw [lenF]
    split
    · refine ⟨⟨by omega, ?_⟩, h, fun _ h => h⟩
      have : (partsP (x - 44032)).length ≤ 3 := by unfold partsP; split <;> simp
      omega
    · split
      · exact ⟨⟨by omega, by omega⟩, h, fun _ h => h⟩
      · split
        · rename_i n hn
          exact ⟨h x n hn, h, fun _ h => h⟩
        · rename_i own hown _ hnone
          have := lenL_ok (fun le y h => lenF_ok ds f le y h) x own 0 (updN le x (-1)) (by omega) (by omega) (h.upd (x := x) (v := -1) (by omega) (by omega))
          exact ⟨this.1, this.2.1, fun y hy => this.2.2 y (LeLe.upd _ _ _ y hy)⟩
def unk (L : List Nat) (le : LeT) : Nat := (L.filter fun x => (le x).isNone).length
theorem unk_mono (L : List Nat) {le le' : LeT} (h : LeLe le le') : unk L le' ≤ unk L le := by
  unfold unk
  rw [← List.countP_eq_length_filter, ← List.countP_eq_length_filter]
  refine List.countP_mono_left fun x _ hx => ?_
  cases hl : le x with
  | none => rfl
  | some v =>
    have := h x (by rw [hl]; rfl)
    rw [Option.isNone_iff_eq_none] at hx
    rw [hx] at this
    cases this
theorem unk_upd (L : List Nat) {le : LeT} {x : Nat} (hx : x ∈ L) (h : le x = none) (v : Int) : unk L (updN le x v) + 1 ≤ unk L le := by
  induction L with
  | nil => cases hx
  | cons y t ih =>
    by_cases e : y = x
    · subst e
      have h1 := unk_mono t (LeLe.upd le y v)
      unfold unk at h1 ⊢
      rw [List.filter_cons_of_neg (by simp [updN]), List.filter_cons_of_pos (by rw [h]; rfl)]
      simp only [List.length_cons]
      omega
    · have h2 := ih (by rcases List.mem_cons.1 hx with h | h; exact absurd h.symm e; exact h)
      have e2 : updN le x v y = le y := if_neg e
      unfold unk at h2 ⊢
      simp only [List.filter_cons, e2]
      split
      · simp only [List.length_cons]; omega
      · exact h2

section
variable {B0 : Nat} {ρ : Nat → Nat} {R : RdB} {line n m m' : Nat} {S : RdS} {cv kv : Value} {w w' : World}
theorem RdW.newe (h : RdW B0 ρ R line n m S cv kv w) {le' : LeT} (hk : Keep (fun b => b = R.bn) w w') (hf : MapG Tryz.prog 21 R.bn m' (ptF (leV le')) w') : RdW B0 ρ R line n m' { S with le := le' } cv kv w' := by
  have H := h
  have hX : ∀ b, b = R.bn → ρ b = 7 := fun b e => by rw [e]; exact h.e.1
  exact {
    hr := H.hr, hB := Nat.le_trans h.hB hk.size, g := H.g, cell := hk.heap H.cell (fun e => by have := hX _ e; have := H.g; omega)
    c := H.c.keep hk (fun b hb h3 => by have := hX b hb; omega)
    k := H.k.keep hk (fun b hb h3 => by have := hX b hb; omega)
    f := H.f.keep hk (fun b hb => by have := hX b hb; omega)
    d := H.d.keep hk (fun b hb => by have := hX b hb; omega)
    e := ⟨H.e.1, hf⟩
    l := ⟨H.l.1, H.l.2.keep hk (fun hb => by have := hX _ hb; have := H.l.1; omega)⟩
    s := ⟨H.s.1, H.s.2.keep hk (fun hb => by have := hX _ hb; have := H.s.1; omega)⟩ }
end
def LenOut (B0 : Nat) (ρ : Nat → Nat) (R : RdB) (line n m : Nat) (L : List Nat) (S : RdS) (cv kv : Value) (r : Int × LeT) (w : World) (e : Ending) (w' : World) : Prop :=
  e = .returned (.int .i64 r.1) ∧ (∃ m', RdW B0 ρ R line n m' { S with le := r.2 } cv kv w' ∧ m' + 2 * unk L r.2 ≤ m + 2 * unk L S.le) ∧ Keep (fun b => b = R.bn) w w'
end Go.Proofs.YtfpfpaaojdodnaaGreatDoor
/- props: the length of a full decomposition: the walk. -/
namespace Go.Proofs.YtfpfpaaojdodnaaGreatDoor
open Go Go.RowKit Go.Kt Go.Kt.Rg Go.Maps

theorem leV_put (le : LeT) (x : Nat) (v : Int) (kl : Lit) (hk : WideAt.IsKeyLit kl) : putF (ptF (leV le)) (.int .i32 (x : Int)) (.int .i64 v) kl = ptF (leV (updN le x v)) kl := by
  rw [ptF_put _ _ _ _ hk]
  congr 1
  funext y
  unfold leV updN
  by_cases e : y = x
  · rw [if_pos e, if_pos e]; rfl
  · rw [if_neg e, if_neg e]

def LenI (B0 : Nat) (ρ : Nat → Nat) (R : RdB) (line n m : Nat) (L : List Nat) (S : RdS) (cv kv : Value) (g : LeT → Nat → Int × LeT) (x : Nat) (own : List Nat) (le1 : LeT) (R0 : Int × LeT) (w : World) (i : Nat) (sum : Int) (wr : World) : Prop :=
  i ≤ own.length ∧ (0 ≤ sum ∧ sum ≤ 9) ∧ Keep (fun b => b = R.bn) w wr ∧ ∃ (le : LeT) (mi : Nat), LeOk le ∧ LeLe le1 le ∧ RdW B0 ρ R line n mi { S with le := le } cv kv wr ∧ mi + 2 * unk L le ≤ m + 1 + 2 * unk L le1 ∧ lenL g x (own.drop i) sum le = R0

set_option maxRecDepth 100000 in
set_option maxHeartbeats 4000000 in
theorem plen {B0 : Nat} {R : RdB} {line n : Nat} (L : List Nat) : ∀ (f : Nat) (w : World) (ρ : Nat → Nat) (m : Nat) (S : RdS) (cv kv : Value) (x : Nat), RdW B0 ρ R line n m S cv kv w → (∀ y, (S.ds y).isSome = true → y ∈ L) → (∀ y l, S.ds y = some l → l.length ≤ 9 ∧ ∀ z ∈ l, z ≤ 1114111) →
    LeOk S.le → unk L S.le < f → x ≤ 1114111 → m + 2 * unk L S.le ≤ 1099511627776 →
    Calls Tryz.prog 80 #[.pointer (some ⟨R.g, 0, none⟩), .int .i32 (x : Nat)] w fun e w' => LenOut B0 ρ R line n m L S cv kv (lenF S.ds f S.le x) w e w'
  | 0, w, ρ, m, S, cv, kv, x, hR, hL, hds, hle, hu, hx, hm => by omega
  | f + 1, w, ρ, m, S, cv, kv, x, hR, hL, hds, hle, hu, hx, hm => by
    have HR := Lib.hid hR
    have HL := Lib.hid (And.intro hL (And.intro hds (And.intro hle (And.intro hu hm))))
    have CS := Lib.hid (psyl (x : Int) w)
    cases hsy : sylP (x : Int) with
    | true =>
      have hr : 44032 ≤ (x : Int) ∧ (x : Int) < 55204 := by simpa [sylP] using hsy
      have HX : Hid (lenF S.ds (f + 1) S.le x = ((((partsP (x - 44032)).length : Nat) : Int), S.le)) := Lib.hid (by rw [lenF]; exact if_pos hsy)
      have hxx : (44032 + ((x - 44032 : Nat) : Int)) = (x : Int) := by omega
      have CP := pparts (x - 44032) (by omega) w
      rw [hxx] at CP
      have CP := Lib.hid CP
      rw [hsy] at CS
      obtain ⟨k, hk⟩ : ∃ k, (partsP (x - 44032)).length = k := ⟨_, rfl⟩
      rw [hk] at CP HX
      clear hR hL hds hle hu hm hsy hr hxx hk
      go_enter Tryz.func80, Tryz.ntmps80
      go_wp2_with fail
      refine CS.out.mono ?_
      rintro e w1 ⟨rfl, rfl⟩
      go_wp2_with fail
      refine CP.out.mono ?_
      rintro e w2 ⟨ao, cp, rfl, ho, hb⟩
      have HB := Lib.hid hb
      clear ho hb
      go_wp2
      go_ret
      unfold LenOut
      rw [HX.out]
      exact ⟨rfl, ⟨m, HR.out.below HB.out, Nat.le_refl _⟩, Keep.of_all HB.out⟩
    | false =>
      rw [hsy] at CS
      have c4 : w.cell? ⟨R.g, 4, none⟩ = some (.map (some R.bd)) := by rw [Lib.cell_of_heap hR.cell]; rfl
      have c7 : w.cell? ⟨R.g, 7, none⟩ = some (.map (some R.bn)) := by rw [Lib.cell_of_heap hR.cell]; rfl
      have hkey : keyOf Tryz.prog 21 (.int .i32 (x : Nat)) = some (.int .i32 (x : Nat)) := keyOf_int_mk Tryz.underlying21 (WalkArith.wf_i32 (n := (x : Int)) ⟨by omega, by omega⟩)
      obtain ⟨hB, vs, hM, hs, hp⟩ := hR.d
      have hl1 := hM.look (int_keyed Tryz.underlying21) Tryz.underlying68 (z := .slice none 0 0) rfl hkey
      have hl2 := hR.e.2.look (int_keyed Tryz.underlying21) Tryz.underlying69 (z := .int .i64 0) rfl hkey
      rw [ptF_at] at hl1 hl2
      have hsx := hs x
      cases hd : S.ds x with
      | none =>
        have HX : Hid (lenF S.ds (f + 1) S.le x = (1, S.le)) := Lib.hid (by rw [lenF, if_neg (by rw [hsy]; exact fun h => by cases h), hd])
        have hv : vs x = none := by rw [hd] at hsx; cases h : vs x with | none => rfl | some u => rw [h] at hsx; cases hsx
        rw [hv] at hl1
        replace hl1 : (Instr.lookup 68 (.map (some R.bd)) (.int .i32 (x : Nat)) true).run Tryz.prog w = .ok (.tuple #[.slice none 0 0, .bool false]) w := hl1
        clear hR hL hds hle hu hm hsy hl2 hsx hs hp hM hB hkey hv hd c7
        go_enter Tryz.func80, Tryz.ntmps80
        go_wp2_with fail
        refine CS.out.mono ?_
        rintro e w1 ⟨rfl, rfl⟩
        go_wp2
        go_ret
        unfold LenOut
        rw [HX.out]
        exact ⟨rfl, ⟨m, HR.out, Nat.le_refl _⟩, Keep.refl _ _⟩
      | some own =>
        obtain ⟨v, hv⟩ : ∃ v, vs x = some v := by rw [hd] at hsx; cases h : vs x with | none => rw [h] at hsx; cases hsx | some u => exact ⟨u, rfl⟩
        rw [hv] at hl1
        obtain ⟨b, off, cap, hvv, hcap, hcap2, hb0, hbl, hcl⟩ := hp x v own hv hd
        subst hvv
        replace hl1 : (Instr.lookup 68 (.map (some R.bd)) (.int .i32 (x : Nat)) true).run Tryz.prog w = .ok (.tuple #[.slice (some ⟨b, off, none⟩) own.length cap, .bool true]) w := hl1
        cases hn : S.le x with
        | some z =>
          have HX : Hid (lenF S.ds (f + 1) S.le x = (z, S.le)) := Lib.hid (by rw [lenF, if_neg (by rw [hsy]; exact fun h => by cases h), hd, hn])
          have hvn : leV S.le x = some (.int .i64 z) := by unfold leV; rw [hn]; rfl
          rw [hvn] at hl2
          replace hl2 : (Instr.lookup 69 (.map (some R.bn)) (.int .i32 (x : Nat)) true).run Tryz.prog w = .ok (.tuple #[.int .i64 z, .bool true]) w := hl2
          clear hR hL hds hle hu hm hsy hsx hs hp hM hB hkey hv hd hn hvn hcl hb0 hbl hcap hcap2
          go_enter Tryz.func80, Tryz.ntmps80
          go_wp2_with fail
          refine CS.out.mono ?_
          rintro e w1 ⟨rfl, rfl⟩
          go_wp2
          go_ret
          unfold LenOut
          rw [HX.out]
          exact ⟨rfl, ⟨m, HR.out, Nat.le_refl _⟩, Keep.refl _ _⟩
        | none =>
          have HX : Hid (lenF S.ds (f + 1) S.le x = lenL (lenF S.ds f) x own 0 (updN S.le x (-1))) := Lib.hid (by rw [lenF, if_neg (by rw [hsy]; exact fun h => by cases h), hd, hn])
          have hvn : leV S.le x = none := by unfold leV; rw [hn]; rfl
          rw [hvn] at hl2
          replace hl2 : (Instr.lookup 69 (.map (some R.bn)) (.int .i32 (x : Nat)) true).run Tryz.prog w = .ok (.tuple #[.int .i64 0, .bool false]) w := hl2
          have hol := hds x own hd
          have hun := unk_upd L (hL x (by rw [hd]; rfl)) hn (-1)
          have HCL : Hid (∀ (i : Nat) (y : Nat), own[i]? = some y → w.cell? ⟨b, off + i, none⟩ = some (.int .i32 (y : Nat))) := Lib.hid hcl
          have HBN : Hid (b ≠ R.bn) := Lib.hid (fun e => by rw [e, hR.e.1] at hb0; cases hb0)
          obtain ⟨R0, hR0⟩ : ∃ R0, lenL (lenF S.ds f) x own 0 (updN S.le x (-1)) = R0 := ⟨_, rfl⟩
          rw [hR0] at HX
          obtain ⟨k, hk⟩ : ∃ k, own.length = k := ⟨_, rfl⟩
          rw [hk] at hl1 hcap
          have hk9 : k ≤ 9 := by rw [← hk]; exact hol.1
          have hE := hR.e.2
          have HOL := Lib.hid (And.intro hol (And.intro hun (And.intro hR0 hk)))
          clear hR hL hds hle hu hsy hsx hs hp hM hB hv hd hn hvn hcl hb0 hbl hcap2 hol hun hR0 hk
          go_enter Tryz.func80, Tryz.ntmps80
          go_wp2_with fail
          refine CS.out.mono ?_
          rintro e w1 ⟨rfl, rfl⟩
          go_wp2_with (first | (at_mapUpdate; refine wpList_put _ rfl _ _ _ 69 rfl 21 _ (int_keyed Tryz.underlying21) Tryz.underlying69 R.bn m (ptF (leV S.le)) rfl hE (by unfold maxLen; omega) _ _ _ rfl rfl hkey ?_; intro w2 hm2 hk2) | fail)
          have hm3 : MapG Tryz.prog 21 R.bn (m + 1) (ptF (leV (updN S.le x (-1)))) w2 := MapG.congr hm2 (leV_put S.le x (-1))
          have HL0 : Hid (LenI B0 ρ R line n m L S cv kv (lenF S.ds f) x own (updN S.le x (-1)) R0 w1 0 0 w2) := Lib.hid ⟨Nat.zero_le _, ⟨by omega, by omega⟩, hk2, _, m + 1, LeOk.upd HL.out.2.2.1 (by omega) (by omega), fun _ h => h, HR.out.newe hk2 hm3, Nat.le_refl _, HOL.out.2.2.1⟩
          clear hm2 hm3 hk2 hE hl1 hl2 c4 c7 CS
          go_loopw [9, 47] (fun s j wr => ∃ (i : Nat) (sum : Int), s = .int .i64 sum ∧ j = .int .i64 i ∧ LenI B0 ρ R line n m L S cv kv (lenF S.ds f) x own (updN S.le x (-1)) R0 w1 i sum wr)
            (fun _ j _ => k - (RowKit.intOf j).toNat)
          case atStart => exact ⟨0, 0, rfl, rfl, HL0.out⟩
          case round =>
            obtain ⟨i, sum, rfl, rfl, hI⟩ := hrel
            obtain ⟨hik, hsum, hkw, le, mi, hlo, hll, hRi, hmi, hR0⟩ := hI
            rw [HOL.out.2.2.2] at hik
            have HI := Lib.hid (And.intro hlo (And.intro hll (And.intro hRi (And.intro hmi (And.intro hR0 hkw)))))
            have hun := HOL.out.2.1
            have huf := HL.out.2.2.2.1
            have hmo := unk_mono L hll
            by_cases hlt : i < k
            · have hlt' : (i : Int) < (k : Int) := by omega
              obtain ⟨y, hy⟩ : ∃ y, own[i]? = some y := ⟨_, List.getElem?_eq_getElem (by rw [HOL.out.2.2.2]; exact hlt)⟩
              have cy := hkw.cell (HCL.out i y hy) HBN.out
              have hyl := HOL.out.1.2 y (List.mem_of_getElem? hy)
              have hdr : own.drop i = y :: own.drop (i + 1) := by
                rw [List.drop_eq_getElem_cons (by rw [HOL.out.2.2.2]; exact hlt)]
                rw [(List.getElem?_eq_some_iff.1 hy).2]
              have CL := Lib.hid (plen L f wr ρ mi { S with le := le } cv kv y hRi HL.out.1 HL.out.2.1 hlo (by simp only; omega) hyl (by simp only; omega))
              have hgo := lenF_ok S.ds f le y hlo
              rw [hdr, lenL] at hR0
              simp only at CL
              obtain ⟨⟨r1, r2⟩, hr⟩ : ∃ r, lenF S.ds f le y = r := ⟨_, rfl⟩
              rw [hr] at CL hR0 hgo
              simp only at hR0 hgo
              have HG := Lib.hid hgo
              have HR0 := Lib.hid hR0
              clear hlo hll hRi hmi hR0 hkw hun huf hmo hlt hy hdr hr hgo
              go_wp2_with fail
              refine CL.out.mono ?_
              rintro e w3 hO
              obtain ⟨rfl, ⟨m2, hR3, hm3⟩, hk3⟩ := hO
              have H3 := Lib.hid (And.intro hR3 (And.intro hm3 hk3))
              clear hR3 hm3 hk3 CL cy
              by_cases h1 : r1 = -1
              · subst h1
                have hR0 : ((-1, r2) : Int × LeT) = R0 := HR0.out
                have HRE := Lib.hid hR0
                clear hR0 HR0
                go_wp2
                go_ret
                unfold LenOut
                rw [HX.out, ← HRE.out]
                refine ⟨rfl, ⟨m2, H3.out.1, ?_⟩, HI.out.2.2.2.2.2.trans H3.out.2.2⟩
                have h1 := H3.out.2.1
                have h2 := HI.out.2.2.2.1
                have h3 := HOL.out.2.1
                simp only at h1 ⊢
                omega
              · have b1 : (r1 == -1) = false := beq_eq_false_iff_ne.2 h1
                have hR0 : lenL (lenF S.ds f) x (own.drop (i + 1)) (min (sum + r1) 9) r2 = R0 := (if_neg h1).symm.trans HR0.out
                have HRE := Lib.hid hR0
                have hg1 := HG.out.1
                have q1 : IntKind.i64.wrap (sum + r1) = sum + r1 := IntWalk.i64_in _ (by omega)
                clear hR0 HR0
                go_wp2_with fail
                go_roundw
                case rel =>
                  have h2 := HI.out.2.2.2.1
                  have h4 := H3.out.2.1
                  exact ⟨i + 1, min (sum + r1) 9, rfl, by go_num, by rw [HOL.out.2.2.2]; omega, by omega, HI.out.2.2.2.2.2.trans H3.out.2.2, r2, m2, HG.out.2.1, fun z hz => HG.out.2.2 z (HI.out.2.1 z hz), H3.out.1, by omega, HRE.out⟩
                case measure => simp [RowKit.intOf]; omega
            · have hi : i = k := by omega
              subst hi
              have hdr : own.drop i = [] := List.drop_eq_nil_of_le (by rw [HOL.out.2.2.2]; exact Nat.le_refl _)
              rw [hdr, lenL] at hR0
              have HRE := Lib.hid hR0
              have c7 : wr.cell? ⟨R.g, 7, none⟩ = some (.map (some R.bn)) := by rw [Lib.cell_of_heap hRi.cell]; rfl
              have hE := hRi.e.2
              simp only at hE
              have hmb : mi < maxLen := by unfold maxLen; omega
              clear hlo hll hRi hR0 hkw hun huf hmo hdr hlt
              go_wp2_with (first | (at_mapUpdate; refine wpList_put _ rfl _ _ _ 69 rfl 21 _ (int_keyed Tryz.underlying21) Tryz.underlying69 R.bn mi (ptF (leV le)) rfl hE hmb _ _ _ rfl rfl hkey ?_; intro w3 hm3 hk3) | fail)
              go_ret
              have hm4 : MapG Tryz.prog 21 R.bn (mi + 1) (ptF (leV (updN le x sum))) w3 := MapG.congr hm3 (leV_put le x sum)
              unfold LenOut
              rw [HX.out, ← HRE.out]
              refine ⟨rfl, ⟨mi + 1, HI.out.2.2.1.newe hk3 hm4, ?_⟩, HI.out.2.2.2.2.2.trans hk3⟩
              have h2 := HI.out.2.2.2.1
              have h3 := HOL.out.2.1
              have h5 := unk_mono L (LeLe.upd le x sum)
              simp only
              omega
end Go.Proofs.YtfpfpaaojdodnaaGreatDoor
/- props: what is wrong with a full decomposition. -/
namespace Go.Proofs.YtfpfpaaojdodnaaGreatDoor
open Go Go.RowKit Go.Kt Go.Kt.Rg Go.Maps

def endN (k : Int) : Nat := if k = -1 then 14 else if 8 < k then 5 else 0
def EndOut (B0 : Nat) (ρ : Nat → Nat) (R : RdB) (line n m : Nat) (L : List Nat) (S : RdS) (cv kv : Value) (r : Int × LeT) (w : World) (e : Ending) (w' : World) : Prop :=
  e = .returned (.int .i64 (endN r.1 : Nat)) ∧ (∃ m', RdW B0 ρ R line n m' { S with le := r.2 } cv kv w' ∧ m' + 2 * unk L r.2 ≤ m + 2 * unk L S.le) ∧ Keep (fun b => b = R.bn) w w'

set_option maxRecDepth 100000 in
theorem pended {B0 : Nat} {R : RdB} {line n : Nat} (L : List Nat) (f : Nat) (w : World) (ρ : Nat → Nat) (m : Nat) (S : RdS) (cv kv : Value) (x : Nat) (hR : RdW B0 ρ R line n m S cv kv w) (hL : ∀ y, (S.ds y).isSome = true → y ∈ L) (hds : ∀ y l, S.ds y = some l → l.length ≤ 9 ∧ ∀ z ∈ l, z ≤ 1114111)
    (hle : LeOk S.le) (hu : unk L S.le < f) (hx : x ≤ 1114111) (hm : m + 2 * unk L S.le ≤ 1099511627776) :
    Calls Tryz.prog 34 #[.pointer (some ⟨R.g, 0, none⟩), .int .i32 (x : Nat)] w fun e w' => EndOut B0 ρ R line n m L S cv kv (lenF S.ds f S.le x) w e w' := by
  have CL := Lib.hid (plen L f w ρ m S cv kv x hR hL hds hle hu hx hm)
  have hok := (lenF_ok S.ds f S.le x hle).1
  obtain ⟨r, hr⟩ : ∃ r, lenF S.ds f S.le x = r := ⟨_, rfl⟩
  rw [hr] at CL hok ⊢
  clear hR hL hds hle hu hx hm hr
  obtain ⟨r1, r2⟩ := r
  simp only at hok
  go_enter Tryz.func34, Tryz.ntmps34
  go_wp2_with fail
  refine CL.out.mono ?_
  rintro e w1 hO
  obtain ⟨rfl, hO2, hO3⟩ := hO
  have HO := Lib.hid (And.intro hO2 hO3)
  clear hO2 hO3 CL
  by_cases h1 : r1 = -1
  · subst h1
    have HX : Hid (endN (-1) = 14) := Lib.hid rfl
    go_wp2
    go_ret
    unfold EndOut
    simp only
    rw [HX.out]
    exact ⟨rfl, HO.out⟩
  · have b1 : (r1 == -1) = false := beq_eq_false_iff_ne.2 h1
    by_cases h8 : 8 < r1
    · have HX : Hid (endN r1 = 5) := Lib.hid (by unfold endN; rw [if_neg h1, if_pos h8])
      go_wp2
      go_ret
      unfold EndOut
      simp only
      rw [HX.out]
      exact ⟨rfl, HO.out⟩
    · have HX : Hid (endN r1 = 0) := Lib.hid (by unfold endN; rw [if_neg h1, if_neg h8])
      have h9 : r1 ≤ 8 := by omega
      clear h8
      go_wp2
      go_ret
      unfold EndOut
      simp only
      rw [HX.out]
      exact ⟨rfl, HO.out⟩
end Go.Proofs.YtfpfpaaojdodnaaGreatDoor
/- props: newReader. WRITTEN by wip/tools/gen_jn.py. -/
namespace Go.Proofs.YtfpfpaaojdodnaaGreatDoor
open Go Go.RowKit Go.Kt Go.Kt.Rg Go.Maps

def rd0 : RdS := ⟨[], [], fun _ => none, fun _ => none, fun _ => none, fun _ => none⟩
theorem MapG.alloc {P : Program} {k : TypeId} {b n : Nat} {f : Lit → Option Value} {w : World} (h : MapG P k b n f w) (o : Obj) : MapG P k b n f (w.alloc o) := MapG.keep h ((Keep.refl (fun _ => False) w).alloc o) (fun h => h)
theorem ptF_none {vs : Nat → Option Value} (h : ∀ x, vs x = none) (kl : Lit) : none = ptF vs kl := by
  unfold ptF
  split
  · split
    · rw [h]
    · rfl
  · rfl
theorem says_put (g : Nat) (kl : Lit) (hk : WideAt.IsKeyLit kl) : putF (putF (putF (putF (fun _ => none) (.string [99, 108, 97, 115, 115]) (saysV g 68)) (.string [107, 105, 110, 100]) (saysV g 69)) (.string [102, 111, 108, 100]) (saysV g 70)) (.string [100, 101, 99, 111, 109, 112]) (saysV g 71) kl = saysF g kl := by
  by_cases e4 : kl = .string [100, 101, 99, 111, 109, 112]
  · subst e4; rw [putF_same _ _ hk]; rfl
  rw [putF_other _ e4]
  by_cases e3 : kl = .string [102, 111, 108, 100]
  · subst e3; rw [putF_same _ _ hk]; rfl
  rw [putF_other _ e3]
  by_cases e2 : kl = .string [107, 105, 110, 100]
  · subst e2; rw [putF_same _ _ hk]; rfl
  rw [putF_other _ e2]
  by_cases e1 : kl = .string [99, 108, 97, 115, 115]
  · subst e1; rw [putF_same _ _ hk]; rfl
  rw [putF_other _ e1]
  unfold saysF
  split
  · rename_i b
    rw [if_neg (fun h => e1 (by rw [h])), if_neg (fun h => e2 (by rw [h])), if_neg (fun h => e3 (by rw [h])), if_neg (fun h => e4 (by rw [h]))]
  · rfl
def newRole (H : Nat) : Nat → Nat := fun b => if b = H then 4 else if b = H + 1 then 5 else if b = H + 1 + 1 then 6 else if b = H + 1 + 1 + 1 then 7 else if b = H + 1 + 1 + 1 + 1 then 1 else if b = H + 1 + 1 + 1 + 1 + 1 then 8 else 0
theorem newRole_le (H b : Nat) (h : newRole H b ≠ 0) : H ≤ b := by
  unfold newRole at h
  refine Nat.le_of_not_lt fun hb => h ?_
  rw [if_neg (by omega), if_neg (by omega), if_neg (by omega), if_neg (by omega), if_neg (by omega), if_neg (by omega)]

theorem newRole0 (H : Nat) : newRole H (H) = 4 := by unfold newRole; rw [if_pos rfl]
theorem newRole1 (H : Nat) : newRole H (H + 1) = 5 := by unfold newRole; rw [if_neg (by omega), if_pos rfl]
theorem newRole2 (H : Nat) : newRole H (H + 1 + 1) = 6 := by unfold newRole; rw [if_neg (by omega), if_neg (by omega), if_pos rfl]
theorem newRole3 (H : Nat) : newRole H (H + 1 + 1 + 1) = 7 := by unfold newRole; rw [if_neg (by omega), if_neg (by omega), if_neg (by omega), if_pos rfl]
theorem newRole4 (H : Nat) : newRole H (H + 1 + 1 + 1 + 1) = 1 := by unfold newRole; rw [if_neg (by omega), if_neg (by omega), if_neg (by omega), if_neg (by omega), if_pos rfl]
theorem newRole5 (H : Nat) : newRole H (H + 1 + 1 + 1 + 1 + 1) = 8 := by unfold newRole; rw [if_neg (by omega), if_neg (by omega), if_neg (by omega), if_neg (by omega), if_neg (by omega), if_pos rfl]
set_option maxRecDepth 100000 in
set_option maxHeartbeats 4000000 in
theorem pnewR (w : World) : Calls Tryz.prog 28 #[] w fun e w' => ∃ R : RdB, e = .returned (.pointer (some ⟨R.g, 0, none⟩)) ∧ Below w.heap.size w w' ∧ ∃ ρ, RdW w.heap.size ρ R 0 0 0 rd0 (.slice none 0 0) (.slice none 0 0) w' := by
  have hm1 : ∀ W : World, (Instr.makeMap 68 none).run Tryz.prog W = .ok (.map (some W.heap.size)) (W.alloc (.map #[] 0)) := fun W => run_makeMap _ _
  have hm2 : ∀ W : World, (Instr.makeMap 69 none).run Tryz.prog W = .ok (.map (some W.heap.size)) (W.alloc (.map #[] 0)) := fun W => run_makeMap _ _
  have hm3 : ∀ W : World, (Instr.makeMap 66 none).run Tryz.prog W = .ok (.map (some W.heap.size)) (W.alloc (.map #[] 0)) := fun W => run_makeMap _ _
  go_enter Tryz.func28, Tryz.ntmps28
  go_wp2_with fail
  clear hm1 hm2 hm3
  obtain ⟨H, hH⟩ : ∃ H, w.heap.size = H := ⟨_, rfl⟩
  rw [hH]
  have k1 : ∀ (W : World) (o : Obj), (W.alloc o).heap.size = W.heap.size + 1 := fun W o => Array.size_push _
  obtain ⟨W0, hW0⟩ : ∃ W0, ((((((w.alloc (.map #[] 0)).alloc (.map #[] 0)).alloc (.map #[] 0)).alloc (.map #[] 0)).alloc (.cells #[.map none, .int .i64 0, .slice none 0 0, .slice none 0 0, .map (some H), .map (some (H + 1)), .map (some (H + 1 + 1)), .map (some (H + 1 + 1 + 1))] 71)).alloc (.map #[] 0)) = W0 := ⟨_, rfl⟩
  rw [hW0]
  have hM0 : MapG Tryz.prog 9 (H + 1 + 1 + 1 + 1 + 1) 0 (fun _ => none) W0 := by
    have := MapG.made (((((w.alloc (.map #[] 0)).alloc (.map #[] 0)).alloc (.map #[] 0)).alloc (.map #[] 0)).alloc (.cells #[.map none, .int .i64 0, .slice none 0 0, .slice none 0 0, .map (some H), .map (some (H + 1)), .map (some (H + 1 + 1)), .map (some (H + 1 + 1 + 1))] 71)) Tryz.prog 9
    rw [hW0] at this
    simp only [k1, hH] at this
    exact this
  obtain ⟨w1, hr1, hM1, hK1⟩ := hM0.put (string_keyed Tryz.underlying9) Tryz.underlying66 (by decide) (val := saysV (H + 1 + 1 + 1 + 1) 68) (key := .string ⟨#[99, 108, 97, 115, 115]⟩) (kl := .string [99, 108, 97, 115, 115]) (Go.WideMaps.keyOf_string_mk (P := Tryz.prog) Tryz.underlying9 (s := ⟨#[99, 108, 97, 115, 115]⟩) (by decide))
  unfold saysV at hr1
  rw [hr1]
  clear hr1
  go_wp2_with fail
  obtain ⟨w2, hr2, hM2, hK2⟩ := hM1.put (string_keyed Tryz.underlying9) Tryz.underlying66 (by decide) (val := saysV (H + 1 + 1 + 1 + 1) 69) (key := .string ⟨#[107, 105, 110, 100]⟩) (kl := .string [107, 105, 110, 100]) (Go.WideMaps.keyOf_string_mk (P := Tryz.prog) Tryz.underlying9 (s := ⟨#[107, 105, 110, 100]⟩) (by decide))
  unfold saysV at hr2
  rw [hr2]
  clear hr2
  go_wp2_with fail
  obtain ⟨w3, hr3, hM3, hK3⟩ := hM2.put (string_keyed Tryz.underlying9) Tryz.underlying66 (by decide) (val := saysV (H + 1 + 1 + 1 + 1) 70) (key := .string ⟨#[102, 111, 108, 100]⟩) (kl := .string [102, 111, 108, 100]) (Go.WideMaps.keyOf_string_mk (P := Tryz.prog) Tryz.underlying9 (s := ⟨#[102, 111, 108, 100]⟩) (by decide))
  unfold saysV at hr3
  rw [hr3]
  clear hr3
  go_wp2_with fail
  obtain ⟨w4, hr4, hM4, hK4⟩ := hM3.put (string_keyed Tryz.underlying9) Tryz.underlying66 (by decide) (val := saysV (H + 1 + 1 + 1 + 1) 71) (key := .string ⟨#[100, 101, 99, 111, 109, 112]⟩) (kl := .string [100, 101, 99, 111, 109, 112]) (Go.WideMaps.keyOf_string_mk (P := Tryz.prog) Tryz.underlying9 (s := ⟨#[100, 101, 99, 111, 109, 112]⟩) (by decide))
  unfold saysV at hr4
  rw [hr4]
  clear hr4
  have hcell : W0.heap[H + 1 + 1 + 1 + 1]? = some (.cells #[.map none, .int .i64 0, .slice none 0 0, .slice none 0 0, .map (some H), .map (some (H + 1)), .map (some (H + 1 + 1)), .map (some (H + 1 + 1 + 1))] 71 (0, 0)) := by
    rw [← hW0, heap_alloc_if, if_neg (by simp only [k1, hH]; omega), heap_alloc_if, if_pos (by simp only [k1, hH])]
  have g1 : Hid (MapG Tryz.prog 21 H 0 (fun _ => none) W0) := Lib.hid (by
    have := MapG.made w Tryz.prog 21
    rw [hH] at this
    rw [← hW0]
    exact MapG.alloc (MapG.alloc (MapG.alloc (MapG.alloc (MapG.alloc this _) _) _) _) _)
  have g2 : Hid (MapG Tryz.prog 21 (H + 1) 0 (fun _ => none) W0) := Lib.hid (by
    have := MapG.made (w.alloc (.map #[] 0)) Tryz.prog 21
    simp only [k1, hH] at this
    rw [← hW0]
    exact MapG.alloc (MapG.alloc (MapG.alloc (MapG.alloc this _) _) _) _)
  have g3 : Hid (MapG Tryz.prog 21 (H + 1 + 1) 0 (fun _ => none) W0) := Lib.hid (by
    have := MapG.made ((w.alloc (.map #[] 0)).alloc (.map #[] 0)) Tryz.prog 21
    simp only [k1, hH] at this
    rw [← hW0]
    exact MapG.alloc (MapG.alloc (MapG.alloc this _) _) _)
  have g4 : Hid (MapG Tryz.prog 21 (H + 1 + 1 + 1) 0 (fun _ => none) W0) := Lib.hid (by
    have := MapG.made (((w.alloc (.map #[] 0)).alloc (.map #[] 0)).alloc (.map #[] 0)) Tryz.prog 21
    simp only [k1, hH] at this
    rw [← hW0]
    exact MapG.alloc (MapG.alloc this _) _)
  have hBW : Below H w W0 := by
    rw [← hW0, ← hH]
    exact ((((((Below.refl _ w).alloc (Nat.le_refl _) _).alloc (by simp) _).alloc (by simp; omega) _).alloc (by simp; omega) _).alloc (by simp; omega) _).alloc (by simp; omega) _
  have hKK := ((hK1.trans hK2).trans hK3).trans hK4
  have HKK := Lib.hid hKK
  have HBW := Lib.hid hBW
  have HM4 := Lib.hid (MapG.congr hM4 (says_put _))
  have hz : W0.heap.size = H + 1 + 1 + 1 + 1 + 1 + 1 := by rw [← hW0]; simp only [k1, hH]
  have HZ := Lib.hid hz
  have hcell4 := hKK.heap hcell (by omega)
  have HC4 := Lib.hid hcell4
  have c0 : w4.cell? ⟨H + 1 + 1 + 1 + 1, 0, none⟩ = some (.map none) := by rw [Lib.cell_of_heap hcell4]; rfl
  have f0 : w4.frozen? ⟨H + 1 + 1 + 1 + 1, 0, none⟩ = false := Lib.frozen_of_heap hcell4 _
  clear hM0 hM1 hM2 hM3 hM4 hK1 hK2 hK3 hK4 hKK hBW hcell hcell4 hW0 k1 hz
  go_wp2
  go_ret
  rw [hH]
  have hset := heap_setCell_same w4 (H + 1 + 1 + 1 + 1) 0 _ _ (.map (some (H + 1 + 1 + 1 + 1 + 1))) HC4.out
  obtain ⟨W5, hW5⟩ : ∃ W5, w4.setCell ⟨H + 1 + 1 + 1 + 1, 0, none⟩ (.map (some (H + 1 + 1 + 1 + 1 + 1))) = W5 := ⟨_, rfl⟩
  have hK5 : Keep (fun b => b = H + 1 + 1 + 1 + 1) w4 W5 := by
    rw [← hW5]
    exact Keep.setCell (X := fun b => b = H + 1 + 1 + 1 + 1) (Keep.refl _ w4) (p := ⟨H + 1 + 1 + 1 + 1, 0, none⟩) rfl _
  rw [hW5] at hset ⊢
  have hz4 := HKK.out.size
  rw [HZ.out] at hz4
  have hK : Keep (fun b => b = H + 1 + 1 + 1 + 1 + 1 ∨ b = H + 1 + 1 + 1 + 1) W0 W5 := (HKK.out.weaken (fun _ _ h => Or.inl h)).trans (hK5.weaken (fun _ _ h => Or.inr h))
  refine ⟨⟨H + 1 + 1 + 1 + 1, H + 1 + 1 + 1 + 1 + 1, H, H + 1, H + 1 + 1, H + 1 + 1 + 1⟩, rfl, HBW.out.trans (hK.below (by rw [HZ.out]; omega) (fun b hb => by omega)), newRole H, ?_⟩
  have gm : ∀ (b k : Nat) (f : Lit → Option Value), MapG Tryz.prog k b 0 (fun _ => none) W0 → b < H + 1 + 1 + 1 + 1 → (∀ kl, none = f kl) → MapG Tryz.prog k b 0 f W5 := fun b k f h h2 h3 => MapG.congr (MapG.keep h hK (by omega)) (fun kl _ => h3 kl)
  exact {
    hr := newRole_le H, hB := by have := hK5.size; omega, g := newRole4 H, cell := by simpa [cellsR] using hset
    c := own_nil _ _ _ _
    k := own_nil _ _ _ _
    d := ⟨newRole0 H, fun _ => none, gm (H) _ _ g1.out (by omega) (ptF_none (fun _ => rfl)), fun _ => rfl, fun _ _ _ h => by cases h⟩
    f := ⟨newRole1 H, fun _ => none, gm (H + 1) _ _ g2.out (by omega) (ptF_none (fun _ => rfl)), fun _ => rfl, fun _ _ _ h => by cases h⟩
    l := ⟨newRole2 H, gm (H + 1 + 1) _ _ g3.out (by omega) (ptF_none (fun _ => rfl))⟩
    e := ⟨newRole3 H, gm (H + 1 + 1 + 1) _ _ g4.out (by omega) (ptF_none (fun _ => rfl))⟩
    s := ⟨newRole5 H, MapG.keep HM4.out hK5 (show ¬ H + 1 + 1 + 1 + 1 + 1 = H + 1 + 1 + 1 + 1 by omega)⟩ }
end Go.Proofs.YtfpfpaaojdodnaaGreatDoor
