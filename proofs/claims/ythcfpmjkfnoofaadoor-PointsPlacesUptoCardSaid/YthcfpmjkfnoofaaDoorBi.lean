/- utf.Back's inner function: it hands out the units from behind. -/
import Derived.Test.YthcfpmjkfnoofaaDoorO
import Derived.Test.YthcfpmjkfnoofaaDoorCr
namespace Go.Proofs.YthcfpmjkfnoofaaDoor
open Go Go.RowKit Go.Kt Go.Shelf
attribute [local go_sem] Oper.semAt_some

theorem unitsF_split (s : ByteArray) : ∀ (F i0 : Nat) (front : List (Nat × Nat)) (x : Nat × Nat) (rest : List (Nat × Nat)), unitsF s F i0 = front ++ x :: rest → s.size ≤ i0 + F →
    x.1 < s.size ∧ x.2 = (Utf8.decode s x.1).1 ∧ ∃ f', rest = unitsF s f' (x.1 + (Utf8.decode s x.1).2) ∧ s.size ≤ x.1 + (Utf8.decode s x.1).2 + f'
  | 0, _, front, x, rest, h, _ => by simp [unitsF] at h
  | F + 1, i0, front, x, rest, h, hf => by
    by_cases hi : i0 < s.size
    · obtain ⟨d1, d2, d3⟩ := dec_width s i0 hi
      rw [unitsF, if_pos hi] at h
      cases front with
      | nil =>
        simp only [List.nil_append, List.cons.injEq] at h
        obtain ⟨h1, h2⟩ := h
        subst h1
        exact ⟨hi, rfl, F, h2.symm, by simp only; omega⟩
      | cons y t =>
        simp only [List.cons_append, List.cons.injEq] at h
        exact unitsF_split s F _ t x rest h.2 (by omega)
    · rw [unitsF, if_neg hi] at h
      simp at h
theorem unitsF_nil {s : ByteArray} {f e : Nat} (h : unitsF s f e = []) (hf : s.size ≤ e + f) : s.size ≤ e := by
  rcases Nat.lt_or_ge e s.size with h1 | h1
  · cases f with
    | zero => omega
    | succ f => rw [unitsF, if_pos h1] at h; cases h
  · exact h1
theorem unitsF_head {s : ByteArray} {f e : Nat} {x : Nat × Nat} {r : List (Nat × Nat)} (h : unitsF s f e = x :: r) : x.1 = e := by
  cases f with
  | zero => simp [unitsF] at h
  | succ f =>
    rw [unitsF] at h
    split at h
    · simp only [List.cons.injEq] at h; rw [← h.1]
    · cases h

/-- 'front' are the units ahead of the byte e. -/
def Fr (s : ByteArray) (front : List (Nat × Nat)) (e : Nat) : Prop := ∃ f, units s = front ++ unitsF s f e ∧ (unitsF s f e = [] → s.size ≤ e) ∧ e ≤ s.size
theorem Fr.all (s : ByteArray) : Fr s (units s) s.size := ⟨0, by simp [unitsF], fun _ => Nat.le_refl _, Nat.le_refl _⟩
theorem Fr.zero {s : ByteArray} {e : Nat} (h : Fr s [] e) : e = 0 := by
  obtain ⟨f, h1, h2, h3⟩ := h
  rw [List.nil_append] at h1
  rcases Nat.eq_zero_or_pos s.size with hz | hz
  · omega
  · cases hu : units s with
    | nil =>
      have := unitsF_nil (show unitsF s s.size 0 = [] from hu) (by omega)
      omega
    | cons x r =>
      rw [hu] at h1
      have e1 := unitsF_head h1.symm
      have e2 := unitsF_head (show unitsF s s.size 0 = x :: r from hu)
      omega
theorem Fr.snoc {s : ByteArray} {front : List (Nat × Nat)} {x : Nat × Nat} {e : Nat} (h : Fr s (front ++ [x]) e) : x.1 < s.size ∧ x.2 = (Utf8.decode s x.1).1 ∧ e = x.1 + (Utf8.decode s x.1).2 ∧ Fr s front x.1 := by
  obtain ⟨f, h1, h2, h3⟩ := h
  rw [List.append_assoc] at h1
  have h1' : unitsF s s.size 0 = front ++ x :: unitsF s f e := h1
  obtain ⟨a1, a2, f', a3, a4⟩ := unitsF_split s s.size 0 front x _ h1' (by omega)
  obtain ⟨d1, d2, d3⟩ := dec_width s x.1 a1
  refine ⟨a1, a2, ?_, f' + 1, ?_, fun h => (by rw [unitsF, if_pos a1] at h; cases h), by omega⟩
  · cases hu : unitsF s f e with
    | nil =>
      have k1 := h2 hu
      rw [hu] at a3
      have k2 := unitsF_nil a3.symm a4
      omega
    | cons y r =>
      have k1 := unitsF_head hu
      rw [hu] at a3
      have k2 := unitsF_head a3.symm
      omega
  · rw [h1, unitsF, if_pos a1, ← a3, ← a2]; rfl

set_option maxRecDepth 100000 in
set_option maxHeartbeats 1000000 in
theorem back_iter (s : ByteArray) (bs : Nat) (w0 : World) (hc : w0.cell? ⟨bs, 0, none⟩ = some (.string s)) (hs : s.size ≤ 4611686018427387904) (hT : Lib.Utf8Tabs 1 2 w0) (_hbs2 : 3 ≤ bs) :
    Iter Tryd.prog 55 #[.pointer (some ⟨bs, 0, none⟩)] enc2 (units s).reverse (fun b => b = bs ∨ b < 3) w0 := by
  intro l X J Jx W hNd hX hsame hsz hJ hJx hY h0
  have hcW : W.cell? ⟨bs, 0, none⟩ = some (.string s) := (World.cell?_of_block (w := w0) (a := ⟨bs, 0, none⟩) (hsame bs (.inl rfl))).trans hc
  have hTW : Lib.Utf8Tabs 1 2 W := ⟨fun c hc => (World.cell?_of_block (w := w0) (a := ⟨1, c, none⟩) (hsame 1 (.inr (by omega)))).trans (hT.1 c hc), fun i hi => ⟨(World.cell?_of_block (w := w0) (a := ⟨2, 2 * i, none⟩) (hsame 2 (.inr (by omega)))).trans (hT.2 i hi).1, (World.cell?_of_block (w := w0) (a := ⟨2, 2 * i + 1, none⟩) (hsame 2 (.inr (by omega)))).trans (hT.2 i hi).2⟩⟩
  have hbs : bs < W.heap.size := lt_of_cell hcW
  have hXb : ¬ X bs := hNd bs (.inl rfl)
  have hX0 : ¬ X 1 := hNd 1 (.inr (by omega))
  have hX1 : ¬ X 2 := hNd 2 (.inr (by omega))
  have KeepT : Hid (∀ V : World, Keep X W V → Lib.Utf8Tabs 1 2 V) := Lib.hid fun V hk => ⟨fun c hc => hk.cell (hTW.1 c hc) hX0, fun i hi => ⟨hk.cell (hTW.2 i hi).1 hX1, hk.cell (hTW.2 i hi).2 hX1⟩⟩
  clear hTW hT
  have hfn : ∀ k, Fence.wide.fn k := fun _ => trivial
  have hdep : Fence.wide.depth = none := rfl
  refine (callsIn_wide (n := 0)).1 ?_
  refine callsIn_of_wp Tryd.func55 rfl trivial ?_ rfl
  simp only [Tryd.ntmps55, List.size_toArray, List.length_cons, List.length_nil, Nat.reduceAdd, Nat.reduceSub, Array.replicate_succ, Array.replicate_zero, List.push_toArray, List.append_toArray, List.nil_append, List.cons_append]
  gi_wp2
  gi_loopw [3, 4, 5] (fun v _ _ wr => ∃ (front pre : List (Nat × Nat)) (Y : Nat → Prop) (e : Nat), (∀ b, Y b → W.heap.size ≤ b) ∧ v = .int .i64 e ∧ Fr s front e ∧ pre ++ front.reverse = (units s).reverse ∧ J pre Y wr ∧ Keep X W wr)
    (fun v _ _ _ => (RowKit.intOf v).toNat)
  case atStart => exact ⟨units s, [], _, s.size, fun _ h => h.elim, rfl, Fr.all s, rfl, h0, Keep.refl _ _⟩
  case round =>
    obtain ⟨front, pre, Y, e, hYl, rfl, hfr, hp, hJs, hk⟩ := hrel
    have hcr := hk.cell hcW hXb
    rcases List.eq_nil_or_concat front with rfl | ⟨fr, x, rfl⟩
    · obtain rfl := hfr.zero
      rw [List.reverse_nil, List.append_nil] at hp
      have Hp := Lib.hid hp
      clear hp hfr
      gi_wp2
      go_end0
      exact ⟨⟨_, rfl⟩, hk, .inl ⟨Y, fun b hb => by have := hYl b hb; omega, Hp.out ▸ hJs⟩⟩
    · rw [List.concat_eq_append] at hfr hp
      obtain ⟨x1, x2, x3, hfr'⟩ := hfr.snoc
      obtain ⟨d1, d2, d3⟩ := dec_width s x.1 x1
      have hm : x.1 ∈ placesF s s.size 0 := by
        obtain ⟨f, h1, _, _⟩ := hfr
        unfold placesF
        have h1' : unitsF s s.size 0 = (fr ++ [x]) ++ unitsF s f e := h1
        rw [h1']
        simp
      have hbe := before_unit s x.1 x1 hm
      rw [show ((x.1 : Int) + (Utf8.decode s x.1).2) = ((e : Nat) : Int) by rw [x3]; simp] at hbe
      have C := Lib.hid (fun (V : World) (hV : Keep X W V) => utfBefore_any s e V (KeepT.out V hV) hs)
      rw [hbe] at C
      have hp2 : (pre ++ [x]) ++ fr.reverse = (units s).reverse := by rw [← hp]; simp
      have hpre : pre ++ [x] <+: (units s).reverse := ⟨fr.reverse, hp2⟩
      have Hdat := Lib.hid (And.intro hp2 (And.intro hfr' (And.intro hpre x3)))
      have he0 : (0 : Int) < e := by omega
      rw [← x2] at C
      have hwd : ((e : Nat) : Int) - ((Utf8.decode s x.1).2 : Nat) = ((x.1 : Nat) : Int) := by omega
      have hxs : x.1 ≤ 4611686018427387904 := by omega
      generalize (Utf8.decode s x.1).2 = wd at *
      clear hp hp2 hpre hfr hfr' x2 x3 hm hbe
      obtain ⟨at', r⟩ := x
      simp only at C hwd hxs x1 d2 d3
      gi_wp2_with fail
      refine (callsIn_wide.2 (C.out _ hk)).mono ?_
      rintro e1 V1 ⟨rfl, hb1⟩
      have hk1 : Keep X W V1 := hk.trans (.of_all hb1)
      have hJ1 : J pre Y V1 := hJ _ _ _ _ (.of_all hb1) hJs
      obtain ⟨fn, tmps, assign, body, hy, hR⟩ := hY pre (at', r) Y V1 Hdat.out.2.2.1 hJ1 (by have := hb1.size; have := hk.size; omega) (fun b hb => by have := hYl b hb; omega)
      have HK1 := Lib.hid hk1
      clear hb1 hJ1
      gi_wp2_with fail
      refine hR.mono ?_
      rintro e3 V3 ⟨Y', hk4, hY', (⟨rfl, hJ3⟩ | ⟨rfl, hJx3⟩)⟩
      all_goals have hk3 := HK1.out
      all_goals have hzk := hk3.size
      all_goals have hkW : Keep X W V3 := ⟨hk4.os.trans hk3.os, hk4.tape.trans hk3.tape, hk4.output.trans hk3.output, Nat.le_trans hk3.size hk4.size, fun b hb hx => (hk4.same b (Nat.lt_of_lt_of_le hb hk3.size) (fun h => by rcases h with h | h; exact hx h; have := hYl b h; omega)).trans (hk3.same b hb hx)⟩
      · clear hk4 hk3
        gi_wp2
        go_roundw
        case rel => exact ⟨fr, pre ++ [(at', r)], Y', at', fun b hb => by rcases hY' b hb with h | h; exact hYl b h; omega, rfl, Hdat.out.2.1, Hdat.out.1, hJ3, hkW⟩
        case measure => simp [RowKit.intOf]; have := Hdat.out.2.2.2; omega
      · clear hk4 hk3
        gi_wp2
        refine bodyPost_ret (results_none rfl _ _ _) rfl ?_
        exact ⟨⟨_, rfl⟩, hkW, .inr ⟨_, Y', Hdat.out.2.2.1, fun b hb => by rcases hY' b hb with h | h; have := hYl b h; omega; omega, hJx3⟩⟩
end Go.Proofs.YthcfpmjkfnoofaaDoor
