/- Parts of the proof of what the last text says. -/
import Derived.Test.YtmpjlenfnlijfaaGreatDoorCm4
import Derived.Test.YtmpjlenfnlijfaaGreatDoorCm3
import Derived.Lib.AppendStr
import Derived.Deep.AppendLies
/- The iterator of a set's points. -/
namespace Go.Proofs.YtmpjlenfnlijfaaGreatDoor
open Go Go.RowKit Go.Kt Go.Kt.Rg
attribute [local go_sem] Oper.semAt_some

/-- The points of a run; of all runs. -/
def ptsR (x : Run) : List Int := (List.range (x.2 - x.1).toNat).map fun i => pntI (x.1 + (i : Nat))
def ptsL (l : List Run) : List Int := l.flatMap ptsR
def encPt (x : Int) : Array Value := #[.int .i32 x]
theorem ptsR_len (x : Run) : (ptsR x).length = (x.2 - x.1).toNat := by simp [ptsR]
theorem ptsL_len : ∀ {l : List Run} {lo : Int}, CanonFrom lo l → ((ptsL l).length : Int) = cntL l
  | [], _, _ => rfl
  | x :: t, lo, h => by
    have := ptsL_len h.2.2.2
    have := h.2.1
    simp only [ptsL, List.flatMap_cons, List.length_append, ptsR_len, cntL] at *
    omega
theorem ptsR_take (x : Run) (i : Nat) (h : (i : Int) < x.2 - x.1) : (ptsR x).take (i + 1) = (ptsR x).take i ++ [pntI (x.1 + (i : Nat))] := by
  rw [List.take_add_one]
  congr 1
  have : i < (x.2 - x.1).toNat := by omega
  simp [ptsR, this]
theorem ptsL_take (l : List Run) (k : Nat) (x : Run) (h : l[k]? = some x) : ptsL (l.take (k + 1)) = ptsL (l.take k) ++ ptsR x := by
  rw [List.take_add_one, h]; simp [ptsL]
theorem ptsL_pre (l : List Run) (k : Nat) (x : Run) (h : l[k]? = some x) (i : Nat) : ptsL (l.take k) ++ (ptsR x).take i <+: ptsL l := by
  have h1 : ptsL l = ptsL (l.take (k + 1)) ++ ptsL (l.drop (k + 1)) := by
    rw [ptsL, ptsL, ptsL, ← List.flatMap_append, List.take_append_drop]
  rw [h1, ptsL_take l k x h]
  exact ⟨(ptsR x).drop i ++ ptsL (l.drop (k + 1)), by rw [List.append_assoc, ← List.append_assoc ((ptsR x).take i), List.take_append_drop, List.append_assoc]⟩

theorem rall_call (b : Nat) (w : World) :
    Calls Tryz.prog 92 #[ptrV b] w fun e w' => e = .returned (.func (.func 130) #[] #[.pointer (some ⟨w.heap.size, 0, none⟩)]) ∧ w.alloc (.cells #[ptrV b] 25) = w' := by
  go_enter Tryz.func92, Tryz.ntmps92
  go_wp2
  go_ret
  exact ⟨rfl, rfl⟩
theorem enters_all : ∀ args w, (callFunc 130 args).run Tryz.prog w = .ok (.enter 130 args) w := enters_of Tryz.func130 (by kernel_rfl) rfl

set_option maxRecDepth 100000 in
set_option maxHeartbeats 4000000 in
theorem rall_iter (l : List Run) (bs b : Nat) (g : Nat) (w0 : World) (hbs : w0.cell? ⟨bs, 0, none⟩ = some (ptrV b)) (hS : ∃ ao cap, w0.cell? ⟨b, 0, none⟩ = some (.slice ao l.length cap) ∧ (l = [] ∨ ao = some ⟨g, 0, none⟩ ∧ ∀ (i : Nat) (x : Run), l[i]? = some x → w0.cell? ⟨g, i * 2, none⟩ = some (.int .i64 x.1) ∧ w0.cell? ⟨g, i * 2 + 1, none⟩ = some (.int .i64 x.2))) (hc : Canon l) (hT : PTab w0) :
    Iter2 Tryz.prog 130 #[.pointer (some ⟨bs, 0, none⟩)] encPt (ptsL l) (fun x => x = bs ∨ x = b ∨ x = g ∨ x = 0) w0 := by
  intro m X J Jx W hNd hX hsame hsz hJ hJx hSl hY h0
  obtain ⟨ao, cap, hb0, hrow⟩ := hS
  have hlen := canon_len hc (Int.le_refl _)
  have hl : l.length ≤ 1112192 := by unfold allN at hlen; omega
  have same : ∀ (p : Addr), (p.block = bs ∨ p.block = b ∨ p.block = g ∨ p.block = 0) → W.cell? p = w0.cell? p := fun p hp => World.cell?_of_block (hsame _ hp)
  have q1 : W.cell? ⟨bs, 0, none⟩ = some (ptrV b) := (same _ (.inl rfl)).trans hbs
  have q2 : W.cell? ⟨b, 0, none⟩ = some (.slice ao l.length cap) := (same _ (.inr (.inl rfl))).trans hb0
  have HT : Hid (PTab W) := Lib.hid ⟨(same ⟨0, _, none⟩ (.inr (.inr (.inr rfl)))).trans hT.1, (same ⟨0, _, none⟩ (.inr (.inr (.inr rfl)))).trans hT.2.1, (same ⟨0, _, none⟩ (.inr (.inr (.inr rfl)))).trans hT.2.2.1,
    (same ⟨0, _, none⟩ (.inr (.inr (.inr rfl)))).trans hT.2.2.2.1, (same ⟨0, _, none⟩ (.inr (.inr (.inr rfl)))).trans hT.2.2.2.2.1, (same ⟨0, _, none⟩ (.inr (.inr (.inr rfl)))).trans hT.2.2.2.2.2⟩
  have HR : Hid (∀ (i : Nat) (x : Run), l[i]? = some x → ao = some ⟨g, 0, none⟩ ∧ W.cell? ⟨g, i * 2, none⟩ = some (.int .i64 x.1) ∧ W.cell? ⟨g, i * 2 + 1, none⟩ = some (.int .i64 x.2)) := Lib.hid fun i x hx => by
    rcases hrow with h | ⟨e, h⟩
    · subst h; simp at hx
    · exact ⟨e, (same ⟨g, _, none⟩ (.inr (.inr (.inl rfl)))).trans (h i x hx).1, (same ⟨g, _, none⟩ (.inr (.inr (.inl rfl)))).trans (h i x hx).2⟩
  have HC := Lib.hid hc
  have HK := Lib.hid (And.intro hX (And.intro hJ (And.intro hJx (And.intro hSl hY))))
  have HX' : Hid (¬ X bs ∧ ¬ X b ∧ ¬ X g ∧ ¬ X 0) := Lib.hid ⟨hNd _ (.inl rfl), hNd _ (.inr (.inl rfl)), hNd _ (.inr (.inr (.inl rfl))), hNd _ (.inr (.inr (.inr rfl)))⟩
  have KT : Hid (∀ V : World, Keep X W V → PTab V) := Lib.hid fun V hk => ⟨hk.cell HT.out.1 HX'.out.2.2.2, hk.cell HT.out.2.1 HX'.out.2.2.2, hk.cell HT.out.2.2.1 HX'.out.2.2.2, hk.cell HT.out.2.2.2.1 HX'.out.2.2.2, hk.cell HT.out.2.2.2.2.1 HX'.out.2.2.2, hk.cell HT.out.2.2.2.2.2 HX'.out.2.2.2⟩
  obtain ⟨n, hn⟩ : ∃ n, l.length = n := ⟨_, rfl⟩
  rw [hn] at hl q2
  have HN := Lib.hid hn
  have hfn : ∀ k, Fence.wide.fn k := fun _ => trivial
  have hdep : Fence.wide.depth = none := rfl
  clear hNd hsame hsz hc hT hrow hb0 hbs same hlen hn hX hJ hJx hSl hY
  refine (callsIn_wide (n := 0)).1 ?_
  refine callsIn_of_wp Tryz.func130 rfl trivial ?_ rfl
  simp only [Tryz.ntmps130, List.size_toArray, List.length_cons, List.length_nil, Nat.reduceAdd, Nat.reduceSub, Array.replicate_succ, Array.replicate_zero, List.push_toArray, List.append_toArray, List.nil_append, List.cons_append]
  gi_wp2
  gi_loopw [11] (fun x wr => ∃ (k : Nat) (Y : Nat → Prop), x = .int .i64 k ∧ k ≤ n ∧ (∀ y, Y y → W.heap.size ≤ y) ∧ J (ptsL (l.take k)) Y wr ∧ Keep X W wr)
    (fun x _ => n - (RowKit.intOf x).toNat)
  case atStart => exact ⟨0, _, rfl, by omega, fun _ h => h.elim, h0, Keep.refl _ _⟩
  case round =>
    obtain ⟨k, Y, rfl, hk, hYl, hJs, hkp⟩ := hrel
    by_cases hlt : k < n
    · have hlt' : (k : Int) < n := by omega
      obtain ⟨x, hx⟩ : ∃ x, l[k]? = some x := ⟨_, List.getElem?_eq_getElem (by rw [HN.out]; exact hlt)⟩
      obtain ⟨rfl, r1', r2'⟩ := HR.out k x hx
      have r1 := hkp.cell r1' HX'.out.2.2.1
      have r2 := hkp.cell r2' HX'.out.2.2.1
      have hf := Canon.fit HC.out x (List.mem_of_getElem? hx)
      unfold allN at hf
      have HPR := Lib.hid (fun i => ptsL_pre l k x hx i)
      have HTK := Lib.hid (ptsL_take l k x hx)
      have HTR := Lib.hid (fun i => ptsR_take x i)
      have HLR := Lib.hid (ptsR_len x)
      obtain ⟨x1, x2⟩ := x
      simp only at r1 r2 hf HTR HLR
      obtain ⟨Z, hZ⟩ : ∃ Z, Z = fun y => Y y ∧ y < wr.heap.size := ⟨_, rfl⟩
      have hJZ : J (ptsL (l.take k)) Z wr := by rw [hZ]; exact HK.out.2.2.2.1 _ _ _ hJs
      obtain ⟨V, hV⟩ : ∃ V, wr.alloc (.cells #[.int .i64 x1, .int .i64 x2] 85) = V := ⟨_, rfl⟩
      obtain ⟨q, hq⟩ : ∃ q, wr.heap.size = q := ⟨_, rfl⟩
      have hWq : W.heap.size ≤ q := by rw [← hq]; exact hkp.size
      have hJV : J (ptsL (l.take k)) Z V := by rw [← hV]; exact HK.out.2.1 _ _ _ _ ((Keep.refl _ _).alloc _) hJZ
      have hkV : Keep X W V := by rw [← hV]; exact hkp.alloc _
      have hqV : V.heap[q]? = some (.cells #[.int .i64 x1, .int .i64 x2] 85 (0, 0)) := by rw [← hV]; exact alloc_at hq.symm
      have hZq : ¬ Z q := by rw [hZ]; intro h; have := h.2; omega
      have hZl : ∀ y, Z y → W.heap.size ≤ y := fun y hy => by rw [hZ] at hy; exact hYl y hy.1
      have v0 := Lib.cell_of_heap hqV 0
      simp at v0
      have HV := Lib.hid (And.intro hV hq)
      have HJV := Lib.hid (And.intro hJV (And.intro hkV (And.intro hqV (And.intro hZq hZl))))
      clear hJZ hJV hkV hqV hZq hZl hZ hV hq hYl hJs hkp hx r1' r2'
      gi_wp2_with fail
      rw [HV.out.2, HV.out.1]
      gi_wp2_with fail
      obtain ⟨wo, rfl⟩ : ∃ wo : World, wo = wr := ⟨_, rfl⟩
      gi_loopw [5] (fun x wr => ∃ (i : Nat) (Y : Nat → Prop), x = .int .i64 (x1 + (i : Nat)) ∧ (i : Int) ≤ x2 - x1 ∧ (∀ y, Y y → W.heap.size ≤ y) ∧ ¬ Y q ∧ J (ptsL (l.take k) ++ (ptsR (x1, x2)).take i) Y wr ∧ Keep X W wr ∧ wr.heap[q]? = some (.cells #[.int .i64 x1, .int .i64 x2] 85 (0, 0)))
        (fun x _ => (x2 - RowKit.intOf x).toNat)
      case atStart => exact ⟨0, Z, by simp, by omega, HJV.out.2.2.2.2, HJV.out.2.2.2.1, by simpa using HJV.out.1, HJV.out.2.1, HJV.out.2.2.1⟩
      case round =>
        obtain ⟨i, Y, rfl, hi, hYl, hYq, hJs, hkp, hqc⟩ := hrel
        have c0 := Lib.cell_of_heap hqc 1
        simp at c0
        have hql : q < wr.heap.size := (Array.getElem?_eq_some_iff.1 hqc).1
        by_cases hlt2 : (i : Int) < x2 - x1
        · have hlt3 : x1 + (i : Int) < x2 := by omega
          have hpre := HPR.out (i + 1)
          rw [HTR.out i hlt2] at hpre
          have CP := Lib.hid (rpoint_any (x1 + (i : Int)) wr (KT.out wr hkp) (by omega))
          have hb0 : 0 ≤ x1 + (i : Int) := by omega
          have hb1 : x1 + (i : Int) ≤ 1112192 := by omega
          obtain ⟨pt, hpt⟩ : ∃ pt, pntI (x1 + (i : Nat)) = pt := ⟨_, rfl⟩
          have hTI := HTR.out i hlt2
          rw [hpt] at CP hpre hTI
          rw [← List.append_assoc] at hpre
          have HI := Lib.hid (And.intro hYl (And.intro hYq (And.intro hJs (And.intro hkp (And.intro hqc (And.intro hpre hTI))))))
          clear hYl hYq hJs hkp hqc hpre hTI hpt
          gi_wp2_with fail
          refine (callsIn_wide.2 CP.out).mono ?_
          rintro e1 V1 ⟨rfl, hbv⟩
          have hk1 : Keep X W V1 := HI.out.2.2.2.1.trans (.of_all hbv)
          have hJ1 := HK.out.2.1 _ _ _ _ (.of_all hbv) HI.out.2.2.1
          have hs1 := hbv.size
          have hyy : YieldAt Fence.wide 0 Tryz.prog m #[.int .i32 pt] V1 _ := HK.out.2.2.2.2 (ptsL (l.take k) ++ (ptsR (x1, x2)).take i) pt Y V1 HI.out.2.2.2.2.2.1 hJ1 hk1.size HI.out.1
          obtain ⟨fn, tmps, assign, body, hy, hR⟩ := hyy
          have hq1 : V1.heap[q]? = some (.cells #[.int .i64 x1, .int .i64 x2] 85 (0, 0)) := (hbv.block q hql).trans HI.out.2.2.2.2.1
          have H1 := Lib.hid (And.intro hk1 (And.intro hq1 (Nat.lt_of_lt_of_le hql hs1)))
          clear hbv hJ1 hk1 hq1 hs1
          gi_wp2_with fail
          refine hR.mono ?_
          rintro e3 V3 ⟨Y', hk4, hY', (⟨rfl, hJ3⟩ | ⟨rfl, hJx3⟩)⟩
          all_goals have hk3 := H1.out.1
          all_goals have hzk := hk3.size
          all_goals have hkW : Keep X W V3 := ⟨hk4.os.trans hk3.os, hk4.tape.trans hk3.tape, hk4.output.trans hk3.output, Nat.le_trans hk3.size hk4.size, fun b hb hx => (hk4.same b (Nat.lt_of_lt_of_le hb hk3.size) (fun h => by rcases h with h | h; exact hx h; have := HI.out.1 b h; omega)).trans (hk3.same b hb hx)⟩
          all_goals have hYl2 : ∀ b, Y' b → W.heap.size ≤ b := fun b hb => by rcases hY' b hb with h | h; exact HI.out.1 b h; omega
          · have hYq2 : ¬ Y' q := fun h => by
              rcases hY' q h with h | h
              · exact HI.out.2.1 h
              · have := H1.out.2.2; omega
            have hq3 : V3.heap[q]? = some (.cells #[.int .i64 x1, .int .i64 x2] 85 (0, 0)) := hk4.heap H1.out.2.1 (fun h => by
              rcases h with h | h
              · have := HK.out.1 q h; omega
              · exact HI.out.2.1 h)
            have HF := Lib.hid (And.intro hYl2 (And.intro hYq2 (And.intro hJ3 (And.intro hkW hq3))))
            clear hk4 hk3 hYl2 hYq2 hJ3 hkW hq3 hY'
            gi_wp2_with fail
            go_roundw
            case rel => exact ⟨i + 1, Y', by congr 1; omega, by omega, HF.out.1, HF.out.2.1, by rw [HI.out.2.2.2.2.2.2, ← List.append_assoc]; exact HF.out.2.2.1, HF.out.2.2.2.1, HF.out.2.2.2.2⟩
            case measure => simp [RowKit.intOf]; omega
          · have HF := Lib.hid (And.intro hYl2 (And.intro hJx3 hkW))
            clear hk4 hk3 hYl2 hJx3 hkW hY'
            gi_wp2_with fail
            refine bodyPost_ret (results_none rfl _ _ _) rfl ?_
            exact ⟨⟨_, rfl⟩, HF.out.2.2, .inr ⟨_, Y', HI.out.2.2.2.2.2.1, HF.out.1, HF.out.2.1⟩⟩
        · have hlt3 : ¬ x1 + (i : Int) < x2 := by omega
          have ei : (ptsR (x1, x2)).take i = ptsR (x1, x2) := List.take_of_length_le (by rw [HLR.out]; omega)
          rw [ei, ← HTK.out] at hJs
          have HF := Lib.hid (And.intro hYl (And.intro hJs hkp))
          clear hYl hYq hJs hkp hqc ei
          gi_wp2_with fail
          go_roundw
          case rel => exact ⟨k + 1, Y, by go_num, by omega, HF.out.1, HF.out.2.1, HF.out.2.2⟩
          case measure => simp [RowKit.intOf]; omega
    · have hlt' : ¬ (k : Int) < n := by omega
      obtain rfl : k = n := by omega
      have e : l.take k = l := by rw [← HN.out, List.take_length]
      rw [e] at hJs
      have HF := Lib.hid (And.intro hkp (And.intro hYl hJs))
      clear hkp hYl hJs e
      gi_wp2_with fail
      go_end0
      exact ⟨⟨_, rfl⟩, HF.out.1, .inl ⟨Y, HF.out.2.1, HF.out.2.2⟩⟩
end Go.Proofs.YtmpjlenfnlijfaaGreatDoor
/- What is the same of any program: a drawn region operation by operation, as in K6; what holds of the world may hang on which operations are done (so a cell may be loaded and, at the end, stored). -/
namespace Go.Kt
open Go

section
variable {P : Program} {ops : Array Oper} {Q : Exit → Act → World → Prop} {md : Region.Mode}

/-- Operation j waits for operation i. -/
def awaits (md : Region.Mode) (ops : Array Oper) (j i : Nat) : Bool := match ops[j]? with | some o => waitsB md o i | none => false
/-- One operation: D tells what is done. -/
def DStep (P : Program) (md : Region.Mode) (ops : Array Oper) (Q : Exit → Act → World → Prop) (S : (Nat → Bool) → World → Prop) (p : Nat → Value → World → Prop) (a0 : Act) (i : Nat) (o : Oper) : Prop :=
  ∀ (D : Nat → Bool) a w, D i = false → (∀ j, awaits md ops j i = true → D j = false) → (∀ j, waitsB md o j = true → D j = true) → S D w → Like ops a0 a → (∀ j k, waitsB md o j = true → slotB ops j k = true → p j (a.tmps.getD k undef) w) →
    Region.wanted o (yielded ops a.tmps) = true ∧ o.wp P a w (fun a' w' => ∃ v, a' = a.put o.dst v ∧ S (fun j => D j || j == i) w' ∧ (∀ j u, D j = true → p j u w → p j u w') ∧ p i v w') Q
def DSteps (P : Program) (md : Region.Mode) (ops : Array Oper) (Q : Exit → Act → World → Prop) (S : (Nat → Bool) → World → Prop) (p : Nat → Value → World → Prop) (a0 : Act) : Nat → List Oper → Prop
  | _, [] => True
  | i, o :: r => DStep P md ops Q S p a0 i o ∧ DSteps P md ops Q S p a0 (i + 1) r
theorem DSteps.get {S : (Nat → Bool) → World → Prop} {p : Nat → Value → World → Prop} {a0 : Act} : ∀ (l : List Oper) (i : Nat), DSteps P md ops Q S p a0 i l → ∀ j o, l[j]? = some o → DStep P md ops Q S p a0 (i + j) o
  | [], _, _, j, o, h => by simp at h
  | x :: r, i, hs, 0, o, h => by simp at h; subst h; exact hs.1
  | x :: r, i, hs, j + 1, o, h => by
    have := DSteps.get r (i + 1) hs.2 j o (by simpa using h)
    rw [show i + (j + 1) = i + 1 + j by omega]; exact this
theorem DSteps.cons {S : (Nat → Bool) → World → Prop} {p : Nat → Value → World → Prop} {a0 : Act} {i : Nat} {o : Oper} {r : List Oper} (h : DStep P md ops Q S p a0 i o) (hr : DSteps P md ops Q S p a0 (i + 1) r) : DSteps P md ops Q S p a0 i (o :: r) := ⟨h, hr⟩
theorem DSteps.nil {S : (Nat → Bool) → World → Prop} {p : Nat → Value → World → Prop} {a0 : Act} {i : Nat} : DSteps P md ops Q S p a0 i [] := trivial

theorem set_done (listed : Array Bool) (i : Nat) (hi : i < listed.size) : (fun j => (listed.setIfInBounds i true).getD j false) = fun j => listed.getD j false || j == i := by
  funext j
  simp only [Array.getD_eq_getD_getElem?, Array.getElem?_setIfInBounds]
  by_cases h : i = j
  · subst h; simp [hi]
  · rw [if_neg h]
    have : (j == i) = false := by simp; omega
    rw [this, Bool.or_false]

/-- A drawn region, operation by operation; S D w: what holds of the world when D is done. -/
theorem wp_region_done {id : Nat} {a0 : Act} {w0 : World} (S : (Nat → Bool) → World → Prop) (p : Nat → Value → World → Prop) (hm : P.follows .mixedOrders = true) (hap : apartB ops a0.tmps.size = true) (hfw : forwardB .any ops = true)
    (hS : S (fun _ => false) w0.drew) (hs : DSteps P .any ops Q S p a0 0 ops.toList)
    (hd : ∀ D a w, (∀ j, j < ops.size → D j = true) → S D w → Like ops a0 a → (∀ j k, slotB ops j k = true → p j (a.tmps.getD k undef) w) → (∀ j, j < ops.size → ∃ v, p j v w) → Q .normal a w) : (Code.region id ops true).wp P Q a0 w0 := by
  have hdst : ∀ (i : Nat) (o : Oper) (k : Nat), ops[i]? = some o → o.dst = some k → k < a0.tmps.size ∧ ∀ (j : Nat) (oj : Oper), ops[j]? = some oj → oj.dst = some k → i = j := by
    intro i o k ho hk
    have hi := (Array.getElem?_eq_some_iff.1 ho).1
    have h1 := List.all_eq_true.1 hap i (List.mem_range.2 hi)
    have h2 : ops.getD i default = o := by simp [Array.getD_eq_getD_getElem?, ho]
    rw [h2, hk] at h1
    simp only [Bool.and_eq_true, decide_eq_true_eq] at h1
    refine ⟨h1.1, fun j oj hj hjk => ?_⟩
    have hj' := (Array.getElem?_eq_some_iff.1 hj).1
    have h3 := List.all_eq_true.1 h1.2 j (List.mem_range.2 hj')
    have h4 : ops.getD j default = oj := by simp [Array.getD_eq_getD_getElem?, hj]
    rw [h4, hjk] at h3
    simpa using h3
  refine wp_region_any hm ?_
  refine wpAny_inv (fun listed a w => listed.size = ops.size ∧ S (fun j => listed.getD j false) w ∧ (∀ j k, listed.getD j false = true → awaits .any ops j k = true → listed.getD k false = true) ∧ Like ops a0 a ∧ (∀ j, listed.getD j false = true → ∃ v, p j v w) ∧ ∀ j k, listed.getD j false = true → slotB ops j k = true → p j (a.tmps.getD k undef) w) ?_ ?_ _ _ _ _ ?_ ⟨by simp, by rw [show (fun j => (Array.replicate ops.size false).getD j false) = fun _ => false from funext fun j => by simp only [Array.getD_eq_getD_getElem?, Array.getElem?_replicate]; split <;> rfl]; exact hS, ?_, ⟨rfl, rfl, fun _ _ => rfl⟩, ?_, ?_⟩
  · rintro listed a w i ⟨hz, hSw, hC, hL, hE, hP⟩ hi
    obtain ⟨hjun, o, ho, hall⟩ := mem_ready.1 hi
    have hilt := (Array.getElem?_eq_some_iff.1 ho).1
    have hin : listed.getD i false = false := by
      have hi2 : i < listed.size := by omega
      simpa [Array.getD_eq_getD_getElem?, hi2] using hjun
    have hw8 : ∀ j, waitsB .any o j = true → listed.getD j false = true := fun j hj => by
      unfold waitsB at hj
      obtain ⟨e, he, h2⟩ := Array.any_eq_true'.1 hj
      simp only [Bool.and_eq_true, beq_iff_eq] at h2
      have := hall e he h2.2
      rw [h2.1] at this
      exact this
    have hst := DSteps.get ops.toList 0 hs i o (by simpa using ho)
    rw [Nat.zero_add] at hst
    obtain ⟨hw, hx⟩ := hst (fun j => listed.getD j false) a w hin (fun j hj => by
      cases hl : listed.getD j false with
      | false => rfl
      | true => have := hC j i hl hj; rw [hin] at this; cases this) hw8 hSw hL (fun j k hj hk => hP j k (hw8 j hj) hk)
    unfold wpOp
    simp only [ho, hw, if_true]
    refine .inl (Oper.wp_mono ?_ hx)
    rintro a' w' ⟨v, rfl, hS', hR', hpv⟩
    refine ⟨by simpa using hz, by rw [set_done listed i (by omega)]; exact hS', ?_, ⟨?_, ?_, fun k hk => ?_⟩, fun j hj => ?_, fun j k hj hk => ?_⟩
    · intro j k hj hk
      have hd1 := congrFun (set_done listed i (by omega))
      rw [hd1] at hj ⊢
      rw [Bool.or_eq_true] at hj ⊢
      left
      rcases hj with hj | hj
      · exact hC j k hj hk
      · have : j = i := by simpa using hj
        subst this
        unfold awaits at hk
        rw [ho] at hk
        exact hw8 k hk
    · cases h : o.dst <;> exact hL.defers
    · cases h : o.dst
      · exact hL.size
      · simp only [Act.put, Array.size_setIfInBounds]; exact hL.size
    · cases h : o.dst with
      | none => exact hL.far k hk
      | some d =>
        have hne : d ≠ k := fun e => by
          subst e
          unfold outside at hk
          have := Array.all_eq_true.1 hk i hilt
          rw [(Array.getElem?_eq_some_iff.1 ho).2, h] at this
          simp at this
        simp only [Act.put, Array.getD_eq_getD_getElem?, Array.getElem?_setIfInBounds, if_neg hne]
        have := hL.far k hk
        simpa only [Array.getD_eq_getD_getElem?] using this
    · by_cases hji : j = i
      · subst hji; exact ⟨v, hpv⟩
      · have hjl : listed.getD j false = true := by
          simp only [Array.getD_eq_getD_getElem?, Array.getElem?_setIfInBounds, if_neg (Ne.symm hji)] at hj ⊢
          exact hj
        obtain ⟨u, hu⟩ := hE j hjl
        exact ⟨u, hR' j _ hjl hu⟩
    · obtain ⟨oj, hoj, hjk⟩ : ∃ oj, ops[j]? = some oj ∧ oj.dst = some k := by
        unfold slotB at hk
        cases h : ops[j]? with
        | none => rw [h] at hk; cases hk
        | some oj => rw [h] at hk; exact ⟨oj, rfl, by simpa using hk⟩
      by_cases hji : j = i
      · subst hji
        rw [hoj] at ho
        cases ho
        have hkz := (hdst j _ k hoj hjk).1
        rw [hjk]
        have : (a.put (some k) v).tmps.getD k undef = v := by
          have : k < a.tmps.size := by rw [hL.size]; exact hkz
          simp [Act.put, Array.getD_eq_getD_getElem?, this]
        rw [this]
        exact hpv
      · have hjl : listed.getD j false = true := by
          simp only [Array.getD_eq_getD_getElem?, Array.getElem?_setIfInBounds, if_neg (Ne.symm hji)] at hj ⊢
          exact hj
        have h1 := hR' j _ hjl (hP j k hjl hk)
        cases h : o.dst with
        | none => exact h1
        | some d =>
          have hne : d ≠ k := fun e => by
            subst e
            exact hji ((hdst i o d ho h).2 j oj hoj hjk).symm
          simp only [Act.put, Array.getD_eq_getD_getElem?, Array.getElem?_setIfInBounds, if_neg hne] at h1 ⊢
          exact h1
  · rintro listed a w ⟨hz, hSw, hC, hL, hE, hP⟩ hr
    have hall : ∀ n j, j < n → j < ops.size → listed.getD j false = true := by
      intro n
      induction n with
      | zero => intro j h; omega
      | succ n ih =>
        intro j hjn hj
        cases hl : listed.getD j true with
        | true =>
          have : j < listed.size := by omega
          simpa [Array.getD_eq_getD_getElem?, this] using hl
        | false =>
          exfalso
          have hmem : j ∈ Region.ready .any ops listed := mem_ready.2 ⟨hl, ops[j], by simp [hj], fun e he hb => by
            have h1 := List.all_eq_true.1 hfw j (List.mem_range.2 hj)
            have h2 : ops.getD j default = ops[j] := by simp [Array.getD_eq_getD_getElem?, hj]
            rw [h2] at h1
            have h3 := Array.all_eq_true_iff_forall_mem.1 h1 e he
            rw [hb] at h3
            simp at h3
            exact ih e.on (by omega) (by omega)⟩
          rw [hr] at hmem
          cases hmem
    refine hd _ a w (fun j hj => hall (j + 1) j (by omega) hj) hSw hL (fun j k hk => hP j k (hall (j + 1) j (by omega) ?_) hk) (fun j hj => hE j (hall (j + 1) j (by omega) hj))
    unfold slotB at hk
    cases h : ops[j]? with
    | none => rw [h] at hk; cases hk
    | some oj => exact (Array.getElem?_eq_some_iff.1 h).1
  · unfold unlisted
    exact Nat.le_trans (List.length_filter_le _ _) (by simp)
  · intro j k hj
    simp only [Array.getD_eq_getD_getElem?, Array.getElem?_replicate] at hj
    split at hj <;> simp at hj
  · intro j hj
    simp only [Array.getD_eq_getD_getElem?, Array.getElem?_replicate] at hj
    split at hj <;> simp at hj
  · intro j k hj
    simp only [Array.getD_eq_getD_getElem?, Array.getElem?_replicate] at hj
    split at hj <;> simp at hj
end
end Go.Kt
/- What is the same of any program: a drawn region operation by operation, as in K12; a slot that is not laid yet holds what it held ahead of the region (for 'x = append(x, ..)', that reads the slot which it lays at its end). -/
namespace Go.Kt
open Go

section
variable {P : Program} {ops : Array Oper} {Q : Exit → Act → World → Prop} {md : Region.Mode}

/-- One operation: D tells what is done. -/
def EStep (P : Program) (md : Region.Mode) (ops : Array Oper) (Q : Exit → Act → World → Prop) (S : (Nat → Bool) → World → Prop) (p : Nat → Value → World → Prop) (a0 : Act) (i : Nat) (o : Oper) : Prop :=
  ∀ (D : Nat → Bool) a w, D i = false → (∀ j, awaits md ops j i = true → D j = false) → (∀ j, waitsB md o j = true → D j = true) → S D w → Like ops a0 a → (∀ j k, D j = false → slotB ops j k = true → a.tmps.getD k undef = a0.tmps.getD k undef) → (∀ j k, waitsB md o j = true → slotB ops j k = true → p j (a.tmps.getD k undef) w) →
    Region.wanted o (yielded ops a.tmps) = true ∧ o.wp P a w (fun a' w' => ∃ v, a' = a.put o.dst v ∧ S (fun j => D j || j == i) w' ∧ (∀ j u, D j = true → p j u w → p j u w') ∧ p i v w') Q
def ESteps (P : Program) (md : Region.Mode) (ops : Array Oper) (Q : Exit → Act → World → Prop) (S : (Nat → Bool) → World → Prop) (p : Nat → Value → World → Prop) (a0 : Act) : Nat → List Oper → Prop
  | _, [] => True
  | i, o :: r => EStep P md ops Q S p a0 i o ∧ ESteps P md ops Q S p a0 (i + 1) r
theorem ESteps.get {S : (Nat → Bool) → World → Prop} {p : Nat → Value → World → Prop} {a0 : Act} : ∀ (l : List Oper) (i : Nat), ESteps P md ops Q S p a0 i l → ∀ j o, l[j]? = some o → EStep P md ops Q S p a0 (i + j) o
  | [], _, _, j, o, h => by simp at h
  | x :: r, i, hs, 0, o, h => by simp at h; subst h; exact hs.1
  | x :: r, i, hs, j + 1, o, h => by
    have := ESteps.get r (i + 1) hs.2 j o (by simpa using h)
    rw [show i + (j + 1) = i + 1 + j by omega]; exact this
theorem ESteps.cons {S : (Nat → Bool) → World → Prop} {p : Nat → Value → World → Prop} {a0 : Act} {i : Nat} {o : Oper} {r : List Oper} (h : EStep P md ops Q S p a0 i o) (hr : ESteps P md ops Q S p a0 (i + 1) r) : ESteps P md ops Q S p a0 i (o :: r) := ⟨h, hr⟩
theorem ESteps.nil {S : (Nat → Bool) → World → Prop} {p : Nat → Value → World → Prop} {a0 : Act} {i : Nat} : ESteps P md ops Q S p a0 i [] := trivial

/-- A drawn region, operation by operation; S D w: what holds of the world when D is done. -/
theorem wp_region_old {id : Nat} {a0 : Act} {w0 : World} (S : (Nat → Bool) → World → Prop) (p : Nat → Value → World → Prop) (hm : P.follows .mixedOrders = true) (hap : apartB ops a0.tmps.size = true) (hfw : forwardB .any ops = true)
    (hS : S (fun _ => false) w0.drew) (hs : ESteps P .any ops Q S p a0 0 ops.toList)
    (hd : ∀ D a w, (∀ j, j < ops.size → D j = true) → S D w → Like ops a0 a → (∀ j k, slotB ops j k = true → p j (a.tmps.getD k undef) w) → (∀ j, j < ops.size → ∃ v, p j v w) → Q .normal a w) : (Code.region id ops true).wp P Q a0 w0 := by
  have hdst : ∀ (i : Nat) (o : Oper) (k : Nat), ops[i]? = some o → o.dst = some k → k < a0.tmps.size ∧ ∀ (j : Nat) (oj : Oper), ops[j]? = some oj → oj.dst = some k → i = j := by
    intro i o k ho hk
    have hi := (Array.getElem?_eq_some_iff.1 ho).1
    have h1 := List.all_eq_true.1 hap i (List.mem_range.2 hi)
    have h2 : ops.getD i default = o := by simp [Array.getD_eq_getD_getElem?, ho]
    rw [h2, hk] at h1
    simp only [Bool.and_eq_true, decide_eq_true_eq] at h1
    refine ⟨h1.1, fun j oj hj hjk => ?_⟩
    have hj' := (Array.getElem?_eq_some_iff.1 hj).1
    have h3 := List.all_eq_true.1 h1.2 j (List.mem_range.2 hj')
    have h4 : ops.getD j default = oj := by simp [Array.getD_eq_getD_getElem?, hj]
    rw [h4, hjk] at h3
    simpa using h3
  refine wp_region_any hm ?_
  refine wpAny_inv (fun listed a w => listed.size = ops.size ∧ S (fun j => listed.getD j false) w ∧ (∀ j k, listed.getD j false = true → awaits .any ops j k = true → listed.getD k false = true) ∧ Like ops a0 a ∧ (∀ j k, listed.getD j false = false → slotB ops j k = true → a.tmps.getD k undef = a0.tmps.getD k undef) ∧ (∀ j, listed.getD j false = true → ∃ v, p j v w) ∧ ∀ j k, listed.getD j false = true → slotB ops j k = true → p j (a.tmps.getD k undef) w) ?_ ?_ _ _ _ _ ?_ ⟨by simp, by rw [show (fun j => (Array.replicate ops.size false).getD j false) = fun _ => false from funext fun j => by simp only [Array.getD_eq_getD_getElem?, Array.getElem?_replicate]; split <;> rfl]; exact hS, ?_, ⟨rfl, rfl, fun _ _ => rfl⟩, fun _ _ _ _ => rfl, ?_, ?_⟩
  · rintro listed a w i ⟨hz, hSw, hC, hL, hU, hE, hP⟩ hi
    obtain ⟨hjun, o, ho, hall⟩ := mem_ready.1 hi
    have hilt := (Array.getElem?_eq_some_iff.1 ho).1
    have hin : listed.getD i false = false := by
      have hi2 : i < listed.size := by omega
      simpa [Array.getD_eq_getD_getElem?, hi2] using hjun
    have hw8 : ∀ j, waitsB .any o j = true → listed.getD j false = true := fun j hj => by
      unfold waitsB at hj
      obtain ⟨e, he, h2⟩ := Array.any_eq_true'.1 hj
      simp only [Bool.and_eq_true, beq_iff_eq] at h2
      have := hall e he h2.2
      rw [h2.1] at this
      exact this
    have hst := ESteps.get ops.toList 0 hs i o (by simpa using ho)
    rw [Nat.zero_add] at hst
    obtain ⟨hw, hx⟩ := hst (fun j => listed.getD j false) a w hin (fun j hj => by
      cases hl : listed.getD j false with
      | false => rfl
      | true => have := hC j i hl hj; rw [hin] at this; cases this) hw8 hSw hL hU (fun j k hj hk => hP j k (hw8 j hj) hk)
    unfold wpOp
    simp only [ho, hw, if_true]
    refine .inl (Oper.wp_mono ?_ hx)
    rintro a' w' ⟨v, rfl, hS', hR', hpv⟩
    refine ⟨by simpa using hz, by rw [set_done listed i (by omega)]; exact hS', ?_, ⟨?_, ?_, fun k hk => ?_⟩, fun j k hj hk => ?_, fun j hj => ?_, fun j k hj hk => ?_⟩
    · intro j k hj hk
      have hd1 := congrFun (set_done listed i (by omega))
      rw [hd1] at hj ⊢
      rw [Bool.or_eq_true] at hj ⊢
      left
      rcases hj with hj | hj
      · exact hC j k hj hk
      · have : j = i := by simpa using hj
        subst this
        unfold awaits at hk
        rw [ho] at hk
        exact hw8 k hk
    · cases h : o.dst <;> exact hL.defers
    · cases h : o.dst
      · exact hL.size
      · simp only [Act.put, Array.size_setIfInBounds]; exact hL.size
    · cases h : o.dst with
      | none => exact hL.far k hk
      | some d =>
        have hne : d ≠ k := fun e => by
          subst e
          unfold outside at hk
          have := Array.all_eq_true.1 hk i hilt
          rw [(Array.getElem?_eq_some_iff.1 ho).2, h] at this
          simp at this
        simp only [Act.put, Array.getD_eq_getD_getElem?, Array.getElem?_setIfInBounds, if_neg hne]
        have := hL.far k hk
        simpa only [Array.getD_eq_getD_getElem?] using this
    · have hji : j ≠ i := fun e => by
        subst e
        have : j < listed.size := by omega
        simp [Array.getD_eq_getD_getElem?, this] at hj
      have hjl : listed.getD j false = false := by
        simp only [Array.getD_eq_getD_getElem?, Array.getElem?_setIfInBounds, if_neg (Ne.symm hji)] at hj ⊢
        exact hj
      have h1 := hU j k hjl hk
      obtain ⟨oj, hoj, hjk⟩ : ∃ oj, ops[j]? = some oj ∧ oj.dst = some k := by
        unfold slotB at hk
        cases h : ops[j]? with
        | none => rw [h] at hk; cases hk
        | some oj => rw [h] at hk; exact ⟨oj, rfl, by simpa using hk⟩
      cases h : o.dst with
      | none => exact h1
      | some d =>
        have hne : d ≠ k := fun e => by
          subst e
          exact hji ((hdst i o d ho h).2 j oj hoj hjk).symm
        simp only [Act.put, Array.getD_eq_getD_getElem?, Array.getElem?_setIfInBounds, if_neg hne] at h1 ⊢
        exact h1
    · by_cases hji : j = i
      · subst hji; exact ⟨v, hpv⟩
      · have hjl : listed.getD j false = true := by
          simp only [Array.getD_eq_getD_getElem?, Array.getElem?_setIfInBounds, if_neg (Ne.symm hji)] at hj ⊢
          exact hj
        obtain ⟨u, hu⟩ := hE j hjl
        exact ⟨u, hR' j _ hjl hu⟩
    · obtain ⟨oj, hoj, hjk⟩ : ∃ oj, ops[j]? = some oj ∧ oj.dst = some k := by
        unfold slotB at hk
        cases h : ops[j]? with
        | none => rw [h] at hk; cases hk
        | some oj => rw [h] at hk; exact ⟨oj, rfl, by simpa using hk⟩
      by_cases hji : j = i
      · subst hji
        rw [hoj] at ho
        cases ho
        have hkz := (hdst j _ k hoj hjk).1
        rw [hjk]
        have : (a.put (some k) v).tmps.getD k undef = v := by
          have : k < a.tmps.size := by rw [hL.size]; exact hkz
          simp [Act.put, Array.getD_eq_getD_getElem?, this]
        rw [this]
        exact hpv
      · have hjl : listed.getD j false = true := by
          simp only [Array.getD_eq_getD_getElem?, Array.getElem?_setIfInBounds, if_neg (Ne.symm hji)] at hj ⊢
          exact hj
        have h1 := hR' j _ hjl (hP j k hjl hk)
        cases h : o.dst with
        | none => exact h1
        | some d =>
          have hne : d ≠ k := fun e => by
            subst e
            exact hji ((hdst i o d ho h).2 j oj hoj hjk).symm
          simp only [Act.put, Array.getD_eq_getD_getElem?, Array.getElem?_setIfInBounds, if_neg hne] at h1 ⊢
          exact h1
  · rintro listed a w ⟨hz, hSw, hC, hL, hU, hE, hP⟩ hr
    have hall : ∀ n j, j < n → j < ops.size → listed.getD j false = true := by
      intro n
      induction n with
      | zero => intro j h; omega
      | succ n ih =>
        intro j hjn hj
        cases hl : listed.getD j true with
        | true =>
          have : j < listed.size := by omega
          simpa [Array.getD_eq_getD_getElem?, this] using hl
        | false =>
          exfalso
          have hmem : j ∈ Region.ready .any ops listed := mem_ready.2 ⟨hl, ops[j], by simp [hj], fun e he hb => by
            have h1 := List.all_eq_true.1 hfw j (List.mem_range.2 hj)
            have h2 : ops.getD j default = ops[j] := by simp [Array.getD_eq_getD_getElem?, hj]
            rw [h2] at h1
            have h3 := Array.all_eq_true_iff_forall_mem.1 h1 e he
            rw [hb] at h3
            simp at h3
            exact ih e.on (by omega) (by omega)⟩
          rw [hr] at hmem
          cases hmem
    refine hd _ a w (fun j hj => hall (j + 1) j (by omega) hj) hSw hL (fun j k hk => hP j k (hall (j + 1) j (by omega) ?_) hk) (fun j hj => hE j (hall (j + 1) j (by omega) hj))
    unfold slotB at hk
    cases h : ops[j]? with
    | none => rw [h] at hk; cases hk
    | some oj => exact (Array.getElem?_eq_some_iff.1 h).1
  · unfold unlisted
    exact Nat.le_trans (List.length_filter_le _ _) (by simp)
  · intro j k hj
    simp only [Array.getD_eq_getD_getElem?, Array.getElem?_replicate] at hj
    split at hj <;> simp at hj
  · intro j hj
    simp only [Array.getD_eq_getD_getElem?, Array.getElem?_replicate] at hj
    split at hj <;> simp at hj
  · intro j k hj
    simp only [Array.getD_eq_getD_getElem?, Array.getElem?_replicate] at hj
    split at hj <;> simp at hj
end
end Go.Kt
/- What is the same of any program: 'append(v, s...)' of a text's bytes to a row of one's own. -/
namespace Go.Kt
open Go Go.RowKit Go.Lib
variable {P : Program}

theorem append_st (W : World) (t u e : TypeId) (ht : P.underlying t = some (.slice e)) (hu : P.underlying u = some .string) (hinfo : (P.info? e).map (fun i => (i.zero, i.size, i.bytes)) = some (some (.int .u8 0), 1, 1))
    {Y : Nat → Prop} {v : Value} {n : Nat} {xs : List Value} (hown : OwnS Y e 1 v n xs W) (s : ByteArray) (h63 : n + s.size ≤ 140737488355328) :
    ∃ v' w', (∀ ty, (Builtin.append_ #[t, u] ty #[v, .string s]).run P W = .ok v' w') ∧ OwnS (fun b => v.ownBlock = some b ∨ W.heap.size ≤ b) e 1 v' (n + s.size) (xs ++ Lib.strCells s) w' ∧
      Keep (fun b => v.ownBlock = some b) W w' := by
  obtain ⟨i, hi, hz, hs1, hb1⟩ := info_parts hinfo
  have hm : n + s.size ≤ maxLen := by unfold maxLen; omega
  obtain ⟨v', w', hrun, r1, r2, r3⟩ := Lib.run_append_own_string (P := P) W 0 t u 0 e i ht hu hi hz hs1 hb1 v n xs hown.1 s hm h63 (Nat.zero_le _)
  refine ⟨v', w', fun ty => hrun, ⟨r1, ?_⟩, keep_grown r2⟩
  intro g hg
  rcases hown.1.2 with ⟨hv, hn⟩ | ⟨g0, cap0, cur0, hv, hb0, hg0, hnc, hcm, hcs, htk⟩
  · right
    obtain ⟨v2, w2, hrun2, q1, _⟩ := Lib.run_append_own_string (P := P) W W.heap.size t u 0 e i ht hu hi hz hs1 hb1 v n xs ⟨hown.1.1, .inl ⟨hv, hn⟩⟩ s hm h63 (Nat.le_refl _)
    rw [hrun] at hrun2
    injection hrun2 with e1 e2
    subst e1; subst e2
    rcases q1.2 with ⟨h, _⟩ | ⟨g', _, _, h, hb', _⟩
    · rw [h] at hg; cases hg
    · rw [h] at hg; cases hg; exact hb'
  · subst hv
    have hcs' : cur0.size = cap0 := by simpa using hcs
    by_cases hroom : n + s.size ≤ cap0
    · left
      have hr := Lib.run_append_room_string (P := P) W t u 0 e i ht hu hi hs1 g0 n cap0 cur0 hg0 s hroom (by omega)
      rw [hrun] at hr
      injection hr with e1 e2
      subst e1
      exact hg
    · right
      have holds : ∀ j x, xs[j]? = some x → W.cell? ((⟨g0, 0, none⟩ : Addr).add j) = some x := hown.1.cells (g := g0) rfl
      have hr := Lib.run_append_grow_string (P := P) W t u 0 e i (.int .u8 0) ht hu hi hz ⟨g0, 0, none⟩ n cap0 xs (by rw [hs1]; exact hown.1.1) holds s (by omega) (by omega) (by rw [hb1]; exact growslice_fits (by omega) (by omega))
      rw [hrun] at hr
      injection hr with e1 e2
      subst e1
      cases hg
      exact Nat.le_refl _
end Go.Kt
/- What is the same of any program: 'x.f = append(x.f, ..)' behind a pointer, in a drawn region (K12): block g holds the cells CS v, v the slice at the field; operation ia is the append, js the store, ib an element's block. -/
namespace Go.Kt
open Go Go.RowKit

section
variable {P : Program}
theorem wp_append_run {o : Oper} {a : Act} {w w' : World} {v y v' : Value} {K : Act → World → Prop} {Q : Exit → Act → World → Prop} {s x : Operand} {t u : TypeId}
    (ho : o.op = .call { callee := .builtin .append, args := #[s, x], argTypes := #[t, u] }) (hs : a.eval s = v) (hx : a.eval x = y) (hr : (Builtin.append_ #[t, u] o.type #[v, y]).run P w = .ok v' w') (h : K (a.put o.dst v') w') : o.wp P a w K Q := by
  unfold Oper.wp execOp
  simp only [ho, resolve, invoke, builtin, Sem.run_bind, Sem.run_pure, Result.andThen_ok, List.map_toArray, List.map_cons, List.map_nil, hs, hx, hr]
  exact h
end

/-- What is fixed of such a region. -/
structure FldR where
  g : Nat
  w : World
  kv : Value
  E : TypeId
  sz : Nat
  n : Nat
  m : Nat
  xs : List Value
  ys : List Value
  T : TypeId
  CS : Value → Array Value
  bs : Array Value
  ia : Nat
  js : Nat
  ib : Nat
  val : Nat → Option Value
variable {F : FldR}
def FldR.Row (F : FldR) (v : Value) (W : World) : Prop :=
  ∃ ao ln cp, v = .slice ao ln cp ∧ OwnS (fun b => (F.kv.ownBlock = some b ∨ F.w.heap.size ≤ b) ∧ b ≠ F.g) F.E F.sz v F.m F.ys W
theorem FldR.Row.keep {v : Value} {A B : World} {X : Nat → Prop} (h : F.Row v A) (hk : Keep X A B) (hX : ∀ b, X b → b = F.g) : F.Row v B := by
  obtain ⟨ao, ln, cp, e, ho⟩ := h
  exact ⟨ao, ln, cp, e, ho.keep hk (fun b hb hy => hy.2 (hX b hb))⟩
theorem FldR.Row.store {v u : Value} {A : World} {k : Nat} (h : F.Row v A) : F.Row v (A.setCell ⟨F.g, k, none⟩ u) :=
  h.keep (X := fun b => b = F.g) (Keep.setCell (X := fun b => b = F.g) (Keep.refl _ A) (p := ⟨F.g, k, none⟩) rfl u) (fun _ h => h)
theorem FldR.row_of {v' : Value} {ln : Nat} {W Y : World} (hz : F.w.heap.size ≤ W.heap.size) (hg : F.g < F.w.heap.size) (hkg : F.kv.ownBlock ≠ some F.g) (ho : OwnS (fun b => F.kv.ownBlock = some b ∨ W.heap.size ≤ b) F.E F.sz v' ln F.ys Y) (hm : ln = F.m) : F.Row v' Y := by
  subst hm
  have hY : OwnS (fun b => (F.kv.ownBlock = some b ∨ F.w.heap.size ≤ b) ∧ b ≠ F.g) F.E F.sz v' F.m F.ys Y := ho.weaken (by
    rintro b (h | h)
    · exact ⟨.inl h, fun e => hkg (e ▸ h)⟩
    · exact ⟨.inr (by omega), by omega⟩)
  rcases ho.shape with ⟨h, _⟩ | ⟨g', cap, h, _⟩
  · exact ⟨_, _, _, h, hY⟩
  · exact ⟨_, _, _, h, hY⟩
def FldR.S (F : FldR) (D : Nat → Bool) (X : World) : Prop :=
  (D F.js = false → X.heap[F.g]? = some (.cells (F.CS F.kv) F.T (0, 0))) ∧ (D F.ia = false → OwnS (fun b => b ≠ F.g) F.E F.sz F.kv F.n F.xs X) ∧ Keep (fun b => b = F.g ∨ F.kv.ownBlock = some b) F.w X
theorem orb_l {a b : Bool} (h : (a || b) = false) : a = false := by cases a <;> simp_all
variable {D : Nat → Bool} {X Y W : World} {i : Nat} {v u : Value}
theorem FldR.S.more (h : F.S D X) : F.S (fun j => D j || j == i) X := ⟨fun e => h.1 (orb_l e), fun e => h.2.1 (orb_l e), h.2.2⟩
theorem FldR.S.below (h : F.S D X) (hb : Below X.heap.size X Y) : F.S D Y :=
  ⟨fun e => (hb.block F.g (Array.getElem?_eq_some_iff.1 (h.1 e)).1).trans (h.1 e), fun e => (h.2.1 e).keep (X := fun _ => False) (Keep.of_all hb) (fun _ h => h.elim), h.2.2.then (hb.mono h.2.2.size)⟩
theorem FldR.S.app (h : F.S D X) (hkg : F.kv.ownBlock ≠ some F.g) (hj : D F.js = false) (hk : Keep (fun b => F.kv.ownBlock = some b) X Y) : F.S (fun j => D j || j == F.ia) Y :=
  ⟨fun _ => hk.heap (h.1 hj) hkg, fun e => by simp at e, h.2.2.trans (hk.weaken fun _ _ h => Or.inr h)⟩
theorem FldR.S.store {k : Nat} (h : F.S D X) : F.S (fun j => D j || j == F.js) (X.setCell ⟨F.g, k, none⟩ u) :=
  ⟨fun e => by simp at e, fun e => (h.2.1 (orb_l e)).keep (X := fun b => b = F.g) (Keep.setCell (X := fun b => b = F.g) (Keep.refl _ X) (p := ⟨F.g, k, none⟩) rfl u) (fun _ h1 h2 => h2 h1), h.2.2.setCell (Or.inl rfl) u⟩
def FldR.P (F : FldR) (i : Nat) (v : Value) (W : World) : Prop :=
  (∀ u, F.val i = some u → v = u) ∧ (i = F.ib → ∃ b, v = .slice (some ⟨b, 0, none⟩) 1 1 ∧ W.heap[b]? = some (.cells F.bs F.E (0, 0)) ∧ F.w.heap.size ≤ b) ∧ (i = F.ia → F.Row v W) ∧ (i = F.js → ∃ u, F.Row u W ∧ W.heap[F.g]? = some (.cells (F.CS u) F.T (0, 0)))
theorem FldR.P.is (h : F.P i v W) (e : F.val i = some u) : v = u := h.1 u e
theorem FldR.P.mk (e : F.val i = some v) (hi : i ≠ F.ib ∧ i ≠ F.ia ∧ i ≠ F.js) : F.P i v W :=
  ⟨fun u h => by rw [e] at h; exact Option.some.inj h, fun h => absurd h hi.1, fun h => absurd h hi.2.1, fun h => absurd h hi.2.2⟩
theorem FldR.P.bs (e : F.val F.ib = none) (hi : F.ib ≠ F.ia ∧ F.ib ≠ F.js) (h : ∃ b, v = .slice (some ⟨b, 0, none⟩) 1 1 ∧ W.heap[b]? = some (.cells F.bs F.E (0, 0)) ∧ F.w.heap.size ≤ b) : F.P F.ib v W :=
  ⟨fun u h => (by rw [e] at h; cases h), fun _ => h, fun h => absurd h hi.1, fun h => absurd h hi.2⟩
theorem FldR.P.row (e : F.val F.ia = none) (hi : F.ia ≠ F.ib ∧ F.ia ≠ F.js) (h : F.Row v W) : F.P F.ia v W :=
  ⟨fun u h => (by rw [e] at h; cases h), fun h => absurd h hi.1, fun _ => h, fun h => absurd h hi.2⟩
theorem FldR.P.last (e : F.val F.js = none) (hi : F.js ≠ F.ib ∧ F.js ≠ F.ia) (h : ∃ u, F.Row u W ∧ W.heap[F.g]? = some (.cells (F.CS u) F.T (0, 0))) : F.P F.js v W :=
  ⟨fun u h => (by rw [e] at h; cases h), fun h => absurd h hi.1, fun h => absurd h hi.2, fun _ => h⟩
theorem FldR.P.below (h : F.P i v W) (hb : Below W.heap.size W Y) : F.P i v Y := by
  have hk : Keep (fun _ => False) W Y := Keep.of_all hb
  refine ⟨h.1, fun e => ?_, fun e => (h.2.2.1 e).keep hk (fun _ h => h.elim), fun e => ?_⟩
  · obtain ⟨b, h1, h2, h3⟩ := h.2.1 e
    exact ⟨b, h1, hk.heap h2 (fun h => h), h3⟩
  · obtain ⟨u, h1, h2⟩ := h.2.2.2 e
    exact ⟨u, h1.keep hk (fun _ h => h.elim), hk.heap h2 (fun h => h)⟩
theorem FldR.P.app (h : F.P i v W) (hkv : ∀ b, F.kv.ownBlock = some b → b < F.w.heap.size) (hk : Keep (fun b => F.kv.ownBlock = some b) W Y) (ha : i ≠ F.ia) (hs : i ≠ F.js) : F.P i v Y := by
  refine ⟨h.1, fun e => ?_, fun e => absurd e ha, fun e => absurd e hs⟩
  obtain ⟨b, h1, h2, h3⟩ := h.2.1 e
  exact ⟨b, h1, hk.heap h2 (fun h => by have := hkv b h; omega), h3⟩
theorem FldR.P.store {k : Nat} (h : F.P i v W) (hgl : F.g < F.w.heap.size) (hs : i ≠ F.js) : F.P i v (W.setCell ⟨F.g, k, none⟩ u) := by
  have hk : Keep (fun b => b = F.g) W (W.setCell ⟨F.g, k, none⟩ u) := Keep.setCell (X := fun b => b = F.g) (Keep.refl _ W) (p := ⟨F.g, k, none⟩) rfl u
  refine ⟨h.1, fun e => ?_, fun e => (h.2.2.1 e).store, fun e => absurd e hs⟩
  obtain ⟨b, h1, h2, h3⟩ := h.2.1 e
  exact ⟨b, h1, hk.heap h2 (fun h => by omega), h3⟩
end Go.Kt
/- What is the same of any program: 'x = append(x, a, b, ..)' of a local variable in a drawn region (K12): operation ib builds the elements' block, ia appends, ic lays the slice into its slot. -/
namespace Go.Kt
open Go Go.RowKit

/-- What is fixed of such a region. -/
structure AppR where
  w : World
  kv : Value
  E : TypeId
  sz : Nat
  n : Nat
  m : Nat
  xs : List Value
  ys : List Value
  bs : Array Value
  bl : Nat
  ib : Nat
  ia : Nat
  ic : Nat
  val : Nat → Option Value
section
variable {F : AppR}
def AppR.Row (F : AppR) (v : Value) (W : World) : Prop :=
  ∃ ao cp, v = .slice ao F.m cp ∧ OwnS (fun b => F.kv.ownBlock = some b ∨ F.w.heap.size ≤ b) F.E F.sz v F.m F.ys W
def AppR.S (F : AppR) (D : Nat → Bool) (X : World) : Prop :=
  (D F.ia = false → OwnS (fun b => F.kv.ownBlock = some b) F.E F.sz F.kv F.n F.xs X) ∧ Keep (fun b => F.kv.ownBlock = some b) F.w X
variable {D : Nat → Bool} {X Y W : World} {i : Nat} {v u : Value}
theorem AppR.S.more (h : F.S D X) : F.S (fun j => D j || j == i) X := ⟨fun e => h.1 (orb_l e), h.2⟩
theorem AppR.S.below (h : F.S D X) (hb : Below X.heap.size X Y) : F.S D Y :=
  ⟨fun e => (h.1 e).keep (X := fun _ => False) (Keep.of_all hb) (fun _ h => h.elim), h.2.then (hb.mono h.2.size)⟩
theorem AppR.S.app (h : F.S D X) (hk : Keep (fun b => F.kv.ownBlock = some b) X Y) : F.S (fun j => D j || j == F.ia) Y :=
  ⟨fun e => by simp at e, h.2.trans hk⟩
def AppR.P (F : AppR) (i : Nat) (v : Value) (W : World) : Prop :=
  (∀ u, F.val i = some u → v = u) ∧ (i = F.ib → ∃ b, v = .slice (some ⟨b, 0, none⟩) F.bl F.bl ∧ W.heap[b]? = some (.cells F.bs F.E (0, 0)) ∧ F.w.heap.size ≤ b) ∧ (i = F.ia ∨ i = F.ic → F.Row v W)
theorem AppR.P.is (h : F.P i v W) (e : F.val i = some u) : v = u := h.1 u e
theorem AppR.P.mk (e : F.val i = some v) (hi : i ≠ F.ib ∧ i ≠ F.ia ∧ i ≠ F.ic) : F.P i v W :=
  ⟨fun u h => by rw [e] at h; exact Option.some.inj h, fun h => absurd h hi.1, fun h => by rcases h with h | h; exact absurd h hi.2.1; exact absurd h hi.2.2⟩
theorem AppR.P.bs_ (e : F.val F.ib = none) (hi : F.ib ≠ F.ia ∧ F.ib ≠ F.ic) (h : ∃ b, v = .slice (some ⟨b, 0, none⟩) F.bl F.bl ∧ W.heap[b]? = some (.cells F.bs F.E (0, 0)) ∧ F.w.heap.size ≤ b) : F.P F.ib v W :=
  ⟨fun u h => (by rw [e] at h; cases h), fun _ => h, fun h => by rcases h with h | h; exact absurd h hi.1; exact absurd h hi.2⟩
theorem AppR.P.row (_hi : i = F.ia ∨ i = F.ic) (e : F.val i = none) (hb : i ≠ F.ib) (h : F.Row v W) : F.P i v W :=
  ⟨fun u h => (by rw [e] at h; cases h), fun h => absurd h hb, fun _ => h⟩
theorem AppR.Row.below (h : F.Row v W) (hb : Below W.heap.size W Y) : F.Row v Y := by
  obtain ⟨ao, cp, e, ho⟩ := h
  exact ⟨ao, cp, e, ho.keep (X := fun _ => False) (Keep.of_all hb) (fun _ h => h.elim)⟩
theorem AppR.P.below (h : F.P i v W) (hb : Below W.heap.size W Y) : F.P i v Y := by
  refine ⟨h.1, fun e => ?_, fun e => (h.2.2 e).below hb⟩
  obtain ⟨b, h1, h2, h3⟩ := h.2.1 e
  exact ⟨b, h1, (hb.block b (Array.getElem?_eq_some_iff.1 h2).1).trans h2, h3⟩
theorem AppR.P.app (h : F.P i v W) (hkv : ∀ b, F.kv.ownBlock = some b → b < F.w.heap.size) (hk : Keep (fun b => F.kv.ownBlock = some b) W Y) (ha : i ≠ F.ia) (hc : i ≠ F.ic) : F.P i v Y := by
  refine ⟨h.1, fun e => ?_, fun e => by rcases e with e | e; exact absurd e ha; exact absurd e hc⟩
  obtain ⟨b, h1, h2, h3⟩ := h.2.1 e
  exact ⟨b, h1, hk.heap h2 (fun h => by have := hkv b h; omega), h3⟩
end
end Go.Kt
/- The document's answer for ranges: Spans, Count, Print, First of a set. -/
namespace Go.Proofs.YtmpjlenfnlijfaaGreatDoor
open Go Go.RowKit Go.Kt Go.Kt.Rg
attribute [local go_sem] Oper.semAt_some

/-- A set's value in a box of its own. -/
def BoxW (w : World) (v : Value) (W : World) : Prop := W.heap[w.heap.size]? = some (.cells #[v] 33 (0, 0)) ∧ Below w.heap.size w W ∧ w.heap.size + 1 ≤ W.heap.size
theorem BoxW.start (w : World) (v : Value) : BoxW w v (w.alloc (.cells #[v] 33)) := ⟨alloc_at rfl, (Below.refl _ _).alloc (Nat.le_refl _) _, by simp⟩
theorem BoxW.next {w V V' : World} {v : Value} (h : BoxW w v V) (hb : Below V.heap.size V V') : BoxW w v V' :=
  ⟨(hb.block _ (by have := h.2.2; omega)).trans h.1, h.2.1.trans (hb.mono h.2.1.size), Nat.le_trans h.2.2 hb.size⟩
theorem BoxW.cell {w V : World} {v : Value} (h : BoxW w v V) : V.cell? ⟨w.heap.size, 0, none⟩ = some v := by rw [Lib.cell_of_heap h.1]; rfl
theorem BoxW.keep {w V V' : World} {v : Value} {X : Nat → Prop} (h : BoxW w v V) (hk : Keep X V V') (hX : ∀ b, X b → w.heap.size + 1 ≤ b) : BoxW w v V' := by
  have hb : Below (w.heap.size + 1) V V' := hk.below h.2.2 hX
  exact ⟨(hb.block _ (by omega)).trans h.1, h.2.1.trans (hb.mono (by omega)), Nat.le_trans h.2.2 hb.size⟩
theorem slr_at {w : World} {v : Value} {l : List Run} (h : SlR w v (l.map dnR)) : ∃ ao cap, v = .slice ao l.length cap ∧ ∀ V, Below w.heap.size w V → ∀ (k : Nat) (x : Run), l[k]? = some x →
    ∃ g, ao = some ⟨g, 0, none⟩ ∧ V.cell? ⟨g, k * 2, none⟩ = some (.int .i64 x.1) ∧ V.cell? ⟨g, k * 2 + 1, none⟩ = some (.int .i64 (x.2 - 1)) := by
  obtain ⟨ao, cap, rfl, h⟩ := h
  refine ⟨ao, cap, by rw [List.length_map], fun V hV k x hx => ?_⟩
  have hx2 : (l.map dnR)[k]? = some (dnR x) := by rw [List.getElem?_map, hx]; rfl
  rcases h with h | ⟨g, rfl, h⟩
  · rw [h] at hx2; cases hx2
  · obtain ⟨h1, h2⟩ := h k _ hx2
    exact ⟨g, rfl, (hV.cell (lt_of_cell h1)).trans h1, (hV.cell (lt_of_cell h2)).trans h2⟩

set_option maxRecDepth 100000 in
theorem xcount_any (l : List Run) (v : Value) (w : World) (h : SlR w v (l.map dnR)) (hc : Canon l) :
    Calls Tryz.prog 38 #[.agg #[v]] w fun e w' => e = .returned (.int .i64 (cntL l)) ∧ Below w.heap.size w w' := by
  obtain ⟨ao, cap, rfl, hrow⟩ := slr_at h
  have hlen := canon_len hc (Int.le_refl _)
  have hl : l.length ≤ 1112192 := by unfold allN at hlen; omega
  have HR := Lib.hid hrow
  have HC := Lib.hid hc
  clear h hrow hc hlen
  obtain ⟨n, hn⟩ : ∃ n, l.length = n := ⟨_, rfl⟩
  have HN := Lib.hid hn
  rw [hn] at hl ⊢
  clear hn
  go_enter Tryz.func38, Tryz.ntmps38
  go_wp2
  go_loopw [3, 4] (fun a x wr => ∃ k : Nat, x = .int .i64 k ∧ k ≤ n ∧ a = .int .i64 (cntL (l.take k)) ∧ BoxW w (.slice ao n cap) wr) (fun _ x _ => n - (RowKit.intOf x).toNat)
  case atStart => exact ⟨0, rfl, by omega, rfl, BoxW.start _ _⟩
  case round =>
    obtain ⟨k, rfl, hk, rfl, hb⟩ := hrel
    have c0 := hb.cell
    have HB := Lib.hid hb
    clear hb
    by_cases hlt : k < n
    · have hlt' : (k : Int) < n := by omega
      obtain ⟨x, hx⟩ : ∃ x, l[k]? = some x := ⟨_, List.getElem?_eq_getElem (by rw [HN.out]; exact hlt)⟩
      obtain ⟨g, rfl, r1, r2⟩ := HR.out wr HB.out.2.1 k x hx
      have hf := Canon.fit HC.out x (List.mem_of_getElem? hx)
      have hcb := cnt_bd (CanonFrom.take k HC.out) (Int.le_refl _) (by decide)
      have hcs := Lib.hid (cnt_take l k x hx)
      unfold allN at hf hcb
      obtain ⟨x1, x2⟩ := x
      simp only at hf hcs r1 r2
      obtain ⟨u, hu⟩ : ∃ u, x2 - 1 = u := ⟨_, rfl⟩
      rw [hu] at r2
      clear hx
      generalize cntL (l.take k) = A at *
      have a1 : IntKind.i64.wrap (A + u) = A + u := IntWalk.i64_in _ (by omega)
      have a2 : IntKind.i64.wrap (A + u - x1) = A + u - x1 := IntWalk.i64_in _ (by omega)
      have a3 : IntKind.i64.wrap (A + u - x1 + 1) = A + u - x1 + 1 := IntWalk.i64_in _ (by omega)
      have HU := Lib.hid (And.intro hu (And.intro hf hcb))
      clear hu hf hcb
      go_wp2
      go_quiet (fail)
      go_wp2
      go_roundw
      case rel => exact ⟨k + 1, by go_num, by omega, by rw [hcs.out]; congr 1; have := HU.out.1; omega, HB.out.next (below_drewN (Below.refl _ _) _)⟩
      case measure => simp [RowKit.intOf]; omega
    · have hlt' : ¬ (k : Int) < n := by omega
      obtain rfl : k = n := by omega
      have e : l.take k = l := by rw [← HN.out, List.take_length]
      rw [e]
      go_wp2
      go_ret
      exact ⟨rfl, HB.out.2.1⟩

theorem append_spn {Y : Nat → Prop} {ao : Option Addr} {n cp : Nat} {l : List (Int × Int)} {W : World} (hown : OwnS Y 39 2 (.slice ao n cp) n (encSp l) W) (hY : ∀ y, W.heap.size ≤ y → Y y) (x : Int × Int) (hn : n ≤ 2199023255552) :
    ∃ g cap w', (∀ ty, (Builtin.append_ #[22, 22] ty #[.slice ao n cp, .slice (some ⟨W.heap.size, 0, none⟩) 1 1]).run Tryz.prog (W.alloc (.cells #[.int .i32 x.1, .int .i32 x.2] 39)) = .ok (.slice (some ⟨g, 0, none⟩) (n + 1) cap) w') ∧
      OwnS Y 39 2 (.slice (some ⟨g, 0, none⟩) (n + 1) cap) (n + 1) (encSp (l ++ [x])) w' ∧ W.heap.size < w'.heap.size ∧ Keep (fun b => (Value.slice ao n cp).ownBlock = some b) W w' := by
  obtain ⟨g, cap, w2, hrun, hown2, hk2, hg2, hz2⟩ := append_x (P := Tryz.prog) W 22 39 Tryz.underlying22 tinfoSpan rfl (by omega) hown [.int .i32 x.1, .int .i32 x.2] rfl
    (by intro u hu; simp at hu; rcases hu with rfl | rfl <;> rfl) (by unfold maxLen; omega) (by omega)
  have hge : Y g := by
    rcases hg2 with h | h
    · exact hown.2 g h
    · exact hY g (by omega)
  refine ⟨g, cap, w2, hrun, ?_, hz2, hk2⟩
  rw [encSp_snoc]; exact hown2.weaken (fun b h => by subst h; exact hge)

set_option maxRecDepth 100000 in
theorem xspans_any (l : List Run) (v : Value) (w : World) (h : SlR w v (l.map dnR)) (hc : Canon l) :
    Calls Tryz.prog 37 #[.agg #[v]] w fun e w' => ∃ ao cp, e = .returned (.slice ao l.length cp) ∧ OwnS (fun b => w.heap.size ≤ b) 39 2 (.slice ao l.length cp) l.length (encSp (spansL l)) w' ∧ Below w.heap.size w w' := by
  obtain ⟨ao, cap, rfl, hrow⟩ := slr_at h
  have hlen := canon_len hc (Int.le_refl _)
  have hl : l.length ≤ 1112192 := by unfold allN at hlen; omega
  have HR := Lib.hid hrow
  have HC := Lib.hid hc
  clear h hrow hc hlen
  obtain ⟨n, hn⟩ : ∃ n, l.length = n := ⟨_, rfl⟩
  have HN := Lib.hid hn
  rw [hn] at hl ⊢
  clear hn
  go_enter Tryz.func37, Tryz.ntmps37
  go_wp2
  go_loopw [3, 4] (fun a x wr => ∃ (k : Nat) (a2 : Option Addr) (c2 : Nat), x = .int .i64 k ∧ k ≤ n ∧ a = .slice a2 k c2 ∧ OwnS (fun b => w.heap.size + 1 ≤ b) 39 2 (.slice a2 k c2) k (encSp (spansL (l.take k))) wr ∧ BoxW w (.slice ao n cap) wr) (fun _ x _ => n - (RowKit.intOf x).toNat)
  case atStart => exact ⟨0, none, 0, rfl, by omega, rfl, own_nil _ _ _ _, BoxW.start _ _⟩
  case round =>
    obtain ⟨k, a2, c2, rfl, hk, rfl, hown, hb⟩ := hrel
    have c0 := hb.cell
    have HB := Lib.hid hb
    have HO := Lib.hid hown
    clear hb hown
    by_cases hlt : k < n
    · have hlt' : (k : Int) < n := by omega
      obtain ⟨x, hx⟩ : ∃ x, l[k]? = some x := ⟨_, List.getElem?_eq_getElem (by rw [HN.out]; exact hlt)⟩
      obtain ⟨g, rfl, r1, r2⟩ := HR.out wr HB.out.2.1 k x hx
      have hf := Canon.fit HC.out x (List.mem_of_getElem? hx)
      unfold allN at hf
      have HS : Hid (spansL (l.take (k + 1)) = spansL (l.take k) ++ [(pntI x.1, pntI (x.2 - 1))]) := Lib.hid (by
        unfold spansL
        rw [List.take_add_one, hx, List.map_append]; rfl)
      obtain ⟨x1, x2⟩ := x
      simp only at hf HS r1 r2
      obtain ⟨u, hu⟩ : ∃ u, x2 - 1 = u := ⟨_, rfl⟩
      rw [hu] at r2 HS
      have P1 := Lib.hid (fun V => xPoint_any x1 V (by omega) (by omega))
      have P2 := Lib.hid (fun V => xPoint_any u V (by omega) (by omega))
      generalize pntI x1 = p1 at *
      generalize pntI u = p2 at *
      obtain ⟨L, hLL⟩ : ∃ L, spansL (l.take k) = L := ⟨_, rfl⟩
      rw [hLL] at HO HS
      have hown1 : OwnS (fun y => (Value.slice a2 k c2).ownBlock = some y) 39 2 (.slice a2 k c2) k (encSp L) wr := HO.out.self
      have hkv : ∀ y, (Value.slice a2 k c2).ownBlock = some y → y < wr.heap.size := fun y h => (HO.out.1.lt y h).2
      obtain ⟨ti, hti, hz, hs1, hbt⟩ := info_parts tinfoSpan
      have HI := And.intro hti (And.intro hz (And.intro hs1 hbt))
      have HOC : ∀ z ∈ [Value.int .i32 p1, .int .i32 p2], z.oneCell' = true := by intro z hz; simp at hz; rcases hz with rfl | rfl <;> rfl
      have HM1 : k + 1 ≤ maxLen := by unfold maxLen; omega
      have HM2 : (k + 1) * 8 ≤ 140737488355328 := by omega
      have BS : ∀ W : World, (Instr.buildSlice 22 1 #[(0, .agg #[.int .i32 p1, .int .i32 p2])]).run Tryz.prog W = .ok (.slice (some ⟨W.heap.size, 0, none⟩) 1 1) (W.alloc (.cells #[.int .i32 p1, .int .i32 p2] 39)) := fun W => by go_simp
      have BD : ∀ W : World, (Instr.build 39 #[(0, .int .i32 p1), (1, .int .i32 p2)]).run Tryz.prog W = .ok (.agg #[.int .i32 p1, .int .i32 p2]) W := fun W => by go_simp
      have RK : ∀ X, Keep (fun b => (Value.slice a2 k c2).ownBlock = some b) wr X → X.cell? ⟨w.heap.size, 0, none⟩ = some (.slice (some ⟨g, 0, none⟩) n cap) ∧ X.cell? ⟨g, k * 2, none⟩ = some (.int .i64 x1) ∧ X.cell? ⟨g, k * 2 + 1, none⟩ = some (.int .i64 u) := fun X hX => by
        have hbx := HB.out.keep hX (fun b hb => HO.out.2 b hb)
        obtain ⟨g', e, h1, h2⟩ := HR.out X hbx.2.1 k _ hx
        injection e with e
        injection e with e
        subst e
        simp only [hu] at h2
        exact ⟨hbx.cell, h1, h2⟩
      have hfa : ∀ X : World, (Instr.fieldAt 33 (.pointer (some ⟨w.heap.size, 0, none⟩)) 0).run Tryz.prog X = .ok (.pointer (some ⟨w.heap.size, 0, none⟩)) X := fun X => by go_simp
      have hls : ∀ X, Keep (fun b => (Value.slice a2 k c2).ownBlock = some b) wr X → (Instr.loadAt 31 (.pointer (some ⟨w.heap.size, 0, none⟩))).run Tryz.prog X = .ok (.slice (some ⟨g, 0, none⟩) n cap) X := fun X hX => by
        have q := (RK X hX).1
        go_simp
      have hl0 : ∀ X, Keep (fun b => (Value.slice a2 k c2).ownBlock = some b) wr X → (Instr.loadAt 3 (.pointer (some ⟨g, k * 2, none⟩))).run Tryz.prog X = .ok (.int .i64 x1) X := fun X hX => by
        have q := (RK X hX).2.1
        go_simp
      have hl1 : ∀ X, Keep (fun b => (Value.slice a2 k c2).ownBlock = some b) wr X → (Instr.loadAt 3 (.pointer (some ⟨g, k * 2 + 1, none⟩))).run Tryz.prog X = .ok (.int .i64 u) X := fun X hX => by
        have q := (RK X hX).2.2
        go_simp
      have hix : ∀ X : World, (Instr.indexAt 31 (.slice (some ⟨g, 0, none⟩) n cap) (.int .i64 (k : Nat))).run Tryz.prog X = .ok (.pointer (some ⟨g, k * 2, none⟩)) X := fun X => by go_simp
      have hi0 : ∀ X : World, (Instr.indexAt 90 (.pointer (some ⟨g, k * 2, none⟩)) (.int .i64 0)).run Tryz.prog X = .ok (.pointer (some ⟨g, k * 2, none⟩)) X := fun X => by go_simp
      have hi1 : ∀ X : World, (Instr.indexAt 90 (.pointer (some ⟨g, k * 2, none⟩)) (.int .i64 1)).run Tryz.prog X = .ok (.pointer (some ⟨g, k * 2 + 1, none⟩)) X := fun X => by go_simp
      go_wp2
      obtain ⟨FF, hFF⟩ : ∃ FF : AppR, FF = ⟨wr, .slice a2 k c2, 39, 2, k, k + 1, encSp L, encSp L ++ [.int .i32 p1, .int .i32 p2], #[.int .i32 p1, .int .i32 p2], 1, 16, 17, 18, fun z => match z with | 0 => some (.slice a2 k c2) | 1 => some (.pointer (some ⟨w.heap.size, 0, none⟩)) | 2 => some (.slice (some ⟨g, 0, none⟩) n cap) | 3 => some (.int .i64 (k : Nat)) | 4 => some (.pointer (some ⟨g, k * 2, none⟩)) | 5 => some (.pointer (some ⟨g, k * 2, none⟩)) | 6 => some (.int .i64 x1) | 7 => some (.int .i32 p1) | 8 => some (.pointer (some ⟨w.heap.size, 0, none⟩)) | 9 => some (.slice (some ⟨g, 0, none⟩) n cap) | 10 => some (.int .i64 (k : Nat)) | 11 => some (.pointer (some ⟨g, k * 2, none⟩)) | 12 => some (.pointer (some ⟨g, k * 2 + 1, none⟩)) | 13 => some (.int .i64 u) | 14 => some (.int .i32 p2) | 15 => some (.agg #[.int .i32 p1, .int .i32 p2]) | _ => none⟩ := ⟨_, rfl⟩
      have H0 : AppR.S FF (fun _ => false) wr.drew := by rw [hFF]; exact ⟨fun _ => hown1, (Keep.refl _ wr).drew⟩
      refine wp_region_old (AppR.S FF) (AppR.P FF) (by kernel_rfl) (by kernel_rfl) (by kernel_rfl) H0 ?hs ?hd
      case hs =>
        rw [hFF]
        refine ESteps.cons ?_ (ESteps.cons ?_ (ESteps.cons ?_ (ESteps.cons ?_ (ESteps.cons ?_ (ESteps.cons ?_ (ESteps.cons ?_ (ESteps.cons ?_ (ESteps.cons ?_ (ESteps.cons ?_ (ESteps.cons ?_ (ESteps.cons ?_ (ESteps.cons ?_ (ESteps.cons ?_ (ESteps.cons ?_ (ESteps.cons ?_ (ESteps.cons ?_ (ESteps.cons ?_ (ESteps.cons ?_ (ESteps.nil)))))))))))))))))))
        · intro D2 a X hDi hDa _ hX hL hU hd
          refine ⟨rfl, ?_⟩
          have e0 : a.eval (.tmp 3) = .slice a2 k c2 := (hU 18 3 (hDa 18 (by kernel_rfl)) (by kernel_rfl)).trans (by kernel_rfl)
          exact wp_value (exec_move rfl e0) ⟨_, rfl, hX.more, fun _ _ _ h => h, AppR.P.mk rfl ⟨by simp, by simp, by simp⟩⟩
        · intro D2 a X hDi hDa _ hX hL hU hd
          refine ⟨rfl, ?_⟩
          have e0 : a.eval (.tmp 1) = .pointer (some ⟨w.heap.size, 0, none⟩) := hL.far 1 (by kernel_rfl)
          exact wp_value (exec_fieldAddr rfl e0 (hfa X)) ⟨_, rfl, hX.more, fun _ _ _ h => h, AppR.P.mk rfl ⟨by simp, by simp, by simp⟩⟩
        · intro D2 a X hDi hDa _ hX hL hU hd
          refine ⟨rfl, ?_⟩
          have e0 : a.eval (.tmp 13) = .pointer (some ⟨w.heap.size, 0, none⟩) := (hd 1 13 (by kernel_rfl) (by kernel_rfl)).is rfl
          exact wp_value (exec_load rfl e0 (hls X hX.2)) ⟨_, rfl, hX.more, fun _ _ _ h => h, AppR.P.mk rfl ⟨by simp, by simp, by simp⟩⟩
        · intro D2 a X hDi hDa _ hX hL hU hd
          refine ⟨rfl, ?_⟩
          have e0 : a.eval (.tmp 4) = .int .i64 (k : Nat) := hL.far 4 (by kernel_rfl)
          exact wp_value (exec_move rfl e0) ⟨_, rfl, hX.more, fun _ _ _ h => h, AppR.P.mk rfl ⟨by simp, by simp, by simp⟩⟩
        · intro D2 a X hDi hDa _ hX hL hU hd
          refine ⟨rfl, ?_⟩
          have e0 : a.eval (.tmp 14) = .slice (some ⟨g, 0, none⟩) n cap := (hd 2 14 (by kernel_rfl) (by kernel_rfl)).is rfl
          have e1 : a.eval (.tmp 15) = .int .i64 (k : Nat) := (hd 3 15 (by kernel_rfl) (by kernel_rfl)).is rfl
          exact wp_value (exec_indexAddr rfl e0 e1 (hix X)) ⟨_, rfl, hX.more, fun _ _ _ h => h, AppR.P.mk rfl ⟨by simp, by simp, by simp⟩⟩
        · intro D2 a X hDi hDa _ hX hL hU hd
          refine ⟨rfl, ?_⟩
          have e0 : a.eval (.tmp 16) = .pointer (some ⟨g, k * 2, none⟩) := (hd 4 16 (by kernel_rfl) (by kernel_rfl)).is rfl
          exact wp_value (exec_indexAddr rfl e0 rfl (hi0 X)) ⟨_, rfl, hX.more, fun _ _ _ h => h, AppR.P.mk rfl ⟨by simp, by simp, by simp⟩⟩
        · intro D2 a X hDi hDa _ hX hL hU hd
          refine ⟨rfl, ?_⟩
          have e0 : a.eval (.tmp 17) = .pointer (some ⟨g, k * 2, none⟩) := (hd 5 17 (by kernel_rfl) (by kernel_rfl)).is rfl
          exact wp_value (exec_load rfl e0 (hl0 X hX.2)) ⟨_, rfl, hX.more, fun _ _ _ h => h, AppR.P.mk rfl ⟨by simp, by simp, by simp⟩⟩
        · intro D2 a X hDi hDa _ hX hL hU hd
          refine ⟨rfl, ?_⟩
          have e0 : a.eval (.tmp 18) = .int .i64 x1 := (hd 6 18 (by kernel_rfl) (by kernel_rfl)).is rfl
          refine wp_enter (exec_call (vs := #[.int .i64 x1]) rfl (by simp only [List.map_toArray, List.map_cons, List.map_nil, e0]) Tryz.func89 rfl rfl) ?_
          refine (P1.out X).mono ?_
          rintro e w' ⟨rfl, rfl⟩
          exact ⟨_, rfl, _, rfl, hX.more, fun _ _ _ h => h, AppR.P.mk rfl ⟨by simp, by simp, by simp⟩⟩
        · intro D2 a X hDi hDa _ hX hL hU hd
          refine ⟨rfl, ?_⟩
          have e0 : a.eval (.tmp 1) = .pointer (some ⟨w.heap.size, 0, none⟩) := hL.far 1 (by kernel_rfl)
          exact wp_value (exec_fieldAddr rfl e0 (hfa X)) ⟨_, rfl, hX.more, fun _ _ _ h => h, AppR.P.mk rfl ⟨by simp, by simp, by simp⟩⟩
        · intro D2 a X hDi hDa _ hX hL hU hd
          refine ⟨rfl, ?_⟩
          have e0 : a.eval (.tmp 20) = .pointer (some ⟨w.heap.size, 0, none⟩) := (hd 8 20 (by kernel_rfl) (by kernel_rfl)).is rfl
          exact wp_value (exec_load rfl e0 (hls X hX.2)) ⟨_, rfl, hX.more, fun _ _ _ h => h, AppR.P.mk rfl ⟨by simp, by simp, by simp⟩⟩
        · intro D2 a X hDi hDa _ hX hL hU hd
          refine ⟨rfl, ?_⟩
          have e0 : a.eval (.tmp 4) = .int .i64 (k : Nat) := hL.far 4 (by kernel_rfl)
          exact wp_value (exec_move rfl e0) ⟨_, rfl, hX.more, fun _ _ _ h => h, AppR.P.mk rfl ⟨by simp, by simp, by simp⟩⟩
        · intro D2 a X hDi hDa _ hX hL hU hd
          refine ⟨rfl, ?_⟩
          have e0 : a.eval (.tmp 21) = .slice (some ⟨g, 0, none⟩) n cap := (hd 9 21 (by kernel_rfl) (by kernel_rfl)).is rfl
          have e1 : a.eval (.tmp 22) = .int .i64 (k : Nat) := (hd 10 22 (by kernel_rfl) (by kernel_rfl)).is rfl
          exact wp_value (exec_indexAddr rfl e0 e1 (hix X)) ⟨_, rfl, hX.more, fun _ _ _ h => h, AppR.P.mk rfl ⟨by simp, by simp, by simp⟩⟩
        · intro D2 a X hDi hDa _ hX hL hU hd
          refine ⟨rfl, ?_⟩
          have e0 : a.eval (.tmp 23) = .pointer (some ⟨g, k * 2, none⟩) := (hd 11 23 (by kernel_rfl) (by kernel_rfl)).is rfl
          exact wp_value (exec_indexAddr rfl e0 rfl (hi1 X)) ⟨_, rfl, hX.more, fun _ _ _ h => h, AppR.P.mk rfl ⟨by simp, by simp, by simp⟩⟩
        · intro D2 a X hDi hDa _ hX hL hU hd
          refine ⟨rfl, ?_⟩
          have e0 : a.eval (.tmp 24) = .pointer (some ⟨g, k * 2 + 1, none⟩) := (hd 12 24 (by kernel_rfl) (by kernel_rfl)).is rfl
          exact wp_value (exec_load rfl e0 (hl1 X hX.2)) ⟨_, rfl, hX.more, fun _ _ _ h => h, AppR.P.mk rfl ⟨by simp, by simp, by simp⟩⟩
        · intro D2 a X hDi hDa _ hX hL hU hd
          refine ⟨rfl, ?_⟩
          have e0 : a.eval (.tmp 25) = .int .i64 u := (hd 13 25 (by kernel_rfl) (by kernel_rfl)).is rfl
          refine wp_enter (exec_call (vs := #[.int .i64 u]) rfl (by simp only [List.map_toArray, List.map_cons, List.map_nil, e0]) Tryz.func89 rfl rfl) ?_
          refine (P2.out X).mono ?_
          rintro e w' ⟨rfl, rfl⟩
          exact ⟨_, rfl, _, rfl, hX.more, fun _ _ _ h => h, AppR.P.mk rfl ⟨by simp, by simp, by simp⟩⟩
        · intro D2 a X hDi hDa _ hX hL hU hd
          refine ⟨rfl, ?_⟩
          have e0 : a.eval (.tmp 19) = .int .i32 p1 := (hd 7 19 (by kernel_rfl) (by kernel_rfl)).is rfl
          have e1 : a.eval (.tmp 26) = .int .i32 p2 := (hd 14 26 (by kernel_rfl) (by kernel_rfl)).is rfl
          exact wp_value (exec_build rfl (ps := #[(0, .int .i32 p1), (1, .int .i32 p2)]) (by simp only [List.map_toArray, List.map_cons, List.map_nil, e0, e1] <;> rfl) (BD X)) ⟨_, rfl, hX.more, fun _ _ _ h => h, AppR.P.mk rfl ⟨by simp, by simp, by simp⟩⟩
        · intro D2 a X hDi hDa _ hX hL hU hd
          refine ⟨rfl, ?_⟩
          have e0 : a.eval (.tmp 27) = .agg #[.int .i32 p1, .int .i32 p2] := (hd 15 27 (by kernel_rfl) (by kernel_rfl)).is rfl
          refine wp_value (exec_buildSlice rfl (ps := #[(0, .agg #[.int .i32 p1, .int .i32 p2])]) (by simp only [List.map_toArray, List.map_cons, List.map_nil, e0] <;> rfl) (BS X)) ⟨_, rfl, (hX.below ((Below.refl _ X).alloc (Nat.le_refl _) _)).more, fun _ _ _ h => h.below ((Below.refl _ X).alloc (Nat.le_refl _) _), AppR.P.bs_ rfl ⟨by simp, by simp⟩ ⟨X.heap.size, rfl, alloc_at rfl, hX.2.size⟩⟩
        · intro D2 a X hDi hDa _ hX hL hU hd
          refine ⟨rfl, ?_⟩
          have e0 : a.eval (.tmp 12) = .slice a2 k c2 := (hd 0 12 (by kernel_rfl) (by kernel_rfl)).is rfl
          obtain ⟨b2, hb1, hb2, hb3⟩ := (hd 16 28 (by kernel_rfl) (by kernel_rfl)).2.1 rfl
          have h11 := hDa 18 (by kernel_rfl)
          have hown := hX.1 hDi
          refine wp_append_lies X (.tmp 12) (.tmp 28) 22 rfl 0 39 ti (.agg #[.int .i32 0, .int .i32 0]) 2 8 Tryz.underlying22 HI.1 HI.2.1 HI.2.2.1 HI.2.2.2 rfl (by decide) (.slice a2 k c2) k (encSp L) e0 hown.1 ⟨b2, 0, none⟩ 1 1 [.int .i32 p1, .int .i32 p2] hb1 rfl (World.news_of_block hb2) HOC (by decide) HM1 HM2 (Nat.zero_le _) _ rfl ?_
          intro g2 cap2 X2 hown2 hgrow hat hlt2
          exact ⟨_, rfl, hX.app (keep_grown hgrow), fun j u hj h => h.app hkv (keep_grown hgrow) (fun e => by subst e; rw [hDi] at hj; cases hj) (fun e => by subst e; rw [h11] at hj; cases hj), AppR.P.row (.inl rfl) rfl (by simp) ⟨_, _, rfl, hown2, fun y hy => by
            have : g2 = y := by simpa [Value.ownBlock] using hy
            subst this
            rcases hat with h | h
            · exact .inl h
            · exact .inr (by have := hX.2.size; simp only at this ⊢; omega)⟩⟩
        · intro D2 a X hDi hDa _ hX hL hU hd
          refine ⟨rfl, ?_⟩
          have hrow := (hd 17 29 (by kernel_rfl) (by kernel_rfl)).2.2 (.inl rfl)
          exact wp_value (exec_asg rfl rfl) ⟨_, rfl, hX.more, fun _ _ _ h => h, AppR.P.row (.inr rfl) rfl (by simp) hrow⟩
      case hd =>
        intro D2 a X hAll hX hL hP hE
        have hrow := (hP 18 3 (by kernel_rfl)).2.2 (.inr (by rw [hFF]))
        rw [hFF] at hrow hX
        obtain ⟨ao2, cp2, hv3, ho2⟩ := hrow
        have hK := hX.2
        obtain ⟨f, ha2, hf⟩ := hL.out [12, 13, 14, 15, 16, 17, 18, 19, 20, 21, 22, 23, 24, 25, 26, 27, 28, 29, 3] rfl
        have v3 : f 3 = .slice ao2 (k + 1) cp2 := (hf 3).trans hv3
        have HX := Lib.hid (And.intro ho2 hK)
        clear hf hAll hX hL hP hE H0 hFF BS BD HM1 HM2 HOC HI hti hz hs1 hbt hkv hown1 ho2 hK hv3 RK hls hl0 hl1 hfa hix hi0 hi1
        simp only [List.foldl_cons, List.foldl_nil, List.setIfInBounds_toArray, List.set_cons_zero, List.set_cons_succ, v3] at ha2
        subst ha2
        go_wp2
        go_roundw
        case rel =>
          obtain ⟨ho2, hK⟩ := HX.out
          simp only at ho2 hK
          refine ⟨k + 1, _, _, by go_num, by omega, rfl, ?_, HB.out.keep hK (fun b hb => HO.out.2 b hb)⟩
          rw [HS.out, encSp_snoc]
          exact ho2.weaken (fun y hy => by
            rcases hy with h | h
            · exact HO.out.2 y h
            · exact Nat.le_trans HB.out.2.2 h)
        case measure => simp [RowKit.intOf]; omega
    · have hlt' : ¬ (k : Int) < n := by omega
      obtain rfl : k = n := by omega
      have e : l.take k = l := by rw [← HN.out, List.take_length]
      rw [e] at HO
      go_wp2
      go_ret
      exact ⟨_, _, rfl, HO.out.weaken (fun b hb => by have hb : w.heap.size + 1 ≤ b := hb; omega), HB.out.2.1⟩

theorem dOne_pnt {m : Int} (h0 : 0 ≤ m) (h1 : m < allN) : dOne (pntI m) = printP (pntI m) := by
  refine dOne_print ?_
  rw [dNum_numB, num_pnt h0 h1]
  simpa using h0
set_option maxRecDepth 100000 in
set_option maxHeartbeats 1000000 in
theorem xprint_any (l : List Run) (v : Value) (w : World) (h : SlR w v (l.map dnR)) (hc : Canon l) :
    Calls Tryz.prog 39 #[.agg #[v]] w fun e w' => e = .returned (.string ⟨(91 :: printL (spansL l) ++ [93]).toArray⟩) ∧ Below w.heap.size w w' := by
  have hlen := canon_len hc (Int.le_refl _)
  have hl : l.length ≤ 1112192 := by unfold allN at hlen; omega
  have CS := Lib.hid (fun V (hV : Below w.heap.size w V) => xspans_any l v V (h.below hV) hc)
  have HC := Lib.hid hc
  have hvs : ∃ ao cap, v = .slice ao l.length cap := by obtain ⟨ao, cap, e, _⟩ := slr_at h; exact ⟨ao, cap, e⟩
  obtain ⟨va, vc, rfl⟩ := hvs
  clear h hc hlen
  obtain ⟨n, hn⟩ : ∃ n, l.length = n := ⟨_, rfl⟩
  have HN := Lib.hid hn
  rw [hn] at hl CS ⊢
  clear hn
  have H0 := Lib.hid (BoxW.start w (.slice va n vc))
  have c0 := H0.out.cell
  go_enter Tryz.func39, Tryz.ntmps39
  go_wp2_with fail
  refine (CS.out _ H0.out.2.1).mono ?_
  rintro e V ⟨ao, cp, rfl, ho, hb⟩
  have hlm : (spansL l).length = n := by unfold spansL; rw [List.length_map, HN.out]
  have hg := spg_of_own ho hlm.symm
  have HB := Lib.hid (H0.out.2.1.trans (hb.mono H0.out.2.1.size))
  obtain ⟨ag, cg, e2, hg⟩ := hg
  obtain ⟨rfl, rfl⟩ : ag = ao ∧ cg = cp := by injection e2 with e3 e4 e5; exact ⟨e3.symm, e5.symm⟩
  have HG := Lib.hid hg
  have HLM := Lib.hid hlm
  clear ho hb hg e2 c0 CS hlm
  go_wp2_with fail
  go_loopw [3, 5] (fun a x wr => ∃ k : Nat, x = .int .i64 k ∧ k ≤ n ∧ a = .string ⟨(91 :: printL ((spansL l).take k)).toArray⟩ ∧ Below V.heap.size V wr) (fun _ x _ => n - (RowKit.intOf x).toNat)
  case atStart => exact ⟨0, rfl, by omega, rfl, Below.refl _ _⟩
  case round =>
    obtain ⟨k, rfl, hk, rfl, hbr⟩ := hrel
    have HR := Lib.hid hbr
    clear hbr
    have htl := printL_len ((spansL l).take k)
    have htk : ((spansL l).take k).length ≤ n := by rw [List.length_take]; omega
    by_cases hlt : k < n
    · have hlt' : (k : Int) < n := by omega
      obtain ⟨x, hx⟩ : ∃ x, l[k]? = some x := ⟨_, List.getElem?_eq_getElem (by rw [HN.out]; exact hlt)⟩
      have hf := Canon.fit HC.out x (List.mem_of_getElem? hx)
      unfold allN at hf
      have hsx : (spansL l)[k]? = some (pntI x.1, pntI (x.2 - 1)) := by unfold spansL; rw [List.getElem?_map, hx]; rfl
      obtain ⟨g, off, rfl, r1, r2⟩ : ∃ g off, ag = some ⟨g, off, none⟩ ∧ wr.cell? ⟨g, off + k * 2, none⟩ = some (.int .i32 (pntI x.1)) ∧ wr.cell? ⟨g, off + k * 2 + 1, none⟩ = some (.int .i32 (pntI (x.2 - 1))) := by
        rcases HG.out with h | ⟨g, off, e, h⟩
        · rw [h] at hsx; cases hsx
        · have h3 := h k _ hsx
          exact ⟨g, off, e, (HR.out.cell (lt_of_cell h3.1)).trans h3.1, (HR.out.cell (lt_of_cell h3.2)).trans h3.2⟩
      have HP : Hid (printL ((spansL l).take (k + 1)) = printL ((spansL l).take k) ++ printS (pntI x.1, pntI (x.2 - 1))) := Lib.hid (by
        rw [List.take_add_one, hsx]; exact printL_snoc _ _)
      have e1 := dOne_pnt (m := x.1) (by omega) (by unfold allN; omega)
      have e2 := dOne_pnt (m := x.2 - 1) (by omega) (by unfold allN; omega)
      have b1 := pntI_bd (n := x.1) (by omega)
      have b2 := pntI_bd (n := x.2 - 1) (by omega)
      have C1 := Lib.hid (fun W => xOne_any (pntI x.1) W (by omega) (by omega))
      have C2 := Lib.hid (fun W => xOne_any (pntI (x.2 - 1)) W (by omega) (by omega))
      rw [e1] at C1
      rw [e2] at C2
      obtain ⟨x1, x2⟩ := x
      simp only at r1 r2 HP C1 C2 b1 b2
      clear hx hsx hf e1 e2
      generalize pntI x1 = p1 at *
      generalize pntI (x2 - 1) = p2 at *
      have l1 := printP_len p1
      have l2 := printP_len p2
      obtain ⟨T, hT⟩ : ∃ T : ByteArray, ⟨(91 :: printL ((spansL l).take k)).toArray⟩ = T := ⟨_, rfl⟩
      obtain ⟨D, hD⟩ : ∃ D : ByteArray, ⟨(printP p1).toArray⟩ = D := ⟨_, rfl⟩
      obtain ⟨E, hE⟩ : ∃ E : ByteArray, ⟨(printP p2).toArray⟩ = E := ⟨_, rfl⟩
      have sT : T.size ≤ 30029185 := by rw [← hT]; show (91 :: printL _).toArray.size ≤ _; simp; omega
      have sD : D.size ≤ 13 := by rw [← hD]; show (printP p1).toArray.size ≤ _; simp; omega
      have sE : E.size ≤ 13 := by rw [← hE]; show (printP p2).toArray.size ≤ _; simp; omega
      have sTD : (T ++ D).size ≤ 30029198 := by rw [ByteArray.size_append]; omega
      have sTD2 : (T ++ D ++ ⟨#[45]⟩).size ≤ 30029199 := by rw [ByteArray.size_append]; show (T ++ D).size + 1 ≤ _; omega
      have HX1 : Hid (p2 = p1 → T ++ D = ⟨(91 :: printL ((spansL l).take (k + 1))).toArray⟩) := Lib.hid (fun hpp => by
        rw [HP.out, ← hT, ← hD, bytes_add]
        unfold printS
        rw [if_pos hpp, List.append_nil]; rfl)
      have HX2 : Hid (p2 ≠ p1 → T ++ D ++ ⟨#[45]⟩ ++ E = ⟨(91 :: printL ((spansL l).take (k + 1))).toArray⟩) := Lib.hid (fun hpp => by
        rw [HP.out, ← hT, ← hD, ← hE, bytes_add]
        have h45 : (⟨#[45]⟩ : ByteArray) = ⟨[45].toArray⟩ := rfl
        rw [h45, bytes_add, bytes_add]
        unfold printS
        rw [if_neg hpp]
        simp)
      rw [hD] at C1
      rw [hE] at C2
      rw [hT]
      clear htl htk l1 l2 hT hD hE b1 b2
      by_cases hpp : p2 = p1
      · subst hpp
        have hpb : (p2 != p2) = false := by simp
        have HXX := Lib.hid (HX1.out rfl)
        clear HX1 HX2
        go_wp2_with fail
        refine (C1.out _).mono ?_
        rintro e W ⟨rfl, hb1⟩
        have r1' := (hb1.cell (lt_of_cell r1)).trans r1
        have r2' := (hb1.cell (lt_of_cell r2)).trans r2
        have HB1 := Lib.hid (HR.out.trans (hb1.mono HR.out.size))
        clear hb1 r1 r2
        go_wp2_with fail
        go_quiet (fail)
        go_wp2
        go_roundw
        case rel => exact ⟨k + 1, by go_num, by omega, by rw [HXX.out], below_drewN HB1.out _⟩
        case measure => simp [RowKit.intOf]; omega
      · have hpb : (p2 != p1) = true := by simpa using hpp
        have HXX := Lib.hid (HX2.out hpp)
        clear HX1 HX2
        go_wp2_with fail
        refine (C1.out _).mono ?_
        rintro e W ⟨rfl, hb1⟩
        have r1' := (hb1.cell (lt_of_cell r1)).trans r1
        have r2' := (hb1.cell (lt_of_cell r2)).trans r2
        have HB1 := Lib.hid (HR.out.trans (hb1.mono HR.out.size))
        clear hb1 r1 r2 hpp
        go_wp2_with fail
        go_quiet (fail)
        go_wp2_with fail
        refine (C2.out _).mono ?_
        rintro e W2 ⟨rfl, hb2⟩
        have HB2 := Lib.hid ((below_drewN HB1.out _).trans (hb2.mono (below_drewN HB1.out _).size))
        clear hb2
        go_wp2_with fail
        go_roundw
        case rel => exact ⟨k + 1, by go_num, by omega, by rw [HXX.out], HB2.out⟩
        case measure => simp [RowKit.intOf]; omega
    · have hlt' : ¬ (k : Int) < n := by omega
      obtain rfl : k = n := by omega
      have e : (spansL l).take k = spansL l := by rw [← HLM.out, List.take_length]
      rw [e] at htl ⊢
      have HX : Hid ((⟨(91 :: printL (spansL l)).toArray⟩ : ByteArray) ++ ⟨#[93]⟩ = ⟨(91 :: printL (spansL l) ++ [93]).toArray⟩) := Lib.hid (bytes_add _ [93])
      have hlm := HLM.out
      obtain ⟨T, hT⟩ : ∃ T : ByteArray, ⟨(91 :: printL (spansL l)).toArray⟩ = T := ⟨_, rfl⟩
      have sT : T.size ≤ 30029185 := by rw [← hT]; show (91 :: printL _).toArray.size ≤ _; simp; omega
      rw [hT] at HX ⊢
      clear hT htl htk hlm
      go_wp2
      go_ret
      exact ⟨by first | rfl | (rw [HX.out]; rfl), HB.out.trans (HR.out.mono HB.out.size)⟩

/-- Points as they stand in memory. -/
abbrev ptsV (l : List Int) : List Value := l.map fun x => .int .i32 x
theorem append_pt {Y : Nat → Prop} {ao : Option Addr} {n cp : Nat} {l : List Int} {W : World} (hown : OwnS Y 21 1 (.slice ao n cp) n (ptsV l) W) (hY : ∀ y, W.heap.size ≤ y → Y y) (x : Int) (hn : n ≤ 2199023255552) :
    ∃ g cap w', (∀ ty, (Builtin.append_ #[23, 23] ty #[.slice ao n cp, .slice (some ⟨W.heap.size, 0, none⟩) 1 1]).run Tryz.prog (W.alloc (.cells #[.int .i32 x] 21)) = .ok (.slice (some ⟨g, 0, none⟩) (n + 1) cap) w') ∧
      OwnS Y 21 1 (.slice (some ⟨g, 0, none⟩) (n + 1) cap) (n + 1) (ptsV (l ++ [x])) w' ∧ W.heap.size < w'.heap.size ∧ Keep (fun b => (Value.slice ao n cp).ownBlock = some b) W w' := by
  obtain ⟨g, cap, w2, hrun, hown2, hk2, hg2, hz2⟩ := append_x (P := Tryz.prog) W 23 21 Tryz.underlying23 tinfo21 rfl (by omega) hown [.int .i32 x] rfl
    (by intro u hu; simp at hu; subst hu; rfl) (by unfold maxLen; omega) (by omega)
  have hge : Y g := by
    rcases hg2 with h | h
    · exact hown.2 g h
    · exact hY g (by omega)
  refine ⟨g, cap, w2, hrun, ?_, hz2, hk2⟩
  rw [show ptsV (l ++ [x]) = ptsV l ++ [.int .i32 x] by unfold ptsV; rw [List.map_append]; rfl]
  exact hown2.weaken (fun b h => by subst h; exact hge)
theorem take_pre {A B : List Int} {N : Nat} (h : A <+: B) (hA : N ≤ A.length) : B.take N = A.take N := by
  obtain ⟨t, rfl⟩ := h
  rw [List.take_append_of_le_length hA]
set_option maxRecDepth 100000 in
set_option maxHeartbeats 1000000 in
theorem xfirst_any (l : List Run) (v : Value) (N : Nat) (w : World) (h : SlR w v (l.map dnR)) (hc : Canon l) (hN9 : N ≤ 2199023255552) :
    Calls Tryz.prog 43 #[.agg #[v], .int .i64 (N : Nat)] w fun e w' => ∃ ao m cp, e = .returned (.slice ao m cp) ∧ m = ((ptsL l).take N).length ∧ OwnS (fun b => w.heap.size ≤ b) 21 1 (.slice ao m cp) m (ptsV ((ptsL l).take N)) w' ∧ Below w.heap.size w w' := by
  obtain ⟨ao, cap, rfl, hrow⟩ := slr_at h
  have hlen := canon_len hc (Int.le_refl _)
  have hl : l.length ≤ 1112192 := by unfold allN at hlen; omega
  have HR := Lib.hid hrow
  have HC := Lib.hid hc
  clear h hrow hc hlen
  obtain ⟨n, hn⟩ : ∃ n, l.length = n := ⟨_, rfl⟩
  have HN := Lib.hid hn
  rw [hn] at hl ⊢
  clear hn
  go_enter Tryz.func43, Tryz.ntmps43
  go_wp2
  go_loopw [5, 6] (fun a x wr => ∃ (k m : Nat) (a2 : Option Addr) (c2 : Nat), x = .int .i64 k ∧ k ≤ n ∧ a = .slice a2 m c2 ∧ m = ((ptsL (l.take k)).take N).length ∧ OwnS (fun b => w.heap.size + 1 ≤ b) 21 1 (.slice a2 m c2) m (ptsV ((ptsL (l.take k)).take N)) wr ∧ BoxW w (.slice ao n cap) wr) (fun _ x _ => n - (RowKit.intOf x).toNat)
  case atStart => exact ⟨0, 0, none, 0, rfl, by omega, rfl, by simp [ptsL], by simpa [ptsL, ptsV] using own_nil _ _ _ _, BoxW.start _ _⟩
  case round =>
    obtain ⟨k, m, a2, c2, rfl, hk, rfl, hm, hown, hb⟩ := hrel
    have c0 := hb.cell
    by_cases hlt : k < n
    · have hlt' : (k : Int) < n := by omega
      obtain ⟨x, hx⟩ : ∃ x, l[k]? = some x := ⟨_, List.getElem?_eq_getElem (by rw [HN.out]; exact hlt)⟩
      obtain ⟨g, rfl, r1, r2⟩ := HR.out wr hb.2.1 k x hx
      have hf := Canon.fit HC.out x (List.mem_of_getElem? hx)
      unfold allN at hf
      have HTK := Lib.hid (ptsL_take l k x hx)
      have HRT := Lib.hid (fun (i : Nat) (h : (i : Int) < x.2 - x.1) => ptsR_take x i h)
      have HRL := Lib.hid (ptsR_len x)
      have HCX : Hid (∀ V, BoxW w (.slice (some ⟨g, 0, none⟩) n cap) V → V.cell? ⟨g, k * 2 + 1, none⟩ = some (.int .i64 (x.2 - 1))) := Lib.hid fun V hV => by
        obtain ⟨g', e, _, h2⟩ := HR.out V hV.2.1 k x hx
        injection e with e
        injection e with e
        rw [e]; exact h2
      obtain ⟨x1, x2⟩ := x
      simp only at hf r1 r2 HRT HRL HCX
      have HI := Lib.hid (And.intro hm (And.intro hown hb))
      clear hm hown hb hx r2
      go_wp2
      obtain ⟨V0, hV0⟩ : ∃ V : World, V = wr := ⟨_, rfl⟩
      subst hV0
      go_loopw [5, 7] (fun a x wr => ∃ (j m : Nat) (a2 : Option Addr) (c2 : Nat), x = .int .i64 (x1 + (j : Nat)) ∧ (j : Int) ≤ x2 - x1 ∧ a = .slice a2 m c2 ∧ m = ((ptsL (l.take k) ++ (ptsR (x1, x2)).take j).take N).length ∧ OwnS (fun b => w.heap.size + 1 ≤ b) 21 1 (.slice a2 m c2) m (ptsV ((ptsL (l.take k) ++ (ptsR (x1, x2)).take j).take N)) wr ∧ BoxW w (.slice (some ⟨g, 0, none⟩) n cap) wr) (fun _ x _ => (x2 - RowKit.intOf x).toNat)
      case atStart => exact ⟨0, m, a2, c2, by simp, by omega, rfl, by simpa using HI.out.1, by simpa using HI.out.2.1, HI.out.2.2⟩
      case round =>
        obtain ⟨j, m, a2, c2, rfl, hj, rfl, hm, hown, hb⟩ := hrel
        clear HI c0 r1
        have c0 := hb.cell
        have c1 := HCX.out _ hb
        obtain ⟨u, hu⟩ : ∃ u, x2 - 1 = u := ⟨_, rfl⟩
        rw [hu] at c1
        have hmN : m ≤ N := by rw [hm, List.length_take]; omega
        have HI := Lib.hid (And.intro hm (And.intro hown hb))
        clear hm hown hb
        by_cases hj2 : (j : Int) < x2 - x1
        · have hc1 : x1 + (j : Int) ≤ u := by omega
          by_cases hmn : m < N
          · have hmn' : (m : Int) < N := by omega
            obtain ⟨A, hA⟩ : ∃ A, ptsL (l.take k) ++ (ptsR (x1, x2)).take j = A := ⟨_, rfl⟩
            have hAN : A.length < N := by
              have := HI.out.1
              rw [hA, List.length_take] at this
              omega
            have hAt : A.take N = A := List.take_of_length_le (by omega)
            have hA2 : ptsL (l.take k) ++ (ptsR (x1, x2)).take (j + 1) = A ++ [pntI (x1 + (j : Nat))] := by
              rw [HRT.out j hj2, ← List.append_assoc, hA]
            have hAt2 : (A ++ [pntI (x1 + (j : Nat))]).take N = A ++ [pntI (x1 + (j : Nat))] := List.take_of_length_le (by simp; omega)
            have HA : Hid ((ptsL (l.take k) ++ (ptsR (x1, x2)).take (j + 1)).take N = A ++ [pntI (x1 + (j : Nat))]) := Lib.hid (by rw [hA2, hAt2])
            have hI := HI.out
            rw [hA, hAt] at hI
            have C1 := Lib.hid (fun W => xPoint_any (x1 + (j : Int)) W (by omega) (by omega))
            generalize pntI (x1 + (j : Nat)) = p1 at *
            obtain ⟨g2, cap2, w2, hrun2, hown2, hz2, hk2⟩ := append_pt hI.2.1 (fun y hy => Nat.le_trans hI.2.2.2.2 hy) p1 (by omega)
            have HRun2 := Lib.hid hrun2
            have HO2 := Lib.hid hown2
            have HB2 := Lib.hid (hI.2.2.keep hk2 (fun b hb => hI.2.1.2 b hb))
            have HML : Hid (m + 1 = (A ++ [p1]).length) := Lib.hid (by rw [List.length_append, ← hI.1]; rfl)
            have hw1 : IntKind.i64.wrap (x1 + (j : Int) + 1) = x1 + (j : Int) + 1 := IntWalk.i64_in _ (by omega)
            clear hrun2 hown2 hz2 hk2 hI hA hAN hAt hA2 hAt2 hu
            go_wp2_with fail
            refine (C1.out _).mono ?_
            rintro e W ⟨rfl, rfl⟩
            go_wp2_with (at_builtin; refine wpList_append_eq rfl rfl rfl rfl HRun2.out ?_)
            go_roundw
            case rel => exact ⟨j + 1, m + 1, _, _, by rw [Int.natCast_add, Int.natCast_one, ← Int.add_assoc], by omega, rfl, by rw [HA.out]; exact HML.out, by rw [HA.out]; exact HO2.out, HB2.out⟩
            case measure => simp [RowKit.intOf]; omega
          · have hmn' : ¬ (m : Int) < N := by omega
            have HE : Hid ((ptsL (l.take (k + 1))).take N = (ptsL (l.take k) ++ (ptsR (x1, x2)).take j).take N) := Lib.hid (by
              refine take_pre ?_ ?_
              · rw [HTK.out]
                exact (List.prefix_append_right_inj _).2 (List.take_prefix _ _)
              · have := HI.out.1
                rw [List.length_take] at this
                omega)
            go_wp2
            go_roundw
            case rel => exact ⟨k + 1, m, _, _, by go_num, by omega, rfl, by rw [HE.out]; exact HI.out.1, by rw [HE.out]; exact HI.out.2.1, HI.out.2.2⟩
            case measure => simp [RowKit.intOf]; omega
        · have hc1 : ¬ x1 + (j : Int) ≤ u := by omega
          have HE : Hid (ptsL (l.take (k + 1)) = ptsL (l.take k) ++ (ptsR (x1, x2)).take j) := Lib.hid (by
            rw [HTK.out, List.take_of_length_le (l := ptsR (x1, x2)) (by rw [HRL.out]; omega)])
          go_wp2
          go_roundw
          case rel => exact ⟨k + 1, m, _, _, by go_num, by omega, rfl, by rw [HE.out]; exact HI.out.1, by rw [HE.out]; exact HI.out.2.1, HI.out.2.2⟩
          case measure => simp [RowKit.intOf]; omega
    · have hlt' : ¬ (k : Int) < n := by omega
      obtain rfl : k = n := by omega
      have e : l.take k = l := by rw [← HN.out, List.take_length]
      rw [e] at hm hown
      have HI := Lib.hid (And.intro hm (And.intro hown hb))
      clear hm hown hb
      go_wp2
      go_ret
      exact ⟨_, _, _, rfl, by simpa using HI.out.1, by simpa [ptsV, List.map_take] using HI.out.2.1.weaken (Z := fun b => w.heap.size ≤ b) (fun b hb => by have hb : w.heap.size + 1 ≤ b := hb; omega), HI.out.2.2.2.1⟩
end Go.Proofs.YtmpjlenfnlijfaaGreatDoor
/- The law's own: first. -/
namespace Go.Proofs.YtmpjlenfnlijfaaGreatDoor
open Go Go.RowKit Go.Kt Go.Kt.Rg
attribute [local go_sem] Oper.semAt_some

set_option maxRecDepth 100000 in
set_option maxHeartbeats 2000000 in
theorem first_any (l : List Run) (b N : Nat) (w : World) (h : SetAt l b w) (hc : Canon l) (hT : PTab w) (hN9 : N ≤ 2199023255552) :
    Calls Tryz.prog 42 #[ptrV b, .int .i64 (N : Nat)] w fun e w' => ∃ ao m cp, e = .returned (.slice ao m cp) ∧ m = ((ptsL l).take N).length ∧ OwnS (fun b => w.heap.size ≤ b) 21 1 (.slice ao m cp) m (ptsV ((ptsL l).take N)) w' ∧ Below w.heap.size w w' := by
  obtain ⟨hbl, g, hg, ao2, cap2, hrow⟩ := set_row h
  have hptn := hT.lt
  obtain ⟨w1, hw1⟩ : ∃ w1, w.alloc (.cells #[.int .i64 (N : Nat)] 3) = w1 := ⟨_, rfl⟩
  obtain ⟨w2, hw2⟩ : ∃ w2, w1.alloc (.cells #[.slice none 0 0] 23) = w2 := ⟨_, rfl⟩
  have hb1 : Below w.heap.size w w1 := by rw [← hw1]; exact (Below.refl _ _).alloc (Nat.le_refl _) _
  have hb2 : Below w.heap.size w w2 := by rw [← hw2]; exact hb1.alloc hb1.size _
  have hrow3 := fun V (hV : Below w.heap.size w V) => hrow V hV
  have hT3 := fun V (hV : Below w.heap.size w V) => hT.next hV
  obtain ⟨n, hn⟩ : ∃ n, w.heap.size = n := ⟨_, rfl⟩
  rw [hn] at hbl hg hptn hb1 hb2 hrow3 hT3
  have hz1 : w1.heap.size = n + 1 := by rw [← hw1]; simp [hn]
  have hz2 : w2.heap.size = n + 2 := by rw [← hw2]; simp [hz1]
  have i1 : w1.heap[n]? = some (.cells #[.int .i64 (N : Nat)] 3 (0, 0)) := by rw [← hw1]; exact alloc_at hn.symm
  have i2 : w2.heap[n]? = some (.cells #[.int .i64 (N : Nat)] 3 (0, 0)) := by rw [← hw2]; exact alloc_old i1
  have j2 : w2.heap[n + 1]? = some (.cells #[.slice none 0 0] 23 (0, 0)) := by rw [← hw2]; exact alloc_at hz1.symm
  have HW := Lib.hid (And.intro hw1 hw2)
  have HZ := Lib.hid (And.intro hz2 (And.intro i2 (And.intro j2 hb2)))
  have HR := Lib.hid hrow3
  have HT := Lib.hid hT3
  have HC := Lib.hid hc
  have HN := Lib.hid hn
  have hfn : ∀ k, Fence.wide.fn k := fun _ => trivial
  have hdep : Fence.wide.depth = none := rfl
  clear h hT hrow hw1 hw2 hz1 hz2 i1 i2 j2 hb1 hb2 hrow3 hT3 hc
  rw [hn]
  refine (callsIn_wide (n := 0)).1 ?_
  refine callsIn_of_wp_marks Tryz.func42 rfl trivial ?_ rfl
  simp only [Tryz.ntmps42, List.size_toArray, List.length_cons, List.length_nil, Nat.reduceAdd, Nat.reduceSub, Array.replicate_succ, Array.replicate_zero, List.push_toArray, List.append_toArray, List.nil_append, List.cons_append]
  gi_wp2_with fail
  rw [HW.out.1, HW.out.2]
  gi_wp2_with fail
  refine (callsIn_wide.2 (rall_call b w2)).mono ?_
  rintro e w3 ⟨rfl, hw3⟩
  have hz2 := HZ.out.1
  have hz3 : w3.heap.size = n + 3 := by rw [← hw3]; simp [hz2]
  have hb3' : Below (n + 2) w2 w3 := by rw [← hw3]; exact (Below.refl _ _).alloc (by omega) _
  have hb3 : Below n w w3 := HZ.out.2.2.2.trans (hb3'.mono (by omega))
  have c3 : w3.cell? ⟨n + 2, 0, none⟩ = some (ptrV b) := by rw [← hw3, Lib.cell_of_heap (alloc_at hz2.symm)]; rfl
  have i3 : w3.heap[n]? = some (.cells #[.int .i64 (N : Nat)] 3 (0, 0)) := (hb3'.block n (by omega)).trans HZ.out.2.1
  have j3 : w3.heap[n + 1]? = some (.cells #[.slice none 0 0] 23 (0, 0)) := (hb3'.block (n + 1) (by omega)).trans HZ.out.2.2.1
  have hit := rall_iter l (n + 2) b g w3 c3 ⟨ao2, cap2, HR.out w3 hb3⟩ HC.out (HT.out w3 hb3)
  have HIT := Lib.hid hit
  have H3 := Lib.hid (And.intro hb3 (And.intro i3 j3))
  rw [hz2]
  clear hw3 hb3' hb3 c3 i3 j3 hit hz2
  gi_wp2_with fail
  refine loop_out2 (gf := 130) (lb := #[.pointer (some ⟨n + 2, 0, none⟩)]) (encs := encPt) rfl enters_all
    HIT.out (fun _ => rfl) (X := fun x => x = n + 1)
    (fun x hx => by omega) (fun x hx => ?nd) (fun _ _ => rfl) (Nat.le_refl _)
    (fun pre Y W => ∃ ao cv, W.heap[n + 1]? = some (.cells #[.slice ao pre.length cv] 23 (0, 0)) ∧ pre.length ≤ N ∧ OwnS Y 21 1 (.slice ao pre.length cv) pre.length (ptsV pre) W)
    (fun c pre Y W => c = .exit 0 ∧ ∃ ao cv, W.heap[n + 1]? = some (.cells #[.slice ao N cv] 23 (0, 0)) ∧ N ≤ pre.length ∧ OwnS Y 21 1 (.slice ao N cv) N (ptsV (pre.take N)) W)
    (fun pre Y W W' hk h => by
      obtain ⟨ao, cv, h1, h2, h3⟩ := h
      exact ⟨ao, cv, hk.heap h1 (fun hx => by have := hx.1; omega), h2, h3.keep hk (fun b hx hy => hx.2 hy)⟩)
    (fun pre Y W h => by
      obtain ⟨ao, cv, h1, h2, h3⟩ := h
      exact ⟨ao, cv, h1, h2, own_bx h3⟩)
    (fun c pre Y W W' hk h => by
      obtain ⟨hc, ao, cv, h1, h2, h3⟩ := h
      exact ⟨hc, ao, cv, hk.heap h1 (fun hx => by have := hx.1; omega), h2, h3.keep hk (fun b hx hy => hx.2 hy)⟩)
    ⟨none, 0, H3.out.2.2, Nat.zero_le _, own_nil _ _ _ _⟩ ?round ?done ?stop
  case nd =>
    have hh : x ≠ n + 1 ∧ x < w3.heap.size := by rcases hx with rfl | rfl | rfl | rfl <;> omega
    exact ⟨hh.1, hh.2⟩
  case round =>
    rintro l' hl' pre x Y W hpre hi2 hk hY hlt2 hr
    simp only [encPt]
    have HY := Lib.hid hY
    clear hi2 hY hr
    gi_wp2
    refine ⟨Keep.refl _ _, ?_⟩
    rintro W2 hk1 hk2 ⟨ao, cv, hv, hmN, hown⟩ hr2
    have hi := hk2.heap H3.out.2.1 (by show ¬ n = n + 1; omega)
    have k0 := cell_one hi
    have k1 := cell_one hv
    obtain ⟨k, hkk⟩ : ∃ k, pre.length = k := ⟨_, rfl⟩
    rw [hkk] at k1 hmN hown hv
    have HKK := Lib.hid hkk
    have hzw : n + 3 ≤ W2.heap.size := by rw [← hz3]; exact hk2.size
    clear hkk hk hk1 hi
    by_cases he : k = N
    · have hq : ((k : Int) == (N : Int)) = true := by rw [he]; simp
      have HI := Lib.hid (And.intro hv hown)
      have HE := Lib.hid he
      clear hv hown hk2 hr2 hpre he
      gi_wp2_with fail
      refine ⟨Y, Keep.refl _ _, fun b h => .inl h, rfl, ao, cv, ?_, ?_, ?_⟩
      · rw [← HE.out]; exact HI.out.1
      · rw [List.length_append, HKK.out, HE.out]; omega
      · have : (pre ++ [x]).take N = pre := by rw [← HE.out, ← HKK.out, List.take_append_of_le_length (Nat.le_refl _), List.take_length]
        rw [this, ← HE.out]
        exact HI.out.2
    · have hq : ((k : Int) == (N : Int)) = false := by rw [beq_eq_false_iff_ne]; omega
      have hYY := HY.out
      have hYn : ∀ b, Y b → b ≠ n + 1 := fun b hb => by have := (hYY b hb).1; omega
      obtain ⟨v, hvv⟩ : ∃ v, Value.slice ao k cv = v := ⟨_, rfl⟩
      obtain ⟨g3, cap3, w4, hrun, hown4, hk4, hg4, hz4⟩ := append_x (P := Tryz.prog) W2 23 21 Tryz.underlying23 tinfo21 rfl (by omega) hown [.int .i32 x] rfl
        (by intro u hu; simp at hu; subst hu; rfl) (by unfold maxLen; omega) (by omega)
      have hvY : ∀ b, (Value.slice ao k cv).ownBlock = some b → Y b := hown.2
      have hg4Y : Y g3 ∨ W2.heap.size ≤ g3 := by
        rcases hg4 with hx | hx
        · exact .inl (hvY g3 hx)
        · exact .inr (by omega)
      have hgn : g3 ≠ n + 1 := by
        rcases hg4Y with hx | hx
        · exact hYn g3 hx
        · omega
      have hv4 : w4.heap[n + 1]? = some (.cells #[.slice ao k cv] 23 (0, 0)) := hk4.heap hv (fun hx => hYn _ (hvY _ hx) rfl)
      obtain ⟨w5, hw5⟩ : ∃ w5, w4.setCell ⟨n + 1, 0, none⟩ (.slice (some ⟨g3, 0, none⟩) (k + 1) cap3) = w5 := ⟨_, rfl⟩
      have hk5 : Keep (fun b => b = n + 1) w4 w5 := by rw [← hw5]; exact Keep.setCell (X := fun b => b = n + 1) (p := ⟨n + 1, 0, none⟩) (Keep.refl _ _) rfl _
      have hv5 : w5.heap[n + 1]? = some (.cells #[.slice (some ⟨g3, 0, none⟩) (k + 1) cap3] 23 (0, 0)) := by rw [← hw5]; exact set_at hv4
      have hown5 := hown4.keep hk5 (fun b hb hy => hgn (by rw [← hy, hb]))
      have k3 := cell_one hv4
      have f3 := frozen_one hv4
      have hfin : Kt.Left (fun b => b = n + 1) Y (fun pre Y W => ∃ ao cv, W.heap[n + 1]? = some (.cells #[.slice ao pre.length cv] 23 (0, 0)) ∧ pre.length ≤ N ∧ OwnS Y 21 1 (.slice ao pre.length cv) pre.length (ptsV pre) W) (pre ++ [x]) W2 w5 := by
        have e1 : (pre ++ [x]).length = k + 1 := by rw [List.length_append, HKK.out]; rfl
        refine ⟨fun b => b = g3, ?_, ?_, some ⟨g3, 0, none⟩, cap3, ?_, ?_, ?_⟩
        · exact (hk4.weaken (Y := fun b => b = n + 1 ∨ Y b) (fun b _ hx => .inr (hvY b hx))).trans (hk5.weaken fun b _ hx => .inl hx)
        · rintro b rfl
          exact hg4Y
        · rw [e1]; exact hv5
        · rw [e1]; omega
        · rw [e1, show ptsV (pre ++ [x]) = ptsV pre ++ [.int .i32 x] by unfold ptsV; rw [List.map_append]; rfl]
          exact hown5
      have HF := Lib.hid hfin
      have HRN := Lib.hid hrun
      have HW5 := Lib.hid hw5
      clear hfin hrun hw5 hown hown4 hown5 hk4 hk5 hg4 hvY hv hv4 hv5 hg4Y hYY hYn hr2 hgn hk2 hpre he hvv
      gi_wp2_with (first | (refine wpListIn_append_eq (o := ⟨some 17, _, _, _, _, _⟩) (by rfl) (by rfl) (by rfl) (by rfl) HRN.out ?_))
      rw [HW5.out]
      exact HF.out
  case done =>
    rintro D Y W hD hDd ⟨ao, cv, hv, hmN, hown⟩ hY hkW
    have b2 := cell_one hv
    have HF := Lib.hid (And.intro hown (And.intro hkW (And.intro hY hmN)))
    have HDD := Lib.hid hDd
    have HD2 := Lib.hid hD
    clear hown hkW hY hDd hv hmN hD
    gi_wp2
    refine leaves_marks (Ds := [D]) (by simp) (fun D' h => by simp at h; subst h; exact HDD.out) (fun W' hk' => ⟨_, results_tmp rfl _ _ _, ?_⟩)
    obtain ⟨ho, hkk, hY, hmN⟩ := HF.out
    have hD := HD2.out
    have hk' : Keep (fun b => b = D) W W' := hk'.weaken fun b _ hb => by simpa using hb
    have ho2 := ho.keep hk' (fun b hb hy => (hY b hy).2 hb)
    have e : (ptsL l).take N = ptsL l := List.take_of_length_le hmN
    refine ⟨ao, _, cv, rfl, by rw [e], ?_, ?_⟩
    · rw [e]
      exact ho2.weaken (fun b hy => by have := (hY b hy).1; omega)
    · exact H3.out.1.trans ((hkk.below (n := n) (by omega) (fun b hb => by omega)).trans (hk'.below (by have := hkk.size; omega) (fun b hb => by omega)))
  case stop =>
    rintro D c pre Y W hD hDd hpre ⟨rfl, ao, cv, hv, hmN, hown⟩ hY hkW
    have b2 := cell_one hv
    have HF := Lib.hid (And.intro hown (And.intro hkW (And.intro hY (And.intro hmN hpre))))
    have HDD := Lib.hid hDd
    have HD2 := Lib.hid hD
    clear hown hkW hY hDd hv hmN hD hpre
    gi_wp2
    refine leaves_marks (Ds := [D]) (by simp) (fun D' h => by simp at h; subst h; exact HDD.out) (fun W' hk' => ⟨_, results_tmp rfl _ _ _, ?_⟩)
    obtain ⟨ho, hkk, hY, hmN, hpre⟩ := HF.out
    have hD := HD2.out
    have hk' : Keep (fun b => b = D) W W' := hk'.weaken fun b _ hb => by simpa using hb
    have ho2 := ho.keep hk' (fun b hb hy => (hY b hy).2 hb)
    have e : (ptsL l).take N = pre.take N := take_pre hpre hmN
    refine ⟨ao, _, cv, rfl, by rw [e, List.length_take]; omega, ?_, ?_⟩
    · rw [e]
      exact ho2.weaken (fun b hy => by have := (hY b hy).1; omega)
    · exact H3.out.1.trans ((hkk.below (n := n) (by omega) (fun b hb => by omega)).trans (hk'.below (by have := hkk.size; omega) (fun b hb => by omega)))
end Go.Proofs.YtmpjlenfnlijfaaGreatDoor
