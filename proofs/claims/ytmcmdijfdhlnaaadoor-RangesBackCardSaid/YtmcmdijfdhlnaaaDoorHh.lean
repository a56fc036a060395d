/- The iterator of a set's points. -/
import Derived.Test.YtmcmdijfdhlnaaaDoorU3
import Derived.Test.YtmcmdijfdhlnaaaDoorU2
namespace Go.Proofs.YtmcmdijfdhlnaaaDoor
open Go Go.RowKit Go.Kt Go.Kt.Rg
attribute [local go_sem] Oper.semAt_some

/-- The points of a run; of all runs. -/
def ptsR (x : Run) : List Int := (List.range (x.2 - x.1).toNat).map fun i => pntI (x.1 + (i : Nat))
def ptsL (l : List Run) : List Int := l.flatMap ptsR
def encPt (x : Int) : Array Value := #[.int .i32 x]
theorem ptsR_len (x : Run) : (ptsR x).length = (x.2 - x.1).toNat := by simp [ptsR]
theorem ptsL_len : ∀ {l : List Run} {lo : Int}, CanonFrom lo l → ((ptsL l).length : Int) = cntL l
  | [], _, _ => rfl
  | x :: t, lo, h => by
    have := ptsL_len h.2.2.2
    have := h.2.1
    simp only [ptsL, List.flatMap_cons, List.length_append, ptsR_len, cntL] at *
    omega
theorem ptsR_take (x : Run) (i : Nat) (h : (i : Int) < x.2 - x.1) : (ptsR x).take (i + 1) = (ptsR x).take i ++ [pntI (x.1 + (i : Nat))] := by
  rw [List.take_add_one]
  congr 1
  have : i < (x.2 - x.1).toNat := by omega
  simp [ptsR, this]
theorem ptsL_take (l : List Run) (k : Nat) (x : Run) (h : l[k]? = some x) : ptsL (l.take (k + 1)) = ptsL (l.take k) ++ ptsR x := by
  rw [List.take_add_one, h]; simp [ptsL]
theorem ptsL_pre (l : List Run) (k : Nat) (x : Run) (h : l[k]? = some x) (i : Nat) : ptsL (l.take k) ++ (ptsR x).take i <+: ptsL l := by
  have h1 : ptsL l = ptsL (l.take (k + 1)) ++ ptsL (l.drop (k + 1)) := by
    rw [ptsL, ptsL, ptsL, ← List.flatMap_append, List.take_append_drop]
  rw [h1, ptsL_take l k x h]
  exact ⟨(ptsR x).drop i ++ ptsL (l.drop (k + 1)), by rw [List.append_assoc, ← List.append_assoc ((ptsR x).take i), List.take_append_drop, List.append_assoc]⟩

theorem rall_call (b : Nat) (w : World) :
    Calls Tryd.prog 19 #[ptrV b] w fun e w' => e = .returned (.func (.func 35) #[] #[.pointer (some ⟨w.heap.size, 0, none⟩)]) ∧ w.alloc (.cells #[ptrV b] 23) = w' := by
  go_enter Tryd.func19, Tryd.ntmps19
  go_wp2
  go_ret
  exact ⟨rfl, rfl⟩
theorem enters_all : ∀ args w, (callFunc 35 args).run Tryd.prog w = .ok (.enter 35 args) w := enters_of Tryd.func35 (by kernel_rfl) rfl

set_option maxRecDepth 100000 in
set_option maxHeartbeats 4000000 in
theorem rall_iter (l : List Run) (bs b : Nat) (g : Nat) (w0 : World) (hbs : w0.cell? ⟨bs, 0, none⟩ = some (ptrV b)) (hS : ∃ ao cap, w0.cell? ⟨b, 0, none⟩ = some (.slice ao l.length cap) ∧ (l = [] ∨ ao = some ⟨g, 0, none⟩ ∧ ∀ (i : Nat) (x : Run), l[i]? = some x → w0.cell? ⟨g, i * 2, none⟩ = some (.int .i64 x.1) ∧ w0.cell? ⟨g, i * 2 + 1, none⟩ = some (.int .i64 x.2))) (hc : Canon l) (hT : PTab w0) :
    Iter2 Tryd.prog 35 #[.pointer (some ⟨bs, 0, none⟩)] encPt (ptsL l) (fun x => x = bs ∨ x = b ∨ x = g ∨ x = 0) w0 := by
  intro m X J Jx W hNd hX hsame hsz hJ hJx hSl hY h0
  obtain ⟨ao, cap, hb0, hrow⟩ := hS
  have hlen := canon_len hc (Int.le_refl _)
  have hl : l.length ≤ 1112192 := by unfold allN at hlen; omega
  have same : ∀ (p : Addr), (p.block = bs ∨ p.block = b ∨ p.block = g ∨ p.block = 0) → W.cell? p = w0.cell? p := fun p hp => World.cell?_of_block (hsame _ hp)
  have q1 : W.cell? ⟨bs, 0, none⟩ = some (ptrV b) := (same _ (.inl rfl)).trans hbs
  have q2 : W.cell? ⟨b, 0, none⟩ = some (.slice ao l.length cap) := (same _ (.inr (.inl rfl))).trans hb0
  have HT : Hid (PTab W) := Lib.hid ⟨(same ⟨0, _, none⟩ (.inr (.inr (.inr rfl)))).trans hT.1, (same ⟨0, _, none⟩ (.inr (.inr (.inr rfl)))).trans hT.2.1, (same ⟨0, _, none⟩ (.inr (.inr (.inr rfl)))).trans hT.2.2.1,
    (same ⟨0, _, none⟩ (.inr (.inr (.inr rfl)))).trans hT.2.2.2.1, (same ⟨0, _, none⟩ (.inr (.inr (.inr rfl)))).trans hT.2.2.2.2.1, (same ⟨0, _, none⟩ (.inr (.inr (.inr rfl)))).trans hT.2.2.2.2.2⟩
  have HR : Hid (∀ (i : Nat) (x : Run), l[i]? = some x → ao = some ⟨g, 0, none⟩ ∧ W.cell? ⟨g, i * 2, none⟩ = some (.int .i64 x.1) ∧ W.cell? ⟨g, i * 2 + 1, none⟩ = some (.int .i64 x.2)) := Lib.hid fun i x hx => by
    rcases hrow with h | ⟨e, h⟩
    · subst h; simp at hx
    · exact ⟨e, (same ⟨g, _, none⟩ (.inr (.inr (.inl rfl)))).trans (h i x hx).1, (same ⟨g, _, none⟩ (.inr (.inr (.inl rfl)))).trans (h i x hx).2⟩
  have HC := Lib.hid hc
  have HK := Lib.hid (And.intro hX (And.intro hJ (And.intro hJx (And.intro hSl hY))))
  have HX' : Hid (¬ X bs ∧ ¬ X b ∧ ¬ X g ∧ ¬ X 0) := Lib.hid ⟨hNd _ (.inl rfl), hNd _ (.inr (.inl rfl)), hNd _ (.inr (.inr (.inl rfl))), hNd _ (.inr (.inr (.inr rfl)))⟩
  have KT : Hid (∀ V : World, Keep X W V → PTab V) := Lib.hid fun V hk => ⟨hk.cell HT.out.1 HX'.out.2.2.2, hk.cell HT.out.2.1 HX'.out.2.2.2, hk.cell HT.out.2.2.1 HX'.out.2.2.2, hk.cell HT.out.2.2.2.1 HX'.out.2.2.2, hk.cell HT.out.2.2.2.2.1 HX'.out.2.2.2, hk.cell HT.out.2.2.2.2.2 HX'.out.2.2.2⟩
  obtain ⟨n, hn⟩ : ∃ n, l.length = n := ⟨_, rfl⟩
  rw [hn] at hl q2
  have HN := Lib.hid hn
  have hfn : ∀ k, Fence.wide.fn k := fun _ => trivial
  have hdep : Fence.wide.depth = none := rfl
  clear hNd hsame hsz hc hT hrow hb0 hbs same hlen hn hX hJ hJx hSl hY
  refine (callsIn_wide (n := 0)).1 ?_
  refine callsIn_of_wp Tryd.func35 rfl trivial ?_ rfl
  simp only [Tryd.ntmps35, List.size_toArray, List.length_cons, List.length_nil, Nat.reduceAdd, Nat.reduceSub, Array.replicate_succ, Array.replicate_zero, List.push_toArray, List.append_toArray, List.nil_append, List.cons_append]
  gi_wp2
  gi_loopw [11] (fun x wr => ∃ (k : Nat) (Y : Nat → Prop), x = .int .i64 k ∧ k ≤ n ∧ (∀ y, Y y → W.heap.size ≤ y) ∧ J (ptsL (l.take k)) Y wr ∧ Keep X W wr)
    (fun x _ => n - (RowKit.intOf x).toNat)
  case atStart => exact ⟨0, _, rfl, by omega, fun _ h => h.elim, h0, Keep.refl _ _⟩
  case round =>
    obtain ⟨k, Y, rfl, hk, hYl, hJs, hkp⟩ := hrel
    by_cases hlt : k < n
    · have hlt' : (k : Int) < n := by omega
      obtain ⟨x, hx⟩ : ∃ x, l[k]? = some x := ⟨_, List.getElem?_eq_getElem (by rw [HN.out]; exact hlt)⟩
      obtain ⟨rfl, r1', r2'⟩ := HR.out k x hx
      have r1 := hkp.cell r1' HX'.out.2.2.1
      have r2 := hkp.cell r2' HX'.out.2.2.1
      have hf := Canon.fit HC.out x (List.mem_of_getElem? hx)
      unfold allN at hf
      have HPR := Lib.hid (fun i => ptsL_pre l k x hx i)
      have HTK := Lib.hid (ptsL_take l k x hx)
      have HTR := Lib.hid (fun i => ptsR_take x i)
      have HLR := Lib.hid (ptsR_len x)
      obtain ⟨x1, x2⟩ := x
      simp only at r1 r2 hf HTR HLR
      obtain ⟨Z, hZ⟩ : ∃ Z, Z = fun y => Y y ∧ y < wr.heap.size := ⟨_, rfl⟩
      have hJZ : J (ptsL (l.take k)) Z wr := by rw [hZ]; exact HK.out.2.2.2.1 _ _ _ hJs
      obtain ⟨V, hV⟩ : ∃ V, wr.alloc (.cells #[.int .i64 x1, .int .i64 x2] 51) = V := ⟨_, rfl⟩
      obtain ⟨q, hq⟩ : ∃ q, wr.heap.size = q := ⟨_, rfl⟩
      have hWq : W.heap.size ≤ q := by rw [← hq]; exact hkp.size
      have hJV : J (ptsL (l.take k)) Z V := by rw [← hV]; exact HK.out.2.1 _ _ _ _ ((Keep.refl _ _).alloc _) hJZ
      have hkV : Keep X W V := by rw [← hV]; exact hkp.alloc _
      have hqV : V.heap[q]? = some (.cells #[.int .i64 x1, .int .i64 x2] 51 (0, 0)) := by rw [← hV]; exact alloc_at hq.symm
      have hZq : ¬ Z q := by rw [hZ]; intro h; have := h.2; omega
      have hZl : ∀ y, Z y → W.heap.size ≤ y := fun y hy => by rw [hZ] at hy; exact hYl y hy.1
      have v0 := Lib.cell_of_heap hqV 0
      simp at v0
      have HV := Lib.hid (And.intro hV hq)
      have HJV := Lib.hid (And.intro hJV (And.intro hkV (And.intro hqV (And.intro hZq hZl))))
      clear hJZ hJV hkV hqV hZq hZl hZ hV hq hYl hJs hkp hx r1' r2'
      gi_wp2_with fail
      rw [HV.out.2, HV.out.1]
      gi_wp2_with fail
      obtain ⟨wo, rfl⟩ : ∃ wo : World, wo = wr := ⟨_, rfl⟩
      gi_loopw [5] (fun x wr => ∃ (i : Nat) (Y : Nat → Prop), x = .int .i64 (x1 + (i : Nat)) ∧ (i : Int) ≤ x2 - x1 ∧ (∀ y, Y y → W.heap.size ≤ y) ∧ ¬ Y q ∧ J (ptsL (l.take k) ++ (ptsR (x1, x2)).take i) Y wr ∧ Keep X W wr ∧ wr.heap[q]? = some (.cells #[.int .i64 x1, .int .i64 x2] 51 (0, 0)))
        (fun x _ => (x2 - RowKit.intOf x).toNat)
      case atStart => exact ⟨0, Z, by simp, by omega, HJV.out.2.2.2.2, HJV.out.2.2.2.1, by simpa using HJV.out.1, HJV.out.2.1, HJV.out.2.2.1⟩
      case round =>
        obtain ⟨i, Y, rfl, hi, hYl, hYq, hJs, hkp, hqc⟩ := hrel
        have c0 := Lib.cell_of_heap hqc 1
        simp at c0
        have hql : q < wr.heap.size := (Array.getElem?_eq_some_iff.1 hqc).1
        by_cases hlt2 : (i : Int) < x2 - x1
        · have hlt3 : x1 + (i : Int) < x2 := by omega
          have hpre := HPR.out (i + 1)
          rw [HTR.out i hlt2] at hpre
          have CP := Lib.hid (rpoint_any (x1 + (i : Int)) wr (KT.out wr hkp) (by omega))
          have hb0 : 0 ≤ x1 + (i : Int) := by omega
          have hb1 : x1 + (i : Int) ≤ 1112192 := by omega
          obtain ⟨pt, hpt⟩ : ∃ pt, pntI (x1 + (i : Nat)) = pt := ⟨_, rfl⟩
          have hTI := HTR.out i hlt2
          rw [hpt] at CP hpre hTI
          rw [← List.append_assoc] at hpre
          have HI := Lib.hid (And.intro hYl (And.intro hYq (And.intro hJs (And.intro hkp (And.intro hqc (And.intro hpre hTI))))))
          clear hYl hYq hJs hkp hqc hpre hTI hpt
          gi_wp2_with fail
          refine (callsIn_wide.2 CP.out).mono ?_
          rintro e1 V1 ⟨rfl, hbv⟩
          have hk1 : Keep X W V1 := HI.out.2.2.2.1.trans (.of_all hbv)
          have hJ1 := HK.out.2.1 _ _ _ _ (.of_all hbv) HI.out.2.2.1
          have hs1 := hbv.size
          have hyy : YieldAt Fence.wide 0 Tryd.prog m #[.int .i32 pt] V1 _ := HK.out.2.2.2.2 (ptsL (l.take k) ++ (ptsR (x1, x2)).take i) pt Y V1 HI.out.2.2.2.2.2.1 hJ1 hk1.size HI.out.1
          obtain ⟨fn, tmps, assign, body, hy, hR⟩ := hyy
          have hq1 : V1.heap[q]? = some (.cells #[.int .i64 x1, .int .i64 x2] 51 (0, 0)) := (hbv.block q hql).trans HI.out.2.2.2.2.1
          have H1 := Lib.hid (And.intro hk1 (And.intro hq1 (Nat.lt_of_lt_of_le hql hs1)))
          clear hbv hJ1 hk1 hq1 hs1
          gi_wp2_with fail
          refine hR.mono ?_
          rintro e3 V3 ⟨Y', hk4, hY', (⟨rfl, hJ3⟩ | ⟨rfl, hJx3⟩)⟩
          all_goals have hk3 := H1.out.1
          all_goals have hzk := hk3.size
          all_goals have hkW : Keep X W V3 := ⟨hk4.os.trans hk3.os, hk4.tape.trans hk3.tape, hk4.output.trans hk3.output, Nat.le_trans hk3.size hk4.size, fun b hb hx => (hk4.same b (Nat.lt_of_lt_of_le hb hk3.size) (fun h => by rcases h with h | h; exact hx h; have := HI.out.1 b h; omega)).trans (hk3.same b hb hx)⟩
          all_goals have hYl2 : ∀ b, Y' b → W.heap.size ≤ b := fun b hb => by rcases hY' b hb with h | h; exact HI.out.1 b h; omega
          · have hYq2 : ¬ Y' q := fun h => by
              rcases hY' q h with h | h
              · exact HI.out.2.1 h
              · have := H1.out.2.2; omega
            have hq3 : V3.heap[q]? = some (.cells #[.int .i64 x1, .int .i64 x2] 51 (0, 0)) := hk4.heap H1.out.2.1 (fun h => by
              rcases h with h | h
              · have := HK.out.1 q h; omega
              · exact HI.out.2.1 h)
            have HF := Lib.hid (And.intro hYl2 (And.intro hYq2 (And.intro hJ3 (And.intro hkW hq3))))
            clear hk4 hk3 hYl2 hYq2 hJ3 hkW hq3 hY'
            gi_wp2_with fail
            go_roundw
            case rel => exact ⟨i + 1, Y', by congr 1; omega, by omega, HF.out.1, HF.out.2.1, by rw [HI.out.2.2.2.2.2.2, ← List.append_assoc]; exact HF.out.2.2.1, HF.out.2.2.2.1, HF.out.2.2.2.2⟩
            case measure => simp [RowKit.intOf]; omega
          · have HF := Lib.hid (And.intro hYl2 (And.intro hJx3 hkW))
            clear hk4 hk3 hYl2 hJx3 hkW hY'
            gi_wp2_with fail
            refine bodyPost_ret (results_none rfl _ _ _) rfl ?_
            exact ⟨⟨_, rfl⟩, HF.out.2.2, .inr ⟨_, Y', HI.out.2.2.2.2.2.1, HF.out.1, HF.out.2.1⟩⟩
        · have hlt3 : ¬ x1 + (i : Int) < x2 := by omega
          have ei : (ptsR (x1, x2)).take i = ptsR (x1, x2) := List.take_of_length_le (by rw [HLR.out]; omega)
          rw [ei, ← HTK.out] at hJs
          have HF := Lib.hid (And.intro hYl (And.intro hJs hkp))
          clear hYl hYq hJs hkp hqc ei
          gi_wp2_with fail
          go_roundw
          case rel => exact ⟨k + 1, Y, by go_num, by omega, HF.out.1, HF.out.2.1, HF.out.2.2⟩
          case measure => simp [RowKit.intOf]; omega
    · have hlt' : ¬ (k : Int) < n := by omega
      obtain rfl : k = n := by omega
      have e : l.take k = l := by rw [← HN.out, List.take_length]
      rw [e] at hJs
      have HF := Lib.hid (And.intro hkp (And.intro hYl hJs))
      clear hkp hYl hJs e
      gi_wp2_with fail
      go_end0
      exact ⟨⟨_, rfl⟩, HF.out.1, .inl ⟨Y, HF.out.2.1, HF.out.2.2⟩⟩
end Go.Proofs.YtmcmdijfdhlnaaaDoor
