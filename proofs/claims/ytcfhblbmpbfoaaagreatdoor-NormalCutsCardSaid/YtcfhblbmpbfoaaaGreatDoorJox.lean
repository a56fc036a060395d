/- props: the iterator of a text's lines. -/
import Derived.Test.YtcfhblbmpbfoaaaGreatDoorGv3
import Derived.Test.YtcfhblbmpbfoaaaGreatDoorJcx
import Derived.Test.YtcfhblbmpbfoaaaGreatDoorGv4
import Derived.BigRegionIn
import Derived.LoopIn
import Derived.Lib.PathFns
import Derived.Lib.IndexLaws
import Derived.BigFrameIn
namespace Go.Proofs.YtcfhblbmpbfoaaaGreatDoor
open Go Go.RowKit Go.Kt Go.Kt.Rg
attribute [local go_sem] Oper.semAt_some

def linesF : Nat → List UInt8 → List (List UInt8)
  | 0, _ => []
  | f + 1, l => if l = [] then [] else if 0 ≤ Lib.indexByte l 10 then l.take ((Lib.indexByte l 10).toNat + 1) :: linesF f (l.drop ((Lib.indexByte l 10).toNat + 1)) else [l]
def linesP (l : List UInt8) : List (List UInt8) := linesF (l.length + 1) l
theorem linesF_fuel : ∀ (f : Nat) (l : List UInt8), l.length < f → linesF f l = linesP l := by
  intro f
  induction f using Nat.strongRecOn with
  | _ f ih =>
    intro l hf
    cases f with
    | zero => omega
    | succ f =>
      by_cases h0 : l = []
      · subst h0; simp [linesP, linesF]
      have hl : 0 < l.length := List.length_pos_iff.2 h0
      unfold linesP
      rw [linesF, linesF, if_neg h0, if_neg h0]
      by_cases h1 : 0 ≤ Lib.indexByte l 10
      · rw [if_pos h1, if_pos h1]
        congr 1
        have hd : (l.drop ((Lib.indexByte l 10).toNat + 1)).length < l.length := by rw [List.length_drop]; omega
        rw [ih f (by omega) _ (by omega)]
        by_cases hfl : f = l.length
        · rw [← hfl, ih f (by omega) _ (by omega)]
        · rw [ih l.length (by omega) _ hd]
      · rw [if_neg h1, if_neg h1]
theorem linesP_nil : linesP [] = [] := rfl
theorem linesP_some {l : List UInt8} (h0 : l ≠ []) {i : Nat} (h : Lib.indexByte l 10 = (i : Int)) : linesP l = l.take (i + 1) :: linesP (l.drop (i + 1)) := by
  have hl : 0 < l.length := List.length_pos_iff.2 h0
  rw [linesP, linesF, if_neg h0, if_pos (by omega), h, Int.toNat_natCast, linesF_fuel _ _ (by rw [List.length_drop]; omega)]
theorem linesP_none {l : List UInt8} (h0 : l ≠ []) (h : Lib.indexByte l 10 = -1) : linesP l = [l] := by
  rw [linesP, linesF, if_neg h0, if_neg (by omega)]
def encL (x : List UInt8) : Array Value := #[.string ⟨x.toArray⟩]

theorem plines_call (s : ByteArray) (w : World) :
    Calls Tryz.prog 53 #[.string s] w fun e w' => e = .returned (.func (.func 96) #[] #[.pointer (some ⟨w.heap.size, 0, none⟩)]) ∧ w.alloc (.cells #[.string s] 9) = w' := by
  go_enter Tryz.func53, Tryz.ntmps53
  go_wp2
  go_ret
  exact ⟨rfl, rfl⟩
theorem enters_lines : ∀ args w, (callFunc 96 args).run Tryz.prog w = .ok (.enter 96 args) w := enters_of Tryz.func96 (by kernel_rfl) rfl

set_option maxRecDepth 100000 in
set_option maxHeartbeats 4000000 in
theorem plines_iter (s : List UInt8) (bs : Nat) (w0 : World) (hc : w0.heap[bs]? = some (.cells #[.string ⟨s.toArray⟩] 9 (0, 0))) (hs : s.length ≤ 1048576) :
    Iter3 Tryz.prog 96 #[.pointer (some ⟨bs, 0, none⟩)] encL (linesP s) (fun x => x = bs) (fun _ => False) w0 := by
  intro m X J Jx W hNd hX hsame hsz hJ hJx hSl hY h0
  have hbW : W.heap[bs]? = some (.cells #[.string ⟨s.toArray⟩] 9 (0, 0)) := (hsame bs (.inl rfl)).trans hc
  have hXb : Hid (¬ X bs ∧ bs < W.heap.size) := Lib.hid ⟨hNd bs (.inl rfl), (Array.getElem?_eq_some_iff.1 hbW).1⟩
  have HK := Lib.hid (And.intro hX (And.intro hJ (And.intro hJx (And.intro hSl hY))))
  obtain ⟨L, hL⟩ : ∃ L, linesP s = L := ⟨_, rfl⟩
  rw [hL] at HK ⊢
  have hfn : ∀ k, Fence.wide.fn k := fun _ => trivial
  have hdep : Fence.wide.depth = none := rfl
  clear hNd hsame hsz hc hX hJ hJx hSl hY
  refine (callsIn_wide (n := 0)).1 ?_
  refine callsIn_of_wp Tryz.func96 rfl trivial ?_ rfl
  simp only [Tryz.ntmps96, List.size_toArray, List.length_cons, List.length_nil, Nat.reduceAdd, Nat.reduceSub, Array.replicate_succ, Array.replicate_zero, List.push_toArray, List.append_toArray, List.nil_append, List.cons_append]
  gi_wp2_with fail
  gi_loopw [3] (fun _ wr => ∃ (rest : List UInt8) (pre : List (List UInt8)) (Y : Nat → Prop), rest.length ≤ 1048576 ∧ pre ++ linesP rest = L ∧ (∀ y, Y y → W.heap.size ≤ y) ∧ J pre Y wr ∧ Keep (fun b => X b ∨ b = bs) W wr ∧ wr.heap[bs]? = some (.cells #[.string ⟨rest.toArray⟩] 9 (0, 0)))
    (fun _ wr => match wr.cell? ⟨bs, 0, none⟩ with | some (.string t) => t.size | _ => 0)
  case atStart => exact ⟨s, [], _, hs, by simpa using hL, fun _ h => h.elim, h0, Keep.refl _ _, hbW⟩
  case round =>
    obtain ⟨rest, pre, Y, hrl, hpre, hYl, hJs, hkp, hcell⟩ := hrel
    obtain ⟨T, hT⟩ : ∃ T : ByteArray, (⟨rest.toArray⟩ : ByteArray) = T := ⟨_, rfl⟩
    have hsz : T.size = rest.length := by rw [← hT, bsize]
    rw [hT] at hcell
    have c0 : wr.cell? ⟨bs, 0, none⟩ = some (.string T) := by rw [Lib.cell_of_heap hcell]; rfl
    have f0 : wr.frozen? ⟨bs, 0, none⟩ = false := Lib.frozen_of_heap hcell _
    have HC := Lib.hid hcell
    have HT := Lib.hid hT
    have HL := Lib.hid hL
    have HI := Lib.hid (And.intro hpre (And.intro hYl (And.intro hJs hkp)))
    clear hcell hT hL hpre hYl hJs hkp
    by_cases h0r : rest = []
    · have z : ((T.size : Nat) : Int) ≤ 0 := by rw [hsz, h0r]; simp
      have e : pre = L := by have := HI.out.1; rw [h0r, linesP_nil, List.append_nil] at this; exact this
      rw [e] at HI
      clear hsz f0 h0r
      gi_wp2_with fail
      go_end0
      exact ⟨⟨_, rfl⟩, HI.out.2.2.2, .inl ⟨Y, HI.out.2.1, HI.out.2.2.1⟩⟩
    · have hpos : 0 < rest.length := List.length_pos_iff.2 h0r
      have z : (0 : Int) < ((T.size : Nat) : Int) := by omega
      have CI := Lib.hid (Tryz.strings_IndexByte T 10 wr)
      have hd : T.data.toList = rest := by rw [← HT.out]
      rw [hd] at CI
      obtain ⟨j, hj⟩ : ∃ j, Lib.indexByte rest 10 = j := ⟨_, rfl⟩
      have CI2 : Hid (Calls Tryz.prog 97 #[.string T, .int .u8 10] wr fun e w' => e = .returned (.int .i64 j) ∧ w' = wr) := Lib.hid (by rw [← hj]; exact CI.out)
      clear CI
      by_cases h1 : 0 ≤ j
      · obtain ⟨i, rfl⟩ := Int.eq_ofNat_of_zero_le h1
        have hil : i < rest.length := (List.getElem?_eq_some_iff.1 (Lib.indexByte_some hj).1).1
        have HLP := Lib.hid (linesP_some h0r hj)
        have q1 : IntKind.i64.wrap ((i : Int) + 1) = ((i + 1 : Nat) : Int) := by rw [IntWalk.i64_in _ (by omega)]; omega
        have q2 : ((i + 1 : Nat) : Int) ≤ ((T.size : Nat) : Int) := by omega
        have hex : T.extract 0 (i + 1) = ⟨(rest.take (i + 1)).toArray⟩ ∧ T.extract (i + 1) T.size = ⟨(rest.drop (i + 1)).toArray⟩ := ⟨by rw [Lib.extract_upto, hd], by rw [Lib.extract_from, hd]⟩
        have HE := Lib.hid hex
        have HSZ := Lib.hid hsz
        clear hsz h0r hd hj hex
        gi_wp2_with fail
        refine (callsIn_wide.2 CI2.out).mono ?_
        rintro e1 V1 ⟨rfl, rfl⟩
        gi_wp2_with fail
        gi_region
        rw [HE.out.1, HE.out.2]
        obtain ⟨x, hx⟩ : ∃ x, rest.take (i + 1) = x := ⟨_, rfl⟩
        obtain ⟨r2, hr2⟩ : ∃ r2, rest.drop (i + 1) = r2 := ⟨_, rfl⟩
        have hlp := HLP.out
        have hr2l : r2.length = rest.length - (i + 1) := by rw [← hr2, List.length_drop]
        rw [hx, hr2] at hlp ⊢
        obtain ⟨W4, hW4⟩ : ∃ W4, (V1.setCell ⟨bs, 0, none⟩ (.string ⟨r2.toArray⟩)).drew = W4 := ⟨_, rfl⟩
        have hK4 : Keep (fun b => b = bs) V1 W4 := by
          rw [← hW4]
          exact (Keep.setCell (X := fun b => b = bs) (Keep.refl _ V1) (p := ⟨bs, 0, none⟩) rfl _).drew
        have hc4 : W4.heap[bs]? = some (.cells #[.string ⟨r2.toArray⟩] 9 (0, 0)) := by
          rw [← hW4]
          have := heap_setCell_same V1 bs 0 _ _ (.string ⟨r2.toArray⟩) HC.out
          show (V1.setCell ⟨bs, 0, none⟩ (.string ⟨r2.toArray⟩)).heap[bs]? = _
          simpa using this
        rw [hW4]
        have hYb : ¬ Y bs := fun h => by have := HI.out.2.1 bs h; have := hXb.out.2; omega
        have hJ4 : J pre Y W4 := HK.out.2.1 _ _ _ _ (hK4.weaken (fun b _ hb => ⟨.inl hb, by rw [hb]; exact hYb⟩)) HI.out.2.2.1
        have hkW4 : Keep (fun b => X b ∨ b = bs) W W4 := HI.out.2.2.2.trans (hK4.weaken (fun b _ hb => .inr hb))
        have hpx : pre ++ [x] ++ linesP r2 = L := by rw [← HI.out.1, hlp, List.append_assoc]; rfl
        have hyy : YieldAt Fence.wide 0 Tryz.prog m #[.string ⟨x.toArray⟩] W4 _ := HK.out.2.2.2.2 pre x Y W4 ⟨linesP r2, hpx⟩ hJ4 hkW4.size HI.out.2.1
        obtain ⟨fn, tmps, assign, body, hy, hR⟩ := hyy
        have H4 := Lib.hid (And.intro hkW4 (And.intro hc4 (And.intro hpx hr2l)))
        clear hK4 hc4 hJ4 hkW4 hpx hW4 hx hr2 hr2l hlp
        gi_wp2_with fail
        refine hR.mono ?_
        rintro e3 V3 ⟨Y', hk4, hY', (⟨rfl, hJ3⟩ | ⟨rfl, hJx3⟩)⟩
        all_goals have hk3 := H4.out.1
        all_goals have hzk := hk3.size
        all_goals have hkW : Keep (fun b => X b ∨ b = bs) W V3 := ⟨hk4.os.trans hk3.os, hk4.tape.trans hk3.tape, hk4.output.trans hk3.output, Nat.le_trans hk3.size hk4.size, fun b hb hx => (hk4.same b (Nat.lt_of_lt_of_le hb hk3.size) (fun h => by rcases h with h | h; exact hx (.inl h); have := HI.out.2.1 b h; omega)).trans (hk3.same b hb hx)⟩
        all_goals have hYl2 : ∀ b, Y' b → W.heap.size ≤ b := fun b hb => by rcases hY' b hb with h | h; exact HI.out.2.1 b h; omega
        · have hq3 : V3.heap[bs]? = some (.cells #[.string ⟨r2.toArray⟩] 9 (0, 0)) := hk4.heap H4.out.2.1 (fun h => by
            rcases h with h | h
            · exact hXb.out.1 h
            · exact hYb h)
          have HF := Lib.hid (And.intro hYl2 (And.intro hJ3 (And.intro hkW hq3)))
          clear hk4 hk3 hYl2 hJ3 hkW hq3 hY' hYb
          gi_wp2_with fail
          go_roundw
          case rel => exact ⟨r2, pre ++ [x], Y', by have := H4.out.2.2.2; omega, H4.out.2.2.1, HF.out.1, HF.out.2.1, HF.out.2.2.1, HF.out.2.2.2⟩
          case measure =>
            have e1 : V3.cell? ⟨bs, 0, none⟩ = some (.string ⟨r2.toArray⟩) := by rw [Lib.cell_of_heap HF.out.2.2.2]; rfl
            rw [e1, c0]
            show (⟨r2.toArray⟩ : ByteArray).size < T.size
            rw [bsize, HSZ.out]
            have := H4.out.2.2.2
            omega
        · have HF := Lib.hid (And.intro hYl2 (And.intro hJx3 hkW))
          have HPX := Lib.hid (show pre ++ [x] <+: L from ⟨linesP r2, H4.out.2.2.1⟩)
          clear hk4 hk3 hYl2 hJx3 hkW hY' hYb
          gi_wp2_with fail
          refine bodyPost_ret (results_none rfl _ _ _) rfl ?_
          exact ⟨⟨_, rfl⟩, HF.out.2.2, .inr ⟨_, Y', HPX.out, HF.out.1, HF.out.2.1⟩⟩
      · have hjm : j = -1 := by have := Lib.indexByte_ge rest 10; omega
        have HLP := Lib.hid (linesP_none h0r (hj.trans hjm))
        subst hjm
        have HSZ := Lib.hid hsz
        obtain ⟨x, hx⟩ : ∃ x, rest = x := ⟨_, rfl⟩
        have HT2 : Hid (T = ⟨x.toArray⟩) := Lib.hid (by rw [← HT.out, hx])
        clear hsz h0r hd hj h1
        gi_wp2_with fail
        refine (callsIn_wide.2 CI2.out).mono ?_
        rintro e1 V1 ⟨rfl, rfl⟩
        have hlp := HLP.out
        rw [hx] at hlp
        have hT3 := HT2.out
        subst hT3
        obtain ⟨r2, hr2⟩ : ∃ r2 : List UInt8, r2 = [] := ⟨_, rfl⟩
        have hr20 : r2.length = 0 := by rw [hr2]; rfl
        have hlp2 : linesP rest = x :: linesP r2 := by rw [hr2, linesP_nil, hx]; exact hlp
        obtain ⟨W4, hW4⟩ : ∃ W4, V1.setCell ⟨bs, 0, none⟩ (.string ⟨#[]⟩) = W4 := ⟨_, rfl⟩
        have hK4 : Keep (fun b => b = bs) V1 W4 := by
          rw [← hW4]
          exact (Keep.setCell (X := fun b => b = bs) (Keep.refl _ V1) (p := ⟨bs, 0, none⟩) rfl _)
        have hc4 : W4.heap[bs]? = some (.cells #[.string ⟨r2.toArray⟩] 9 (0, 0)) := by
          rw [← hW4]
          have := heap_setCell_same V1 bs 0 _ _ (.string ⟨#[]⟩) HC.out
          rw [hr2]
          simpa using this
        have hlp := hlp2
        have hr2l : r2.length = rest.length - rest.length := by omega
        have hYb : ¬ Y bs := fun h => by have := HI.out.2.1 bs h; have := hXb.out.2; omega
        have hJ4 : J pre Y W4 := HK.out.2.1 _ _ _ _ (hK4.weaken (fun b _ hb => ⟨.inl hb, by rw [hb]; exact hYb⟩)) HI.out.2.2.1
        have hkW4 : Keep (fun b => X b ∨ b = bs) W W4 := HI.out.2.2.2.trans (hK4.weaken (fun b _ hb => .inr hb))
        have hpx : pre ++ [x] ++ linesP r2 = L := by rw [← HI.out.1, hlp, List.append_assoc]; rfl
        have hyy : YieldAt Fence.wide 0 Tryz.prog m #[.string ⟨x.toArray⟩] W4 _ := HK.out.2.2.2.2 pre x Y W4 ⟨linesP r2, hpx⟩ hJ4 hkW4.size HI.out.2.1
        obtain ⟨fn, tmps, assign, body, hy, hR⟩ := hyy
        have H4 := Lib.hid (And.intro hkW4 (And.intro hc4 (And.intro hpx hr2l)))
        clear hK4 hc4 hJ4 hkW4 hpx hr2 hr2l hlp hlp2 hx hr20
        gi_wp2_with fail
        refine hR.mono ?_
        rintro e3 V3 ⟨Y', hk4, hY', (⟨rfl, hJ3⟩ | ⟨rfl, hJx3⟩)⟩
        all_goals have hk3 := H4.out.1
        all_goals have hzk := hk3.size
        all_goals have hkW : Keep (fun b => X b ∨ b = bs) W V3 := ⟨hk4.os.trans hk3.os, hk4.tape.trans hk3.tape, hk4.output.trans hk3.output, Nat.le_trans hk3.size hk4.size, fun b hb hx => (hk4.same b (Nat.lt_of_lt_of_le hb hk3.size) (fun h => by rcases h with h | h; exact hx (.inl h); have := HI.out.2.1 b h; omega)).trans (hk3.same b hb hx)⟩
        all_goals have hYl2 : ∀ b, Y' b → W.heap.size ≤ b := fun b hb => by rcases hY' b hb with h | h; exact HI.out.2.1 b h; omega
        · have hq3 : V3.heap[bs]? = some (.cells #[.string ⟨r2.toArray⟩] 9 (0, 0)) := hk4.heap H4.out.2.1 (fun h => by
            rcases h with h | h
            · exact hXb.out.1 h
            · exact hYb h)
          have HF := Lib.hid (And.intro hYl2 (And.intro hJ3 (And.intro hkW hq3)))
          clear hk4 hk3 hYl2 hJ3 hkW hq3 hY' hYb
          gi_wp2_with fail
          go_roundw
          case rel => exact ⟨r2, pre ++ [x], Y', by have := H4.out.2.2.2; omega, H4.out.2.2.1, HF.out.1, HF.out.2.1, HF.out.2.2.1, HF.out.2.2.2⟩
          case measure =>
            have e1 : V3.cell? ⟨bs, 0, none⟩ = some (.string ⟨r2.toArray⟩) := by rw [Lib.cell_of_heap HF.out.2.2.2]; rfl
            rw [e1, c0]
            show (⟨r2.toArray⟩ : ByteArray).size < (⟨x.toArray⟩ : ByteArray).size
            have h9 := HSZ.out
            rw [h9, bsize]
            have := H4.out.2.2.2
            omega
        · have HF := Lib.hid (And.intro hYl2 (And.intro hJx3 hkW))
          have HPX := Lib.hid (show pre ++ [x] <+: L from ⟨linesP r2, H4.out.2.2.1⟩)
          clear hk4 hk3 hYl2 hJx3 hkW hY' hYb
          gi_wp2_with fail
          refine bodyPost_ret (results_none rfl _ _ _) rfl ?_
          exact ⟨⟨_, rfl⟩, HF.out.2.2, .inr ⟨_, Y', HPX.out, HF.out.1, HF.out.2.1⟩⟩
end Go.Proofs.YtcfhblbmpbfoaaaGreatDoor
