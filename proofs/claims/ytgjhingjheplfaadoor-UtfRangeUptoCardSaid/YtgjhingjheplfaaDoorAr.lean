/- The kit's look at lists that were handed out: the walk. -/
import Derived.Test.YtgjhingjheplfaaDoorAq
import Derived.Deep.RegionHeldLaw
import Derived.Deep.QuietTactic
import Derived.BigQuiet
namespace Go.Proofs.YtgjhingjheplfaaDoor
open Go Go.RowKit Go.Kt Go.Shelf

theorem mark_m (k i : Nat) (w : World) (hk : k ≤ 1000) (hi : i ≤ 2097152) :
    Calls Tryd.prog 63 #[.int .i64 k, .int .i64 i] w fun e w' => e = .returned (.int .i32 (mk k i)) ∧ w = w' := mark_k k i w hk hi
theorem cell_far {W : World} {b o : Nat} {p : Addr} {u v : Value} (h : W.cell? p = some v) (hp : p.block ≠ b) : (W.setCell ⟨b, o, none⟩ u).cell? p = some v :=
  ((Keep.refl (fun c => c = b) W).setCell (p := ⟨b, o, none⟩) rfl u).cell h hp

/-- What the look is handed. -/
structure Handed (q : Nat) (vs : List Value) (ns : Nat → Nat) (w : World) : Prop where
  row : w.heap[q]? = some (.cells vs.toArray 23 (0, 0))
  few : vs.length ≤ 1000
  own : ∀ k v, vs[k]? = some v → ns k ≤ 1048576 ∧ ∃ xs, OwnS (fun b => b ≠ q) 21 1 v (ns k) xs w
  apart : Apart vs
theorem Handed.mk0 {q : Nat} {vs : List Value} {ns : Nat → Nat} {w : World} (h : Handed q vs ns w) : Mk q vs ns w 0 0 w :=
  ⟨h.row, Keep.refl _ _, rfl, fun j v hv => by
    obtain ⟨_, xs, ho⟩ := h.own j v hv
    exact ⟨xs, ho, fun h => by omega, fun _ => by simp [mkL]⟩⟩
theorem Mk.gs0 {q : Nat} {vs : List Value} {ns : Nat → Nat} {w W : World} (h : Mk q vs ns w vs.length 0 W) : Gs q vs ns w 0 (.slice none 0 0) W := by
  obtain ⟨h1, h2, h3, h4⟩ := h
  have all : ∀ j v, vs[j]? = some v → OwnS (fun b => ¬ False ∧ b ≠ q ∧ b < w.heap.size) 21 1 v (ns j) (i32s (mkL j (ns j))) W := fun j v hv => by
    obtain ⟨xs, ho, ha, _⟩ := h4 j v hv
    rw [ha (List.getElem?_eq_some_iff.1 hv).1] at ho
    exact ⟨ho.1, fun b hb => ⟨fun h => h, ho.2 b hb, by have := (ho.1.lt b hb).2; omega⟩⟩
  exact ⟨fun _ => False, [], ⟨rfl, h1, h2, fun _ h => h.elim, own_nil _ _ _ _, fun j hj => by omega, fun j v _ hv => all j v hv⟩, fun v hv => all 0 v hv⟩

set_option maxRecDepth 100000 in
set_option maxHeartbeats 4000000 in
theorem apartRunes_any (q mcap : Nat) (vs : List Value) (ns : Nat → Nat) (w : World) (hH : Handed q vs ns w) :
    Calls Tryd.prog 25 #[.slice (some ⟨q, 0, none⟩) vs.length mcap] w fun e w' => e = .returned (.bool true) ∧ Keep (Xs vs) w w' := by
  have HH := Lib.hid hH
  have hm := hH.few
  obtain ⟨m, hml⟩ : ∃ m, vs.length = m := ⟨_, rfl⟩
  rw [hml] at hm ⊢
  have HM := Lib.hid hml
  clear hH hml
  go_enter Tryd.func25, Tryd.ntmps25
  go_wp2
  go_loopw [3] (fun kv wr => ∃ k : Nat, k ≤ m ∧ kv = .int .i64 k ∧ Mk q vs ns w k 0 wr) (fun kv _ => m - (RowKit.intOf kv).toNat)
  case atStart => exact ⟨0, by omega, rfl, HH.out.mk0⟩
  case round =>
    obtain ⟨k, hk, rfl, hmk⟩ := hrel
    by_cases hlt : k < m
    · obtain ⟨v, hv⟩ : ∃ v, vs[k]? = some v := ⟨vs[k]'(by rw [HM.out]; exact hlt), List.getElem?_eq_getElem _⟩
      obtain ⟨hn, xs0, ho0⟩ := HH.out.own k v hv
      have HV := Lib.hid hv
      obtain ⟨n, hnn⟩ : ∃ n, ns k = n := ⟨_, rfl⟩
      have hsh : ∃ ao cap, v = .slice ao n cap := by
        rcases ho0.shape with ⟨h, h0⟩ | ⟨g, cap, h, _⟩
        · exact ⟨none, 0, by rw [h, ← hnn, h0]⟩
        · exact ⟨_, cap, by rw [h, hnn]⟩
      obtain ⟨ao, vc, rfl⟩ := hsh
      rw [hnn] at hn
      have HN := Lib.hid hnn
      have HK := Lib.hid hmk
      clear hv hnn ho0 hmk
      go_wp2
      go_loopw [4] (fun iv wr => ∃ i : Nat, i ≤ n ∧ iv = .int .i64 i ∧ Mk q vs ns w k i wr) (fun iv _ => n - (RowKit.intOf iv).toNat)
      case atStart => exact ⟨0, by omega, rfl, HK.out⟩
      case round =>
        clear HK
        obtain ⟨i, hi, rfl, hmk⟩ := hrel
        have hqc : wr.cell? ⟨q, k, none⟩ = some (.slice ao n vc) := by
          rw [Lib.cell_of_heap hmk.1]
          simpa using HV.out
        by_cases hil : i < n
        · obtain ⟨xs, ho, _⟩ := hmk.2.2.2 k _ HV.out
          rw [HN.out] at ho
          obtain ⟨g, rfl⟩ : ∃ g, ao = some ⟨g, 0, none⟩ := by
            rcases ho.shape with ⟨h, h0⟩ | ⟨g, cap, h, _⟩
            · omega
            · injection h with e1 _ _
              exact ⟨g, e1⟩
          have hgq : g ≠ q := ho.2 g rfl
          obtain ⟨u, hu⟩ : ∃ u, xs[i]? = some u := ⟨xs[i]'(by have := ho.1.1; omega), List.getElem?_eq_getElem _⟩
          have hst : wr.drew.cell? ⟨g, i, none⟩ = some u := ho.at0 hu
          have hfz : wr.drew.frozen? ⟨g, i, none⟩ = false := ho.frozen i
          have HS := Lib.hid (hmk.store HH.out.apart (by rw [HN.out]; exact HV.out) (by rw [HN.out]; exact hil))
          have CM := Lib.hid (fun W => mark_m k i W (by omega) (by omega))
          clear hmk ho hu
          go_wp2
          go_region_held_law (fun w' => w'.cell? ⟨q, k, none⟩ = some (.slice (some ⟨g, 0, none⟩) n vc)) (first | assumption | exact cell_far (by assumption) (fun e => hgq e.symm))
            ((go_at_call 63; refine (CM.out _).mono ?_; rintro e w' ⟨rfl, rfl⟩))
          all_goals
            go_wp2
            go_roundw
            case rel => exact ⟨i + 1, by omega, by go_num, HS.out⟩
            case measure => simp [RowKit.intOf]; omega
        · obtain rfl : i = n := by omega
          have HS := Lib.hid (hmk.start HN.out.symm)
          clear hmk
          go_wp2
          go_roundw
          case rel => exact ⟨k + 1, by omega, by go_num, HS.out⟩
          case measure => simp [RowKit.intOf]; omega
    · obtain rfl : k = m := by omega
      rw [← HM.out] at hmk
      have HG := Lib.hid hmk.gs0
      clear hmk
      go_wp2
      go_loopw [5, 6] (fun gv kv wr => ∃ (k' : Nat) (ao : Option Addr) (cp : Nat), k' ≤ k ∧ kv = .int .i64 k' ∧ gv = .slice ao k' cp ∧ Gs q vs ns w k' (.slice ao k' cp) wr) (fun _ kv _ => k - (RowKit.intOf kv).toNat)
      case atStart => exact ⟨0, none, 0, by omega, rfl, rfl, HG.out⟩
      case round =>
        clear HG
        obtain ⟨j, ag, cg, hj, rfl, rfl, hgs⟩ := hrel
        by_cases hjl : j < k
        · obtain ⟨v, hv⟩ : ∃ v, vs[j]? = some v := ⟨vs[j]'(by rw [HM.out]; exact hjl), List.getElem?_eq_getElem _⟩
          obtain ⟨hn, xs0, ho0⟩ := HH.out.own j v hv
          have HV := Lib.hid hv
          obtain ⟨n, hnn⟩ : ∃ n, ns j = n := ⟨_, rfl⟩
          obtain ⟨ao, vc, rfl⟩ : ∃ ao cap, v = .slice ao n cap := by
            rcases ho0.shape with ⟨h, h0⟩ | ⟨g, cap, h, _⟩
            · exact ⟨none, 0, by rw [h, ← hnn, h0]⟩
            · exact ⟨_, cap, by rw [h, hnn]⟩
          rw [hnn] at hn
          have HN := Lib.hid hnn
          have HI := Lib.hid (hgs.enter HH.out.apart hv)
          have hqc : wr.cell? ⟨q, j, none⟩ = some (.slice ao n vc) := by
            obtain ⟨S, gl, hb, _⟩ := hgs
            rw [Lib.cell_of_heap hb.row]
            simpa using HV.out
          clear hv hnn ho0 hgs
          go_wp2
          clear hqc
          go_loopw [7, 8] (fun g' iv wr => ∃ (i r : Nat) (a2 : Option Addr) (c2 : Nat), i ≤ 64 ∧ iv = .int .i64 i ∧ r = n + i ∧ g' = .slice a2 r c2 ∧ In q vs ns w j i (.slice ag j cg) (.slice a2 r c2) wr) (fun _ iv _ => 64 - (RowKit.intOf iv).toNat)
          case atStart => exact ⟨0, n, ao, vc, by omega, rfl, rfl, rfl, HI.out⟩
          case round =>
            clear HI
            obtain ⟨i, r, a2, c2, hi, rfl, hr, rfl, hin⟩ := hrel
            by_cases hil : i < 64
            · have hqc : wr.cell? ⟨q, j, none⟩ = some (.slice ao n vc) := by
                obtain ⟨S, gl, hb, _⟩ := hin
                rw [Lib.cell_of_heap hb.row]
                simpa using HV.out
              obtain ⟨g, cap, w2, hrun, hin2⟩ := hin.step (by rw [HN.out]; exact hn) hi
              rw [HN.out] at hrun hin2
              have CM := Lib.hid (fun W => (by have := mark_m j (n + i) W (by omega) (by omega); rw [Int.natCast_add] at this; exact this : Calls Tryd.prog 63 #[.int .i64 j, .int .i64 ((n : Int) + i)] W fun e w' => e = .returned (.int .i32 (mk j (n + i))) ∧ W = w'))
              have HRun := Lib.hid hrun
              have HI2 := Lib.hid hin2
              have HR := Lib.hid hr
              clear hrun hin2 hin hr
              go_wp2_with (first | (go_at_call 63; refine (CM.out _).mono ?_; rintro e w' ⟨rfl, rfl⟩) | (at_builtin; refine wpList_append_eq rfl rfl rfl rfl HRun.out ?_))
              go_roundw
              case rel => exact ⟨i + 1, n + (i + 1), _, cap, by omega, by go_num, rfl, rfl, HI2.out⟩
              case measure => simp [RowKit.intOf]; omega
            · obtain rfl : i = 64 := by omega
              obtain ⟨g, cap, w2, hrun, hgs2⟩ := hin.leave HH.out.apart (by omega)
              have HRun := Lib.hid hrun
              have HG2 := Lib.hid hgs2
              clear hrun hgs2 hin hr
              go_wp2_with (at_builtin; refine wpList_append_eq rfl rfl rfl rfl HRun.out ?_)
              go_roundw
              case rel => exact ⟨j + 1, _, cap, by omega, by go_num, rfl, HG2.out⟩
              case measure => simp [RowKit.intOf]; omega
        · obtain rfl : j = k := by omega
          obtain ⟨S, gl, hb, _⟩ := hgs
          have HB := Lib.hid hb
          clear hb
          obtain ⟨W3, rfl⟩ : ∃ W3 : World, W3 = wr := ⟨_, rfl⟩
          go_wp2
          go_loopw [9] (fun kv wi => ∃ k' : Nat, k' ≤ j ∧ kv = .int .i64 k' ∧ Drawn W3 wi) (fun kv _ => j - (RowKit.intOf kv).toNat)
          case atStart => exact ⟨0, by omega, rfl, Drawn.refl _⟩
          case round =>
            obtain ⟨p, hp, rfl, hd⟩ := hrel
            by_cases hpl : p < j
            · obtain ⟨⟨h, ch, hgl, hS, hcs⟩, hown⟩ := HB.out.done p hpl
              obtain ⟨v, hv⟩ : ∃ v, vs[p]? = some v := ⟨vs[p]'(by rw [HM.out]; exact hpl), List.getElem?_eq_getElem _⟩
              obtain ⟨hn, xs0, ho0⟩ := HH.out.own p v hv
              have hqc0 : W3.cell? ⟨q, p, none⟩ = some v := by
                rw [Lib.cell_of_heap HB.out.row]
                simpa using hv
              have HO := Lib.hid (hown v hv)
              clear hv hown
              obtain ⟨n, hnn⟩ : ∃ n, ns p = n := ⟨_, rfl⟩
              obtain ⟨ao, vc, rfl⟩ : ∃ ao cap, v = .slice ao n cap := by
                rcases ho0.shape with ⟨h, h0⟩ | ⟨g, cap, h, _⟩
                · exact ⟨none, 0, by rw [h, ← hnn, h0]⟩
                · exact ⟨_, cap, by rw [h, hnn]⟩
              rw [hnn] at hn hgl hcs HO
              obtain ⟨h0, rfl⟩ : ∃ h0, ag = some ⟨h0, 0, none⟩ := by
                rcases HB.out.list.shape with ⟨_, e⟩ | ⟨g, cap, e, _⟩
                · omega
                · injection e with e1 _ _
                  exact ⟨g, e1⟩
              have hlc0 : W3.cell? ⟨h0, p, none⟩ = some (.slice (some ⟨h, 0, none⟩) (n + 64) ch) := HB.out.list.at0 hgl
              have HC := Lib.hid hcs
              have HF := Lib.hid (And.intro hqc0 hlc0)
              have HN := Lib.hid hnn
              have HD := Lib.hid hd
              clear hnn ho0 hgl hcs hlc0 hqc0 hS hd
              go_wp2
              go_loopw [10] (fun iv wj => ∃ i : Nat, i ≤ n + 64 ∧ iv = .int .i64 i ∧ Drawn W3 wj) (fun iv _ => n + 64 - (RowKit.intOf iv).toNat)
              case atStart => exact ⟨0, by omega, rfl, HD.out⟩
              case round =>
                clear HD
                obtain ⟨i, hi, rfl, hd⟩ := hrel
                have hlc := (hd.cell ⟨h0, p, none⟩).trans HF.out.2
                by_cases hil : i < n + 64
                · have hic := (hd.cell ⟨h, i, none⟩).trans (HC.out i hil)
                  have hqc := (hd.cell ⟨q, p, none⟩).trans HF.out.1
                  have CM := Lib.hid (fun W => mark_m p i W (by omega) (by omega))
                  have e1 : (mk p i != mk p i) = false := by simp
                  have b0 : (0 : Int) ≤ (i : Int) := by omega
                  have b1 : (i : Int) < ((n + 64 : Nat) : Int) := by omega
                  have c0 : (0 : Int) ≤ (p : Int) := by omega
                  have c1 : (p : Int) < (j : Int) := by omega
                  have HD := Lib.hid hd
                  clear hd
                  by_cases hin : i < n
                  · obtain ⟨g, cap, e, _, hgc⟩ := HO.out i hin
                    injection e with e2 e3 e4
                    subst e2; subst e4
                    have hgc := (HD.out.cell ⟨g, i, none⟩).trans hgc
                    have hd1 : decide ((i : Int) < (n : Int)) = true := by simpa using hin
                    have b2 : (i : Int) < (n : Int) := by omega
                    clear e3
                    generalize mk p i = x at *
                    go_wp2_with (go_at_call 63; refine (CM.out _).mono ?_; rintro e w' ⟨rfl, rfl⟩)
                    go_roundw
                    case rel => exact ⟨i + 1, by omega, by go_num, HD.out⟩
                    case measure => simp [RowKit.intOf]; omega
                  · have hd1 : decide ((i : Int) < (n : Int)) = false := by simpa using hin
                    generalize mk p i = x at *
                    go_wp2_with (go_at_call 63; refine (CM.out _).mono ?_; rintro e w' ⟨rfl, rfl⟩)
                    go_roundw
                    case rel => exact ⟨i + 1, by omega, by go_num, HD.out⟩
                    case measure => simp [RowKit.intOf]; omega
                · have HD := Lib.hid hd
                  clear hd
                  go_wp2
                  go_roundw
                  case rel => exact ⟨p + 1, by omega, by go_num, HD.out⟩
                  case measure => simp [RowKit.intOf]; omega
            · go_wp2
              go_ret
              exact ⟨rfl, HB.out.keep.plus (Keep.of_all (X := fun _ => False) hd.below) (fun _ _ h => h.elim)⟩
theorem own_bd {Y : Nat → Prop} {e : TypeId} {size n : Nat} {v : Value} {xs : List Value} {A : World} (h : OwnS Y e size v n xs A) : OwnS (fun b => Y b ∧ b < A.heap.size) e size v n xs A := ⟨h.1, fun b hb => ⟨h.2 b hb, (h.1.lt b hb).2⟩⟩
theorem own_later {Y : Nat → Prop} {e : TypeId} {size n : Nat} {v : Value} {xs : List Value} {A B : World} (h : OwnS Y e size v n xs A) (hb : Below A.heap.size A B) : OwnS Y e size v n xs B := h.keep (X := fun _ => False) (.of_all hb) (fun _ h => h.elim)

end Go.Proofs.YtgjhingjheplfaaDoor
