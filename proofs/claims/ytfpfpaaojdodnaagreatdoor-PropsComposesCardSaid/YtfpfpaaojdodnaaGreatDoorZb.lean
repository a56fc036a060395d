/- The kit's look at lists of runes that were handed out: the walk, up to 2000 lists (written by gen_zb.py). -/
import Derived.Test.YtfpfpaaojdodnaaGreatDoorGz15
import Derived.Test.YtfpfpaaojdodnaaGreatDoorK29
import Derived.Test.YtfpfpaaojdodnaaGreatDoorK30
import Derived.Test.YtfpfpaaojdodnaaGreatDoorYh
import Derived.Deep.RegionHeldLaw
import Derived.Deep.QuietTactic
import Derived.BigQuiet
namespace Go.Proofs.YtfpfpaaojdodnaaGreatDoor
open Go Go.RowKit Go.Kt

def mzI (k i : Nat) : Int := -1000 * ((k : Int) + 1) - i
def mzL (k i : Nat) : List Value := [.int .i32 (mzI k i)]
theorem mark_z (k i : Nat) (w : World) (hk : k ≤ 2000) (hi : i ≤ 4194304) :
    Calls Tryz.prog 170 #[.int .i64 k, .int .i64 i] w fun e w' => e = .returned (.int .i32 (mzI k i)) ∧ w = w' := by
  have r1 : IntKind.i32.wrap ((k : Int) + 1) = (k : Int) + 1 := by rw [IntKind.wrap_i32]; omega
  have r2 : IntKind.i32.wrap (i : Int) = i := by rw [IntKind.wrap_i32]; omega
  go_enter Tryz.func170, Tryz.ntmps170
  go_wp2
  go_ret
  exact ⟨rfl, rfl⟩
theorem tinfoZ32 : (Tryz.prog.info? 21).map (fun i => (i.zero, i.size, i.bytes)) = some (some (.int .i32 0), 1, 4) := by kernel_rfl
theorem tinfoSlZ : (Tryz.prog.info? 22).map (fun i => (i.zero, i.size, i.bytes)) = some (some (.slice none 0 0), 1, 24) := by kernel_rfl
theorem akZ : Ly.AK Tryz.prog 21 22 97 1 4 (.int .i32 0) mzL :=
  ⟨Tryz.underlying22, tinfoZ32, rfl, by decide, Tryz.underlying97, tinfoSlZ, fun _ _ => rfl, fun k i u hu => by
    unfold mzL at hu
    simp at hu
    subst hu
    rfl, by decide⟩
theorem at_exZ {vs ex : List Value} {k : Nat} {v : Value} (h : vs[k]? = some v) : (vs ++ ex).toArray[k]? = some v := by
  have h1 : (vs ++ ex)[k]? = some v := by rw [List.getElem?_append_left (List.getElem?_eq_some_iff.1 h).1]; exact h
  simpa using h1
theorem cell_farZ {W : World} {b o : Nat} {p : Addr} {u v : Value} (h : W.cell? p = some v) (hp : p.block ≠ b) : (W.setCell ⟨b, o, none⟩ u).cell? p = some v :=
  ((Keep.refl (fun c => c = b) W).setCell (p := ⟨b, o, none⟩) rfl u).cell h hp
theorem mz_get {k n i : Nat} (h : i < n) : (Ly.mL mzL k n)[i]? = some (.int .i32 (mzI k i)) := by
  have := Ly.mL_get (M := mzL) (size := 1) (fun _ _ => rfl) k n i 0 (.int .i32 (mzI k i)) h rfl
  simpa using this
abbrev HandZ (q : Nat) (ex vs : List Value) (ns : Nat → Nat) (w : World) : Prop := Ly.Handed 21 22 1 q ex vs ns w
abbrev MkZ (q : Nat) (ex vs : List Value) (ns : Nat → Nat) (w : World) (k i : Nat) (W : World) : Prop := Ly.Mk 21 22 1 mzL q ex vs ns w k i W
abbrev GsZ (q : Nat) (ex vs : List Value) (ns : Nat → Nat) (w : World) (k : Nat) (gv : Value) (W : World) : Prop := Ly.Gs 21 22 1 mzL q ex vs ns w k gv W
abbrev InZ (q : Nat) (ex vs : List Value) (ns : Nat → Nat) (w : World) (k i : Nat) (gv g' : Value) (W : World) : Prop := Ly.In 21 22 1 mzL q ex vs ns w k i gv g' W

set_option maxRecDepth 100000 in
set_option maxHeartbeats 4000000 in
theorem apartRunesZ (q mcap : Nat) (ex vs : List Value) (ns : Nat → Nat) (w : World) (hH : HandZ q ex vs ns w) :
    Calls Tryz.prog 105 #[.slice (some ⟨q, 0, none⟩) vs.length mcap] w fun e w' => e = .returned (.bool true) ∧ Keep (Ly.Xs vs) w w' := by
  have HH := Lib.hid hH
  have hm := hH.few
  obtain ⟨m, hml⟩ : ∃ m, vs.length = m := ⟨_, rfl⟩
  rw [hml] at hm ⊢
  have HM := Lib.hid hml
  clear hH hml
  go_enter Tryz.func105, Tryz.ntmps105
  go_wp2
  go_loopw [3] (fun kv wr => ∃ k : Nat, k ≤ m ∧ kv = .int .i64 k ∧ MkZ q ex vs ns w k 0 wr) (fun kv _ => m - (RowKit.intOf kv).toNat)
  case atStart => exact ⟨0, by omega, rfl, HH.out.mk0⟩
  case round =>
    obtain ⟨k, hk, rfl, hmk⟩ := hrel
    by_cases hlt : k < m
    · obtain ⟨v, hv⟩ : ∃ v, vs[k]? = some v := ⟨vs[k]'(by rw [HM.out]; exact hlt), List.getElem?_eq_getElem _⟩
      obtain ⟨hn, xs0, ho0⟩ := HH.out.own k v hv
      have HV := Lib.hid hv
      obtain ⟨n, hnn⟩ : ∃ n, ns k = n := ⟨_, rfl⟩
      have hsh : ∃ ao cap, v = .slice ao n cap := by
        rcases ho0.shape with ⟨h, h0⟩ | ⟨g, cap, h, _⟩
        · exact ⟨none, 0, by rw [h, ← hnn, h0]⟩
        · exact ⟨_, cap, by rw [h, hnn]⟩
      obtain ⟨ao, vc, rfl⟩ := hsh
      rw [hnn] at hn
      have HN := Lib.hid hnn
      have HK := Lib.hid hmk
      clear hv hnn ho0 hmk
      go_wp2
      go_loopw [4] (fun iv wr => ∃ i : Nat, i ≤ n ∧ iv = .int .i64 i ∧ MkZ q ex vs ns w k i wr) (fun iv _ => n - (RowKit.intOf iv).toNat)
      case atStart => exact ⟨0, by omega, rfl, HK.out⟩
      case round =>
        clear HK
        obtain ⟨i, hi, rfl, hmk⟩ := hrel
        have hqc : wr.cell? ⟨q, k, none⟩ = some (.slice ao n vc) := by
          rw [Lib.cell_of_heap hmk.1]
          exact at_exZ HV.out
        by_cases hil : i < n
        · obtain ⟨xs, ho, _⟩ := hmk.2.2 k _ HV.out
          rw [HN.out] at ho
          obtain ⟨g, rfl⟩ : ∃ g, ao = some ⟨g, 0, none⟩ := by
            rcases ho.shape with ⟨h, h0⟩ | ⟨g, cap, h, _⟩
            · omega
            · injection h with e1 _ _
              exact ⟨g, e1⟩
          have hgq : g ≠ q := (ho.2 g rfl).1
          obtain ⟨u, hu⟩ : ∃ u, xs[i]? = some u := ⟨xs[i]'(by have := ho.1.1; omega), List.getElem?_eq_getElem _⟩
          have hst : wr.drew.cell? ⟨g, i, none⟩ = some u := ho.at0 hu
          have hfz : wr.drew.frozen? ⟨g, i, none⟩ = false := ho.frozen i
          have HS : Hid (MkZ q ex vs ns w k (i + 1) (wr.drew.setCell ⟨g, i, none⟩ (.int .i32 (mzI k i)))) := Lib.hid (by
            have := (hmk.call (Below.refl _ wr).drew).store akZ HH.out.apart (by rw [HN.out]; exact HV.out) (by rw [HN.out]; exact hil)
            rw [Nat.mul_one] at this
            exact this)
          have CM := Lib.hid (fun W => mark_z k i W (by omega) (by omega))
          clear hmk ho hu
          go_wp2
          go_region_held_law (fun w' => w'.cell? ⟨q, k, none⟩ = some (.slice (some ⟨g, 0, none⟩) n vc)) (first | assumption | exact cell_farZ (by assumption) (fun e => hgq e.symm))
            ((go_at_call 170; refine (CM.out _).mono ?_; rintro e w' ⟨rfl, rfl⟩))
          all_goals
            go_wp2
            go_roundw
            case rel => exact ⟨i + 1, by omega, by go_num, HS.out⟩
            case measure => simp [RowKit.intOf]; omega
        · obtain rfl : i = n := by omega
          have HS := Lib.hid (hmk.start HN.out.symm)
          clear hmk
          go_wp2
          go_roundw
          case rel => exact ⟨k + 1, by omega, by go_num, HS.out⟩
          case measure => simp [RowKit.intOf]; omega
    · obtain rfl : k = m := by omega
      rw [← HM.out] at hmk
      have HG := Lib.hid hmk.gs0
      clear hmk
      go_wp2
      go_loopw [5, 6] (fun gv kv wr => ∃ (k' : Nat) (ao : Option Addr) (cp : Nat), k' ≤ k ∧ kv = .int .i64 k' ∧ gv = .slice ao k' cp ∧ GsZ q ex vs ns w k' (.slice ao k' cp) wr) (fun _ kv _ => k - (RowKit.intOf kv).toNat)
      case atStart => exact ⟨0, none, 0, by omega, rfl, rfl, HG.out⟩
      case round =>
        clear HG
        obtain ⟨j, ag, cg, hj, rfl, rfl, hgs⟩ := hrel
        by_cases hjl : j < k
        · obtain ⟨v, hv⟩ : ∃ v, vs[j]? = some v := ⟨vs[j]'(by rw [HM.out]; exact hjl), List.getElem?_eq_getElem _⟩
          obtain ⟨hn, xs0, ho0⟩ := HH.out.own j v hv
          have HV := Lib.hid hv
          obtain ⟨n, hnn⟩ : ∃ n, ns j = n := ⟨_, rfl⟩
          obtain ⟨ao, vc, rfl⟩ : ∃ ao cap, v = .slice ao n cap := by
            rcases ho0.shape with ⟨h, h0⟩ | ⟨g, cap, h, _⟩
            · exact ⟨none, 0, by rw [h, ← hnn, h0]⟩
            · exact ⟨_, cap, by rw [h, hnn]⟩
          rw [hnn] at hn
          have HN := Lib.hid hnn
          have HI := Lib.hid (hgs.enter HH.out.apart hv)
          have hqc : wr.cell? ⟨q, j, none⟩ = some (.slice ao n vc) := by
            obtain ⟨S, gl, hb, _⟩ := hgs
            rw [Lib.cell_of_heap hb.row]
            exact at_exZ HV.out
          clear hv hnn ho0 hgs
          go_wp2
          clear hqc
          go_loopw [7, 8] (fun g' iv wr => ∃ (i r : Nat) (a2 : Option Addr) (c2 : Nat), i ≤ 64 ∧ iv = .int .i64 i ∧ r = n + i ∧ g' = .slice a2 r c2 ∧ InZ q ex vs ns w j i (.slice ag j cg) (.slice a2 r c2) wr) (fun _ iv _ => 64 - (RowKit.intOf iv).toNat)
          case atStart => exact ⟨0, n, ao, vc, by omega, rfl, rfl, rfl, HI.out⟩
          case round =>
            clear HI
            obtain ⟨i, r, a2, c2, hi, rfl, hr, rfl, hin⟩ := hrel
            by_cases hil : i < 64
            · have hqc : wr.cell? ⟨q, j, none⟩ = some (.slice ao n vc) := by
                obtain ⟨S, gl, hb, _⟩ := hin
                rw [Lib.cell_of_heap hb.row]
                exact at_exZ HV.out
              obtain ⟨g, cap, w2, hrun, hin2⟩ := hin.step akZ (by rw [HN.out]; exact hn) hi
              rw [HN.out] at hrun hin2
              have hrun : ∀ ty, (Builtin.append_ #[22, 22] ty #[.slice a2 r c2, .slice (some ⟨wr.heap.size, 0, none⟩) 1 1]).run Tryz.prog (wr.alloc (.cells #[.int .i32 (mzI j (n + i))] 21)) = .ok (.slice (some ⟨g, 0, none⟩) (n + (i + 1)) cap) w2 := hrun
              have CM := Lib.hid (fun W => (by have := mark_z j (n + i) W (by omega) (by omega); rw [Int.natCast_add] at this; exact this : Calls Tryz.prog 170 #[.int .i64 j, .int .i64 ((n : Int) + i)] W fun e w' => e = .returned (.int .i32 (mzI j (n + i))) ∧ W = w'))
              have HRun := Lib.hid hrun
              have HI2 := Lib.hid hin2
              have HR := Lib.hid hr
              clear hrun hin2 hin hr
              go_wp2_with (first | (go_at_call 170; refine (CM.out _).mono ?_; rintro e w' ⟨rfl, rfl⟩) | (at_builtin; refine wpList_append_eq rfl rfl rfl rfl HRun.out ?_))
              go_roundw
              case rel => exact ⟨i + 1, n + (i + 1), _, cap, by omega, by go_num, rfl, rfl, HI2.out⟩
              case measure => simp [RowKit.intOf]; omega
            · obtain rfl : i = 64 := by omega
              obtain ⟨g, cap, w2, hrun, hgs2⟩ := hin.leave akZ HH.out.apart (by omega)
              have HRun := Lib.hid hrun
              have HG2 := Lib.hid hgs2
              clear hrun hgs2 hin hr
              go_wp2_with (at_builtin; refine wpList_append_eq rfl rfl rfl rfl HRun.out ?_)
              go_roundw
              case rel => exact ⟨j + 1, _, cap, by omega, by go_num, rfl, HG2.out⟩
              case measure => simp [RowKit.intOf]; omega
        · obtain rfl : j = k := by omega
          obtain ⟨S, gl, hb, _⟩ := hgs
          have HB := Lib.hid hb
          clear hb
          obtain ⟨W3, rfl⟩ : ∃ W3 : World, W3 = wr := ⟨_, rfl⟩
          go_wp2
          go_loopw [9] (fun kv wi => ∃ k' : Nat, k' ≤ j ∧ kv = .int .i64 k' ∧ Drawn W3 wi) (fun kv _ => j - (RowKit.intOf kv).toNat)
          case atStart => exact ⟨0, by omega, rfl, Drawn.refl _⟩
          case round =>
            obtain ⟨p, hp, rfl, hd⟩ := hrel
            by_cases hpl : p < j
            · obtain ⟨⟨h, ch, hgl, hS, hcs⟩, hown⟩ := HB.out.done p hpl
              obtain ⟨v, hv⟩ : ∃ v, vs[p]? = some v := ⟨vs[p]'(by rw [HM.out]; exact hpl), List.getElem?_eq_getElem _⟩
              obtain ⟨hn, xs0, ho0⟩ := HH.out.own p v hv
              have hqc0 : W3.cell? ⟨q, p, none⟩ = some v := by
                rw [Lib.cell_of_heap HB.out.row]
                exact at_exZ hv
              have HO := Lib.hid (hown v hv)
              clear hv hown
              obtain ⟨n, hnn⟩ : ∃ n, ns p = n := ⟨_, rfl⟩
              obtain ⟨ao, vc, rfl⟩ : ∃ ao cap, v = .slice ao n cap := by
                rcases ho0.shape with ⟨h, h0⟩ | ⟨g, cap, h, _⟩
                · exact ⟨none, 0, by rw [h, ← hnn, h0]⟩
                · exact ⟨_, cap, by rw [h, hnn]⟩
              rw [hnn] at hn hgl hcs HO
              obtain ⟨h0, rfl⟩ : ∃ h0, ag = some ⟨h0, 0, none⟩ := by
                rcases HB.out.list.shape with ⟨_, e⟩ | ⟨g, cap, e, _⟩
                · omega
                · injection e with e1 _ _
                  exact ⟨g, e1⟩
              have hlc0 : W3.cell? ⟨h0, p, none⟩ = some (.slice (some ⟨h, 0, none⟩) (n + 64) ch) := Ly.at_row HB.out.list hgl
              have HC := Lib.hid hcs
              have HF := Lib.hid (And.intro hqc0 hlc0)
              have HN := Lib.hid hnn
              have HD := Lib.hid hd
              clear hnn ho0 hgl hcs hlc0 hqc0 hS hd
              go_wp2
              go_loopw [10] (fun iv wj => ∃ i : Nat, i ≤ n + 64 ∧ iv = .int .i64 i ∧ Drawn W3 wj) (fun iv _ => n + 64 - (RowKit.intOf iv).toNat)
              case atStart => exact ⟨0, by omega, rfl, HD.out⟩
              case round =>
                clear HD
                obtain ⟨i, hi, rfl, hd⟩ := hrel
                have hlc := (hd.cell ⟨h0, p, none⟩).trans HF.out.2
                by_cases hil : i < n + 64
                · have hic := (hd.cell ⟨h, i, none⟩).trans (HC.out i _ (mz_get hil))
                  have hqc := (hd.cell ⟨q, p, none⟩).trans HF.out.1
                  have CM := Lib.hid (fun W => mark_z p i W (by omega) (by omega))
                  have e1 : (mzI p i != mzI p i) = false := by simp
                  have b0 : (0 : Int) ≤ (i : Int) := by omega
                  have b1 : (i : Int) < ((n + 64 : Nat) : Int) := by omega
                  have c0 : (0 : Int) ≤ (p : Int) := by omega
                  have c1 : (p : Int) < (j : Int) := by omega
                  have HD := Lib.hid hd
                  clear hd
                  by_cases hin : i < n
                  · obtain ⟨g, cap, e, _, hgc⟩ := HO.out i _ (mz_get hin)
                    injection e with e2 e3 e4
                    subst e2; subst e4
                    have hgc := (HD.out.cell ⟨g, i, none⟩).trans hgc
                    have hd1 : decide ((i : Int) < (n : Int)) = true := by simpa using hin
                    have b2 : (i : Int) < (n : Int) := by omega
                    clear e3
                    generalize mzI p i = x at *
                    go_wp2_with (go_at_call 170; refine (CM.out _).mono ?_; rintro e w' ⟨rfl, rfl⟩)
                    go_roundw
                    case rel => exact ⟨i + 1, by omega, by go_num, HD.out⟩
                    case measure => simp [RowKit.intOf]; omega
                  · have hd1 : decide ((i : Int) < (n : Int)) = false := by simpa using hin
                    generalize mzI p i = x at *
                    go_wp2_with (go_at_call 170; refine (CM.out _).mono ?_; rintro e w' ⟨rfl, rfl⟩)
                    go_roundw
                    case rel => exact ⟨i + 1, by omega, by go_num, HD.out⟩
                    case measure => simp [RowKit.intOf]; omega
                · have HD := Lib.hid hd
                  clear hd
                  go_wp2
                  go_roundw
                  case rel => exact ⟨p + 1, by omega, by go_num, HD.out⟩
                  case measure => simp [RowKit.intOf]; omega
            · go_wp2
              go_ret
              exact ⟨rfl, HB.out.keep.plus (Keep.of_all (X := fun _ => False) hd.below) (fun _ _ h => h.elim)⟩
end Go.Proofs.YtfpfpaaojdodnaaGreatDoor
