/- The kit's look at lists of tokens that were handed out: the walk. -/
import Derived.Test.YtbnnhbmnddaafaaGreatDoorTo
import Derived.Deep.RegionHeldLaw
import Derived.Deep.QuietTactic
import Derived.BigQuiet
namespace Go.Proofs.YtbnnhbmnddaafaaGreatDoor
open Go Go.RowKit Go.Kt Go.Shelf Go.Lib
attribute [local go_sem] Oper.semAt_some

theorem five {Y : Nat → Prop} {n g cap : Nat} {xs : List Value} {W : World} (ho : OwnS Y 30 5 (.slice (some ⟨g, 0, none⟩) n cap) n xs W) {o : Nat} (h : o + 4 < xs.length) (a b c d _e : Value) :
    (∃ u, W.cell? ⟨g, o, none⟩ = some u) ∧ (∃ u, (W.setCell ⟨g, o, none⟩ a).cell? ⟨g, o + 1, none⟩ = some u) ∧ (∃ u, ((W.setCell ⟨g, o, none⟩ a).setCell ⟨g, o + 1, none⟩ b).cell? ⟨g, o + 2, none⟩ = some u) ∧ (∃ u, (((W.setCell ⟨g, o, none⟩ a).setCell ⟨g, o + 1, none⟩ b).setCell ⟨g, o + 2, none⟩ c).cell? ⟨g, o + 3, none⟩ = some u) ∧
    (∃ u, ((((W.setCell ⟨g, o, none⟩ a).setCell ⟨g, o + 1, none⟩ b).setCell ⟨g, o + 2, none⟩ c).setCell ⟨g, o + 3, none⟩ d).cell? ⟨g, o + 4, none⟩ = some u) ∧
    W.frozen? ⟨g, o, none⟩ = false ∧ (W.setCell ⟨g, o, none⟩ a).frozen? ⟨g, o + 1, none⟩ = false ∧ ((W.setCell ⟨g, o, none⟩ a).setCell ⟨g, o + 1, none⟩ b).frozen? ⟨g, o + 2, none⟩ = false ∧ (((W.setCell ⟨g, o, none⟩ a).setCell ⟨g, o + 1, none⟩ b).setCell ⟨g, o + 2, none⟩ c).frozen? ⟨g, o + 3, none⟩ = false ∧
    ((((W.setCell ⟨g, o, none⟩ a).setCell ⟨g, o + 1, none⟩ b).setCell ⟨g, o + 2, none⟩ c).setCell ⟨g, o + 3, none⟩ d).frozen? ⟨g, o + 4, none⟩ = false := by
  have st : ∀ {V : World} {ys : List Value} (hv : OwnS Y 30 5 (.slice (some ⟨g, 0, none⟩) n cap) n ys V) (j : Nat) (u : Value), OwnS Y 30 5 (.slice (some ⟨g, 0, none⟩) n cap) n (ys.set j u) (V.setCell ⟨g, j, none⟩ u) := fun hv j u => ⟨(hv.1.stored j u).1, hv.2⟩
  have at_ : ∀ {V : World} {ys : List Value} (hv : OwnS Y 30 5 (.slice (some ⟨g, 0, none⟩) n cap) n ys V) (j : Nat), j < ys.length → ∃ u, V.cell? ⟨g, j, none⟩ = some u := fun hv j hj => ⟨_, Lk.at_row hv (List.getElem?_eq_getElem hj)⟩
  have o1 := st ho o a
  have o2 := st o1 (o + 1) b
  have o3 := st o2 (o + 2) c
  have o4 := st o3 (o + 3) d
  exact ⟨at_ ho o (by omega), at_ o1 (o + 1) (by simp; omega), at_ o2 (o + 2) (by simp; omega), at_ o3 (o + 3) (by simp; omega), at_ o4 (o + 4) (by simp; omega), Lk.fz_row ho _, Lk.fz_row o1 _, Lk.fz_row o2 _, Lk.fz_row o3 _, Lk.fz_row o4 _⟩

abbrev HandT (q : Nat) (vs : List Value) (ns : Nat → Nat) (w : World) : Prop := Lk.Handed 30 23 5 q vs ns w
abbrev MkT (q : Nat) (vs : List Value) (ns : Nat → Nat) (w : World) (k i : Nat) (W : World) : Prop := Lk.Mk 30 23 5 mkT q vs ns w k i W
abbrev GsT (q : Nat) (vs : List Value) (ns : Nat → Nat) (w : World) (k : Nat) (gv : Value) (W : World) : Prop := Lk.Gs 30 23 5 mkT q vs ns w k gv W
abbrev InT (q : Nat) (vs : List Value) (ns : Nat → Nat) (w : World) (k i : Nat) (gv g' : Value) (W : World) : Prop := Lk.In 30 23 5 mkT q vs ns w k i gv g' W

theorem mk_get {p n i c : Nat} {u : Value} (hi : i < n) (hu : (mkT p i)[c]? = some u) : (Lk.mL mkT p n)[i * 5 + c]? = some u := Lk.mL_get (M := mkT) (size := 5) (fun _ _ => rfl) p n i c u hi hu
theorem mk_cells {W : World} {b n p i : Nat} (hi : i < n) (h : ∀ (c : Nat) u, (Lk.mL mkT p n)[c]? = some u → W.cell? ⟨b, c, none⟩ = some u) :
    W.cell? ⟨b, i * 5, none⟩ = some (.int .i64 (-7)) ∧ W.cell? ⟨b, i * 5 + 1, none⟩ = some (.string ⟨(mtL p i).toArray⟩) ∧ W.cell? ⟨b, i * 5 + 2, none⟩ = some (.int .i64 0) ∧ W.cell? ⟨b, i * 5 + 3, none⟩ = some (.int .i64 0) ∧ W.cell? ⟨b, i * 5 + 4, none⟩ = some (.int .i64 0) :=
  ⟨h _ _ (mk_get (c := 0) (u := .int .i64 (-7)) hi rfl), h _ _ (mk_get (c := 1) (u := .string ⟨(mtL p i).toArray⟩) hi rfl), h _ _ (mk_get (c := 2) (u := .int .i64 0) hi rfl), h _ _ (mk_get (c := 3) (u := .int .i64 0) hi rfl), h _ _ (mk_get (c := 4) (u := .int .i64 0) hi rfl)⟩
theorem own_cells {S : Nat → Prop} {W : World} {ao : Option Addr} {n vc p i : Nat} (hi : i < n) (h : ∀ (c : Nat) u, (Lk.mL mkT p n)[c]? = some u → ∃ g cap, Value.slice ao n vc = .slice (some ⟨g, 0, none⟩) n cap ∧ S g ∧ W.cell? ⟨g, c, none⟩ = some u) :
    ∃ g, ao = some ⟨g, 0, none⟩ ∧ ∀ (c : Nat) u, (Lk.mL mkT p n)[c]? = some u → W.cell? ⟨g, c, none⟩ = some u := by
  obtain ⟨g, cap, e, _, _⟩ := h _ _ (mk_get (c := 0) (u := .int .i64 (-7)) hi rfl)
  injection e with e2 _ _
  refine ⟨g, e2, fun c u hu => ?_⟩
  obtain ⟨g2, cap2, e5, _, hgc⟩ := h c u hu
  injection e5 with e6 _ _
  rw [e2] at e6
  injection e6 with e6
  injection e6 with e6
  subst e6
  exact hgc
def LookT (W3 wr : World) (q p h0 h n : Nat) (ao : Option Addr) (vc ch i : Nat) (X : ByteArray) : Prop := ∀ w5, Below wr.heap.size wr w5 → ∃ W6 W7, w5.alloc (.cells (tkX 0 ⟨#[]⟩ 0 0 0) 30) = W6 ∧ (Instr.storeAt 30 (.pointer (some ⟨w5.heap.size, 0, none⟩)) (tkA (-7) X 0 0 0)).run Tryz.prog W6 = .ok () W7 ∧ W7.heap[w5.heap.size]? = some (.cells (tkX (-7) X 0 0 0) 30 (0, 0)) ∧ Below W3.heap.size W3 W7 ∧
  W7.cell? ⟨q, p, none⟩ = some (.slice ao n vc) ∧ W7.cell? ⟨h0, p, none⟩ = some (.slice (some ⟨h, 0, none⟩) (n + 64) ch) ∧
  (W7.cell? ⟨h, i * 5, none⟩ = some (.int .i64 (-7)) ∧ W7.cell? ⟨h, i * 5 + 1, none⟩ = some (.string X) ∧ W7.cell? ⟨h, i * 5 + 2, none⟩ = some (.int .i64 0) ∧ W7.cell? ⟨h, i * 5 + 3, none⟩ = some (.int .i64 0) ∧ W7.cell? ⟨h, i * 5 + 4, none⟩ = some (.int .i64 0)) ∧
  (i < n → ∃ g, ao = some ⟨g, 0, none⟩ ∧ W7.cell? ⟨g, i * 5, none⟩ = some (.int .i64 (-7)) ∧ W7.cell? ⟨g, i * 5 + 1, none⟩ = some (.string X) ∧ W7.cell? ⟨g, i * 5 + 2, none⟩ = some (.int .i64 0) ∧ W7.cell? ⟨g, i * 5 + 3, none⟩ = some (.int .i64 0) ∧ W7.cell? ⟨g, i * 5 + 4, none⟩ = some (.int .i64 0))
theorem lookT_of {S : Nat → Prop} {W3 wr : World} {q p h0 h n vc ch i : Nat} {ao : Option Addr} (hd : Below W3.heap.size W3 wr) (hq : W3.cell? ⟨q, p, none⟩ = some (.slice ao n vc)) (hl : W3.cell? ⟨h0, p, none⟩ = some (.slice (some ⟨h, 0, none⟩) (n + 64) ch)) (hil : i < n + 64)
    (hc : ∀ (c : Nat) u, (Lk.mL mkT p (n + 64))[c]? = some u → W3.cell? ⟨h, c, none⟩ = some u)
    (ho : ∀ (c : Nat) u, (Lk.mL mkT p n)[c]? = some u → ∃ g cap, Value.slice ao n vc = .slice (some ⟨g, 0, none⟩) n cap ∧ S g ∧ W3.cell? ⟨g, c, none⟩ = some u) : LookT W3 wr q p h0 h n ao vc ch i ⟨(mtL p i).toArray⟩ := by
  intro w5 h5
  have far : ∀ {a : Addr} {u : Value} {V : World}, Below W3.heap.size W3 V → W3.cell? a = some u → V.cell? a = some u := fun hV hu => (hV.cell (Kt.lt_of_cell hu)).trans hu
  obtain ⟨W6, hW6⟩ : ∃ W6, w5.alloc (.cells (tkX 0 ⟨#[]⟩ 0 0 0) 30) = W6 := ⟨_, rfl⟩
  have n6 : W6.heap[w5.heap.size]? = some (.cells (tkX 0 ⟨#[]⟩ 0 0 0) 30 (0, 0)) := by rw [← hW6]; exact World.alloc_heap_new w5 _
  have b6 : Below w5.heap.size w5 W6 := by rw [← hW6]; exact (Below.refl _ w5).alloc (Nat.le_refl _) _
  have b57 := b6.trans (set5_below (V := W6) (Nat.le_refl w5.heap.size) (-7) ⟨(mtL p i).toArray⟩ 0 0 0)
  have z3 := hd.size
  have z5 := h5.size
  have b7 : Below W3.heap.size W3 (set5 W6 w5.heap.size (-7) ⟨(mtL p i).toArray⟩ 0 0 0) := (hd.trans (h5.mono z3)).trans (b57.mono (Nat.le_trans z3 z5))
  have st := store_new W6 w5.heap.size _ _ _ _ _ (-7) ⟨(mtL p i).toArray⟩ 0 0 0 n6
  have n7 := set5_at (-7) ⟨(mtL p i).toArray⟩ 0 0 0 n6
  obtain ⟨W7, hW7⟩ : ∃ W7, set5 W6 w5.heap.size (-7) ⟨(mtL p i).toArray⟩ 0 0 0 = W7 := ⟨_, rfl⟩
  rw [hW7] at b7 st n7
  refine ⟨W6, W7, hW6, st, n7, b7, far b7 hq, far b7 hl, mk_cells hil (fun c u hu => far b7 (hc c u hu)), fun hin => ?_⟩
  obtain ⟨g, e, hg⟩ := own_cells hin ho
  exact ⟨g, e, mk_cells hin (fun c u hu => far b7 (hg c u hu))⟩

set_option maxRecDepth 100000 in
set_option maxHeartbeats 8000000 in
theorem apartTokens_any (q mcap : Nat) (vs : List Value) (ns : Nat → Nat) (w : World) (hH : HandT q vs ns w) :
    Calls Tryz.prog 31 #[.slice (some ⟨q, 0, none⟩) vs.length mcap] w fun e w' => e = .returned (.bool true) ∧ Keep (Lk.Xs vs) w w' := by
  have HH := Lib.hid hH
  have hm := hH.few
  obtain ⟨m, hml⟩ : ∃ m, vs.length = m := ⟨_, rfl⟩
  rw [hml] at hm ⊢
  have HM := Lib.hid hml
  clear hH hml
  go_enter Tryz.func31, Tryz.ntmps31
  go_wp2
  go_loopw [3] (fun kv wr => ∃ k : Nat, k ≤ m ∧ kv = .int .i64 k ∧ MkT q vs ns w k 0 wr) (fun kv _ => m - (RowKit.intOf kv).toNat)
  case atStart => exact ⟨0, by omega, rfl, HH.out.mk0⟩
  case round =>
    obtain ⟨k, hk, rfl, hmk⟩ := hrel
    by_cases hlt : k < m
    · obtain ⟨v, hv⟩ : ∃ v, vs[k]? = some v := ⟨vs[k]'(by rw [HM.out]; exact hlt), List.getElem?_eq_getElem _⟩
      obtain ⟨hn, xs0, ho0⟩ := HH.out.own k v hv
      have HV := Lib.hid hv
      obtain ⟨n, hnn⟩ : ∃ n, ns k = n := ⟨_, rfl⟩
      have hsh : ∃ ao cap, v = .slice ao n cap := by
        rcases ho0.shape with ⟨h, h0⟩ | ⟨g, cap, h, _⟩
        · exact ⟨none, 0, by rw [h, ← hnn, h0]⟩
        · exact ⟨_, cap, by rw [h, hnn]⟩
      obtain ⟨ao, vc, rfl⟩ := hsh
      rw [hnn] at hn
      have HN := Lib.hid hnn
      have HK := Lib.hid hmk
      clear hv hnn ho0 hmk
      go_wp2
      go_loopw [4] (fun iv wr => ∃ i : Nat, i ≤ n ∧ iv = .int .i64 i ∧ MkT q vs ns w k i wr) (fun iv _ => n - (RowKit.intOf iv).toNat)
      case atStart => exact ⟨0, by omega, rfl, HK.out⟩
      case round =>
        clear HK
        obtain ⟨i, hi, rfl, hmk⟩ := hrel
        have hqc : wr.cell? ⟨q, k, none⟩ = some (.slice ao n vc) := by
          rw [Lib.cell_of_heap hmk.1]
          simpa using HV.out
        by_cases hil : i < n
        · obtain ⟨xs, ho, _⟩ := hmk.2.2 k _ HV.out
          rw [HN.out] at ho
          obtain ⟨g, rfl⟩ : ∃ g, ao = some ⟨g, 0, none⟩ := by
            rcases ho.shape with ⟨h, h0⟩ | ⟨g, cap, h, _⟩
            · omega
            · injection h with e1 _ _
              exact ⟨g, e1⟩
          have HS : Hid (∀ w5, Below (wr.drewN 1).heap.size (wr.drewN 1) w5 → w5.cell? ⟨q, k, none⟩ = some (.slice (some ⟨g, 0, none⟩) n vc) ∧ ∃ xs, OwnS (fun b => b ≠ q ∧ b < w.heap.size) 30 5 (.slice (some ⟨g, 0, none⟩) n vc) n xs w5 ∧ i * 5 + 4 < xs.length ∧ MkT q vs ns w k (i + 1) (Lk.setB w5 g (i * 5) (mkT k i))) := Lib.hid fun w5 h5 => by
            have hm5 := (hmk.call (below_drewN (Below.refl _ wr) 1)).call h5
            obtain ⟨xs5, ho5, _⟩ := hm5.2.2 k _ HV.out
            rw [HN.out] at ho5
            refine ⟨?_, xs5, ho5, ?_, hm5.store akT HH.out.apart (by rw [HN.out]; exact HV.out) (by rw [HN.out]; exact hil)⟩
            · rw [Lib.cell_of_heap hm5.1]
              simpa using HV.out
            · have := ho5.1.1
              omega
          have CM := Lib.hid (fun W => markTokens_any k i W (by omega) (by omega))
          have b0 : (0 : Int) ≤ (i : Int) := by omega
          have b1 : (i : Int) < (n : Int) := by omega
          generalize hX : mtL k i = X at *
          have HXX := Lib.hid hX
          clear hmk ho hX
          go_wp2
          go_region_with (first | (go_at_call 55; refine (CM.out _).mono ?_; rintro e w5 ⟨rfl, h5⟩; obtain ⟨hq5, xs5, ho5, hl5, hm5⟩ := HS.out w5 h5; obtain ⟨⟨u0, q0⟩, ⟨u1, q1⟩, ⟨u2, q2⟩, ⟨u3, q3⟩, ⟨u4, q4⟩, f0, f1, f2, f3, f4⟩ := five ho5 hl5 (.int .i64 (-7)) (.string ⟨X.toArray⟩) (.int .i64 0) (.int .i64 0) (.int .i64 0); have HE := Lib.hid hm5; clear hm5 ho5 hl5))
          all_goals
            have hE := HE.out
            have hse : Lk.setB w5 g (i * 5) (mkT k i) = ((((w5.setCell ⟨g, i * 5, none⟩ (.int .i64 (-7))).setCell ⟨g, i * 5 + 1, none⟩ (.string ⟨X.toArray⟩)).setCell ⟨g, i * 5 + 2, none⟩ (.int .i64 0)).setCell ⟨g, i * 5 + 3, none⟩ (.int .i64 0)).setCell ⟨g, i * 5 + 4, none⟩ (.int .i64 0) := by
              unfold mkT
              rw [HXX.out]
              rfl
            rw [hse] at hE
            have HE2 := Lib.hid hE
            clear hE hse q0 q1 q2 q3 q4 f0 f1 f2 f3 f4
            go_wp2
            go_roundw
            case rel => exact ⟨i + 1, by omega, by go_num, HE2.out⟩
            case measure => simp [RowKit.intOf]; omega
        · obtain rfl : i = n := by omega
          have HS := Lib.hid (hmk.start HN.out.symm)
          clear hmk
          go_wp2
          go_roundw
          case rel => exact ⟨k + 1, by omega, by go_num, HS.out⟩
          case measure => simp [RowKit.intOf]; omega
    · obtain rfl : k = m := by omega
      rw [← HM.out] at hmk
      have HG := Lib.hid hmk.gs0
      clear hmk
      go_wp2
      go_loopw [5, 6] (fun gv kv wr => ∃ (k' : Nat) (ao : Option Addr) (cp : Nat), k' ≤ k ∧ kv = .int .i64 k' ∧ gv = .slice ao k' cp ∧ GsT q vs ns w k' (.slice ao k' cp) wr) (fun _ kv _ => k - (RowKit.intOf kv).toNat)
      case atStart => exact ⟨0, none, 0, by omega, rfl, rfl, HG.out⟩
      case round =>
        clear HG
        obtain ⟨j, ag, cg, hj, rfl, rfl, hgs⟩ := hrel
        by_cases hjl : j < k
        · obtain ⟨v, hv⟩ : ∃ v, vs[j]? = some v := ⟨vs[j]'(by rw [HM.out]; exact hjl), List.getElem?_eq_getElem _⟩
          obtain ⟨hn, xs0, ho0⟩ := HH.out.own j v hv
          have HV := Lib.hid hv
          obtain ⟨n, hnn⟩ : ∃ n, ns j = n := ⟨_, rfl⟩
          obtain ⟨ao, vc, rfl⟩ : ∃ ao cap, v = .slice ao n cap := by
            rcases ho0.shape with ⟨h, h0⟩ | ⟨g, cap, h, _⟩
            · exact ⟨none, 0, by rw [h, ← hnn, h0]⟩
            · exact ⟨_, cap, by rw [h, hnn]⟩
          rw [hnn] at hn
          have HN := Lib.hid hnn
          have HI := Lib.hid (hgs.enter HH.out.apart hv)
          have hqc : wr.cell? ⟨q, j, none⟩ = some (.slice ao n vc) := by
            obtain ⟨S, gl, hb, _⟩ := hgs
            rw [Lib.cell_of_heap hb.row]
            simpa using HV.out
          clear hv hnn ho0 hgs
          go_wp2
          clear hqc
          go_loopw [7, 8] (fun g' iv wr => ∃ (i r : Nat) (a2 : Option Addr) (c2 : Nat), i ≤ 64 ∧ iv = .int .i64 i ∧ r = n + i ∧ g' = .slice a2 r c2 ∧ InT q vs ns w j i (.slice ag j cg) (.slice a2 r c2) wr) (fun _ iv _ => 64 - (RowKit.intOf iv).toNat)
          case atStart => exact ⟨0, n, ao, vc, by omega, rfl, rfl, rfl, HI.out⟩
          case round =>
            clear HI
            obtain ⟨i, r, a2, c2, hi, rfl, hr, rfl, hin⟩ := hrel
            by_cases hil : i < 64
            · have hqc : wr.cell? ⟨q, j, none⟩ = some (.slice ao n vc) := by
                obtain ⟨S, gl, hb, _⟩ := hin
                rw [Lib.cell_of_heap hb.row]
                simpa using HV.out
              have CM : Hid (∀ W, Calls Tryz.prog 55 #[.int .i64 (j : Nat), .int .i64 ((n : Int) + (i : Nat))] W fun e w' => e = .returned (tkA (-7) ⟨(mtL j (n + i)).toArray⟩ 0 0 0) ∧ Below W.heap.size W w') := Lib.hid (fun W => by
                have := markTokens_any j (n + i) W (by omega) (by omega)
                rw [Int.natCast_add] at this
                exact this)
              have HSt : Hid (∀ w5, Below wr.heap.size wr w5 → ∃ g cap w2, (∀ ty, (Builtin.append_ #[23, 23] ty #[.slice a2 r c2, .slice (some ⟨w5.heap.size, 0, none⟩) 1 1]).run Tryz.prog (w5.alloc (.cells (tkX (-7) ⟨(mtL j (n + i)).toArray⟩ 0 0 0) 30)) = .ok (.slice (some ⟨g, 0, none⟩) (n + (i + 1)) cap) w2) ∧ InT q vs ns w j (i + 1) (.slice ag j cg) (.slice (some ⟨g, 0, none⟩) (n + (i + 1)) cap) w2) := Lib.hid fun w5 h5 => by
                have := (hin.call h5).step akT (by rw [HN.out]; exact hn) hi
                rw [HN.out] at this
                exact this
              have HR := Lib.hid hr
              generalize mtL j (n + i) = X at *
              clear hin hr
              go_wp2_with (first | (go_at_call 55; refine (CM.out _).mono ?_; clear CM; rintro e w5 ⟨rfl, h5⟩; obtain ⟨g, cap, w2, hrun, hin2⟩ := HSt.out w5 h5; have HRun := Lib.hid hrun; have HI2 := Lib.hid hin2; clear hrun hin2 HSt) | (at_builtin; refine wpList_append_eq rfl rfl rfl rfl HRun.out ?_; clear HRun))
              go_roundw
              case rel => exact ⟨i + 1, n + (i + 1), _, cap, by omega, by go_num, rfl, rfl, HI2.out⟩
              case measure => simp [RowKit.intOf]; omega
            · obtain rfl : i = 64 := by omega
              obtain ⟨g, cap, w2, hrun, hgs2⟩ := hin.leave akT HH.out.apart (by omega)
              rw [HN.out, ← hr] at *
              have HRun := Lib.hid hrun
              have HG2 := Lib.hid hgs2
              clear hrun hgs2 hin hr
              go_wp2_with (at_builtin; refine wpList_append_eq rfl rfl rfl rfl HRun.out ?_)
              go_roundw
              case rel => exact ⟨j + 1, _, cap, by omega, by go_num, rfl, HG2.out⟩
              case measure => simp [RowKit.intOf]; omega
        · obtain rfl : j = k := by omega
          obtain ⟨S, gl, hb, _⟩ := hgs
          have HB := Lib.hid hb
          clear hb
          obtain ⟨W3, rfl⟩ : ∃ W3 : World, W3 = wr := ⟨_, rfl⟩
          go_wp2
          go_loopw [9] (fun kv wi => ∃ k' : Nat, k' ≤ j ∧ kv = .int .i64 k' ∧ Below W3.heap.size W3 wi) (fun kv _ => j - (RowKit.intOf kv).toNat)
          case atStart => exact ⟨0, by omega, rfl, Below.refl _ _⟩
          case round =>
            obtain ⟨p, hp, rfl, hd⟩ := hrel
            by_cases hpl : p < j
            · obtain ⟨⟨h, ch, hgl, hS, hcs⟩, hown⟩ := HB.out.done p hpl
              obtain ⟨v, hv⟩ : ∃ v, vs[p]? = some v := ⟨vs[p]'(by rw [HM.out]; exact hpl), List.getElem?_eq_getElem _⟩
              obtain ⟨hn, xs0, ho0⟩ := HH.out.own p v hv
              have hqc0 : W3.cell? ⟨q, p, none⟩ = some v := by
                rw [Lib.cell_of_heap HB.out.row]
                simpa using hv
              have HO := Lib.hid (hown v hv)
              clear hv hown
              obtain ⟨n, hnn⟩ : ∃ n, ns p = n := ⟨_, rfl⟩
              obtain ⟨ao, vc, rfl⟩ : ∃ ao cap, v = .slice ao n cap := by
                rcases ho0.shape with ⟨h, h0⟩ | ⟨g, cap, h, _⟩
                · exact ⟨none, 0, by rw [h, ← hnn, h0]⟩
                · exact ⟨_, cap, by rw [h, hnn]⟩
              rw [hnn] at hn hgl hcs HO
              obtain ⟨h0, rfl⟩ : ∃ h0, ag = some ⟨h0, 0, none⟩ := by
                rcases HB.out.list.shape with ⟨_, e⟩ | ⟨g, cap, e, _⟩
                · omega
                · injection e with e1 _ _
                  exact ⟨g, e1⟩
              have hlc0 : W3.cell? ⟨h0, p, none⟩ = some (.slice (some ⟨h, 0, none⟩) (n + 64) ch) := Lk.at_row HB.out.list hgl
              have HC := Lib.hid hcs
              have HF := Lib.hid (And.intro hqc0 hlc0)
              have HN := Lib.hid hnn
              have HD := Lib.hid hd
              clear hnn ho0 hgl hcs hlc0 hqc0 hS hd
              go_wp2
              go_loopw [10] (fun iv wj => ∃ i : Nat, i ≤ n + 64 ∧ iv = .int .i64 i ∧ Below W3.heap.size W3 wj) (fun iv _ => n + 64 - (RowKit.intOf iv).toNat)
              case atStart => exact ⟨0, by omega, rfl, HD.out⟩
              case round =>
                clear HD
                obtain ⟨i, hi, rfl, hd⟩ := hrel
                have far : ∀ {a : Addr} {u : Value} {V : World}, Below W3.heap.size W3 V → W3.cell? a = some u → V.cell? a = some u := fun hV hu => (hV.cell (Kt.lt_of_cell hu)).trans hu
                have hlc := far hd HF.out.2
                by_cases hil : i < n + 64
                · have CM := Lib.hid (fun W => markTokens_any p i W (by omega) (by omega))
                  have HST := Lib.hid (lookT_of hd HF.out.1 HF.out.2 hil HC.out HO.out)
                  have b0 : (0 : Int) ≤ (i : Int) := by omega
                  have b1 : (i : Int) < ((n + 64 : Nat) : Int) := by omega
                  have c0 : (0 : Int) ≤ (p : Int) := by omega
                  have c1 : (p : Int) < (j : Int) := by omega
                  generalize mtL p i = X at *
                  clear hd far
                  by_cases hin : i < n
                  · have hd1 : decide ((i : Int) < (n : Int)) = true := by simpa using hin
                    have b2 : (i : Int) < (n : Int) := by omega
                    go_wp2_with (first | (go_at_call 55; refine (CM.out _).mono ?_; clear CM; rintro e w5 ⟨rfl, h5⟩; obtain ⟨W6, W7, hW6, st, n7, b7, k1, k2, ⟨l0, l1, l2, l3, l4⟩, k3⟩ := HST.out w5 h5; obtain ⟨g, rfl, g0, g1, g2, g3, g4⟩ := k3 hin; obtain ⟨n5, hn5⟩ : ∃ n5, w5.heap.size = n5 := ⟨_, rfl⟩; rw [hn5] at st n7; obtain ⟨t0, t1, t2, t3, t4⟩ := cells5 n7; have ST := Lib.hid st; have HE := Lib.hid b7; clear st n7 b7 k3 h5 HST) | (refine wpList_store_eq rfl rfl rfl rfl rfl ST.out ?_; clear ST))
                    go_quiet (fail)
                    go_wp2
                    go_roundw
                    case rel => exact ⟨i + 1, by omega, by go_num, HE.out.trans (below_drewN (Below.refl _ _) _)⟩
                    case measure => simp [RowKit.intOf]; omega
                  · have hd1 : decide ((i : Int) < (n : Int)) = false := by simpa using hin
                    go_wp2_with (first | (go_at_call 55; refine (CM.out _).mono ?_; clear CM; rintro e w5 ⟨rfl, h5⟩; obtain ⟨W6, W7, hW6, st, n7, b7, k1, k2, ⟨l0, l1, l2, l3, l4⟩, k3⟩ := HST.out w5 h5; obtain ⟨n5, hn5⟩ : ∃ n5, w5.heap.size = n5 := ⟨_, rfl⟩; rw [hn5] at st n7; obtain ⟨t0, t1, t2, t3, t4⟩ := cells5 n7; have ST := Lib.hid st; have HE := Lib.hid b7; clear st n7 b7 k3 h5 HST) | (refine wpList_store_eq rfl rfl rfl rfl rfl ST.out ?_; clear ST))
                    go_quiet (fail)
                    go_wp2
                    go_roundw
                    case rel => exact ⟨i + 1, by omega, by go_num, HE.out.trans (below_drewN (Below.refl _ _) _)⟩
                    case measure => simp [RowKit.intOf]; omega
                · have HD := Lib.hid hd
                  clear hd far
                  go_wp2
                  go_roundw
                  case rel => exact ⟨p + 1, by omega, by go_num, HD.out⟩
                  case measure => simp [RowKit.intOf]; omega
            · go_wp2
              go_ret
              exact ⟨rfl, HB.out.keep.plus (Keep.of_all (X := fun _ => False) hd) (fun _ _ h => h.elim)⟩
end Go.Proofs.YtbnnhbmnddaafaaGreatDoor
