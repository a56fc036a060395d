/- Parts of the proof of what the last text says. -/
import Derived.Test.YtcfhblbmpbfoaaaGreatDoorDvx
namespace Go.Proofs.YtcfhblbmpbfoaaaGreatDoor
open Go Go.RowKit Go.Kt Go.Kt.Sg Go.Shelf Go.Lib Go.Sort Go.Kt.Rg Go.Maps
variable {md : MdT}

theorem full_head {S : RdS} {fl : Int → List Int} (hF : FullE S fl) {r : Int} {y : Nat} {t : List Nat} (h : dcpV S r = y :: t) : (fl r).head? = (fl (y : Int)).head? := by
  rw [hF.eq, if_neg (by rw [h]; simp), h, List.flatMap_cons]
  have := (hF.len (y : Int)).1
  cases h9 : fl (y : Int) with
  | nil => rw [h9] at this; cases this
  | cons a b => rfl
set_option maxRecDepth 100000 in
set_option maxHeartbeats 2000000 in
theorem nFirst {S : RdS} {fl : Int → List Int} {L : List Nat} {gp : Nat} (hN : PrN S fl L) (w : World) (hP : PrW gp S md w) (r : Int) (hr : I32 r) :
    Calls Tryz.prog 43 #[.pointer (some ⟨gp, 0, none⟩), .int .i32 r] w fun e w' => ∃ z, (fl r).head? = some z ∧ e = .returned (.int .i32 z) ∧ Below w.heap.size w w' := by
  obtain ⟨F, hF⟩ := hN.fe.fin
  have CD : Hid (∀ x W, I32 x → Below w.heap.size w W → Calls Tryz.prog 60 #[.pointer (some ⟨gp, 0, none⟩), .int .i32 x] W fun e w' => ∃ ao cp, e = .returned (.slice ao (dcpV S x).length cp) ∧ Sl .i32 w' (.slice ao (dcpV S x).length cp) (toZ (dcpV S x)) ∧ Below w.heap.size w w') :=
    Lib.hid fun x W hx hb => (pdcpP W (hP.below hb) hN.hd x hx).mono fun e w' ⟨h1, h2⟩ => by
      obtain ⟨v, h3, h4⟩ := h1.sl
      obtain ⟨ao, cp, h5, _⟩ := h1
      rw [toZ_len] at h5
      rw [h5] at h3
      injection h3 with h3
      subst h3
      exact ⟨ao, cp, h5, h4, hb.trans (h2.mono hb.size)⟩
  have HN := Lib.hid (And.intro hN (And.intro hF hr))
  clear hN hP hF hr
  go_enter Tryz.func43, Tryz.ntmps43
  go_wp2_with fail
  refine (CD.out r w HN.out.2.2 (Below.refl _ _)).mono ?_
  rintro e w1 ⟨ao, cp, rfl, hs, hb⟩
  have H1 := Lib.hid (And.intro hs hb)
  clear hs hb
  go_wp2_with fail
  go_loopg [1, 5] F (fun kx s v wr => ∃ (x : Int) (a5 : Option Addr) (m5 c5 : Nat), s = .int .i32 x ∧ v = .slice a5 m5 c5 ∧ m5 = (dcpV S x).length ∧ Hid (EndP S kx x ∧ I32 x ∧ (fl x).head? = (fl r).head? ∧ Sl .i32 wr (.slice a5 m5 c5) (toZ (dcpV S x)) ∧ Below w.heap.size w wr))
  case atStart => exact ⟨r, ao, _, cp, rfl, rfl, rfl, Lib.hid ⟨HN.out.2.1 r, HN.out.2.2, rfl, H1.out.1, H1.out.2⟩⟩
  case round =>
    obtain ⟨x, a5, m5, c5, rfl, rfl, hm5, hI⟩ := hrel
    cases hd : dcpV S x with
    | nil =>
      rw [hd] at hm5
      have hm0 : m5 = 0 := hm5
      have HD := Lib.hid hd
      clear hd hm5
      subst hm0
      go_wp2
      go_ret
      refine ⟨x, ?_, rfl, hI.out.2.2.2.2⟩
      rw [← hI.out.2.2.1, HN.out.1.fe.eq, if_pos HD.out]; rfl
    | cons y t =>
      rw [hd] at hm5
      have hm1 : 0 < m5 := by rw [hm5]; simp
      have hs := hI.out.2.2.2.1
      rw [hd] at hs
      obtain ⟨ao9, cp9, e9, hc⟩ := hs
      injection e9 with e1 e2 e3
      subst e1 e3
      obtain ⟨g, off, rfl, c0⟩ : ∃ g off, a5 = some ⟨g, off, none⟩ ∧ wr.cell? ⟨g, off, none⟩ = some (.int .i32 (y : Nat)) := by
        rcases hc with h | ⟨g, off, e, h⟩
        · cases h
        · exact ⟨g, off, e, by have := h 0 (y : Int) rfl; rwa [Nat.add_zero] at this⟩
      have hend : EndP S (gk - 1) (y : Int) ∧ 0 < gk := by
        have h9 := hI.out.1
        cases gk with
        | zero => exact h9.elim
        | succ f => exact ⟨by rw [Nat.add_sub_cancel]; exact h9 y (by rw [hd]; exact List.mem_cons_self), by omega⟩
      have hy : I32 (y : Int) := by
        have := HN.out.1.vy x y (by rw [hd]; exact List.mem_cons_self)
        exact ⟨by omega, by omega⟩
      have hh : (fl (y : Int)).head? = (fl r).head? := by rw [← full_head HN.out.1.fe hd]; exact hI.out.2.2.1
      have CQ := Lib.hid (CD.out (y : Int) wr hy hI.out.2.2.2.2)
      have HY := Lib.hid (And.intro hend (And.intro hy hh))
      clear hc hd hend hy hh hm5 e2
      go_wp2_with fail
      refine CQ.out.mono ?_
      rintro e w3 ⟨ao3, cp3, rfl, hs3, hb3⟩
      have H3 := Lib.hid (And.intro hs3 hb3)
      clear hs3 hb3
      go_wp2
      go_roundg (gk - 1)
      case measure => have := HY.out.1.2; omega
      case rel => exact ⟨(y : Int), ao3, _, cp3, rfl, rfl, rfl, Lib.hid ⟨HY.out.1.1, HY.out.2.1, HY.out.2.2, H3.out.1, H3.out.2⟩⟩
def cutP (S : RdS) (fl : Int → List Int) (l : List Int) (t : Int) : Bool :=
  if t < 0 ∨ (l.length : Int) < t then false else if t = 0 ∨ t = (l.length : Int) then true else clsV S ((fl (l[t.toNat]?.getD 0)).head?.getD 0) == 0
set_option maxRecDepth 100000 in
set_option maxHeartbeats 2000000 in
theorem nCut {S : RdS} {fl : Int → List Int} {L : List Nat} {gp : Nat} (hN : PrN S fl L) (w : World) (hP : PrW gp S md w) (v : Value) (l : List Int) (hl : Slg .i32 w v l) (hr : ∀ r ∈ l, I32 r) (_hz : l.length ≤ 268435456) (t : Int) :
    Calls Tryz.prog 18 #[.pointer (some ⟨gp, 0, none⟩), v, .int .i64 t] w fun e w' => e = .returned (.bool (cutP S fl l t)) ∧ Below w.heap.size w w' := by
  obtain ⟨ao, cap, rfl, hc⟩ := hl
  obtain ⟨n, hn⟩ : ∃ n, l.length = n := ⟨_, rfl⟩
  have hcut : cutP S fl l t = if t < 0 ∨ (n : Int) < t then false else if t = 0 ∨ t = (n : Int) then true else clsV S ((fl (l[t.toNat]?.getD 0)).head?.getD 0) == 0 := by unfold cutP; rw [hn]
  rw [hn, hcut]
  by_cases h1 : t < 0
  · rw [if_pos (.inl h1)]
    clear hc hcut
    go_enter Tryz.func18, Tryz.ntmps18
    go_wp2
    go_ret
    exact ⟨rfl, Below.refl _ _⟩
  · by_cases h2 : (n : Int) < t
    · rw [if_pos (.inr h2)]
      clear hc hcut
      go_enter Tryz.func18, Tryz.ntmps18
      go_wp2
      go_ret
      exact ⟨rfl, Below.refl _ _⟩
    · rw [if_neg (by omega)]
      by_cases h3 : t = 0
      · rw [if_pos (.inl h3)]
        subst h3
        clear hc hcut
        go_enter Tryz.func18, Tryz.ntmps18
        go_wp2
        go_ret
        exact ⟨rfl, Below.refl _ _⟩
      · by_cases h4 : t = (n : Int)
        · rw [if_pos (.inr h4)]
          have h30 : (t == 0) = false := by simp only [beq_eq_false_iff_ne, ne_eq]; exact h3
          subst h4
          have hnn : ¬ (n : Int) = 0 := h3
          clear hc hcut
          go_enter Tryz.func18, Tryz.ntmps18
          go_wp2
          go_ret
          exact ⟨rfl, Below.refl _ _⟩
        · rw [if_neg (by omega)]
          obtain ⟨i, rfl⟩ : ∃ i : Nat, t = (i : Int) := ⟨t.toNat, by omega⟩
          have hin : i < n := by omega
          obtain ⟨r, hri⟩ : ∃ r, l[i]? = some r := ⟨_, List.getElem?_eq_getElem (by rw [hn]; exact hin)⟩
          obtain ⟨ga, rfl, c0⟩ : ∃ ga : Addr, ao = some ga ∧ w.cell? (ga.add i) = some (.int .i32 r) := by
            rcases hc with h | ⟨ga, e, h⟩
            · rw [h] at hri; cases hri
            · exact ⟨ga, e, h i r hri⟩
          have CF := Lib.hid (nFirst hN w hP r (hr r (List.mem_of_getElem? hri)))
          have HO := Lib.hid (And.intro hP hri)
          have q1 : ((i : Int) == 0) = false := by simp only [beq_eq_false_iff_ne, ne_eq]; exact h3
          have q2 : ((i : Int) == (n : Int)) = false := by simp only [beq_eq_false_iff_ne, ne_eq]; exact h4
          clear hc hcut hN hP hr hri
          go_enter Tryz.func18, Tryz.ntmps18
          go_wp2_with fail
          refine CF.out.mono ?_
          rintro e w1 ⟨z, hz1, rfl, hb⟩
          have CC := Lib.hid (pclsP w1 (HO.out.1.below hb) z)
          have H1 := Lib.hid (And.intro hz1 hb)
          clear hz1 hb
          go_wp2_with fail
          refine CC.out.mono ?_
          rintro e w2 ⟨rfl, hb2⟩
          have H2 := Lib.hid hb2
          clear hb2
          go_wp2
          go_ret
          refine ⟨?_, H1.out.2.trans (H2.out.mono H1.out.2.size)⟩
          rw [Int.toNat_natCast, HO.out.2, Option.getD_some, H1.out.1]; rfl
end Go.Proofs.YtcfhblbmpbfoaaaGreatDoor
namespace Go.Proofs.YtcfhblbmpbfoaaaGreatDoor
open Go Go.RowKit Go.Kt Go.Kt.Sg Go.Shelf Go.Lib Go.Sort Go.Kt.Rg Go.Maps
variable {md : MdT}

structure StM (gp gs H : Nat) (R : List Pt) (v : Value) (w : World) : Prop where
  cell : w.heap[gs]? = some (.cells #[.pointer (some ⟨gp, 0, none⟩), v] 75 (0, 0))
  row : OwnS (fun b => H ≤ b ∧ b ≠ gs) 78 2 v R.length (encRN R) w
  gs : H ≤ gs
theorem StM.below {gp gs H : Nat} {R : List Pt} {v : Value} {w w' : World} (h : StM gp gs H R v w) (k : Below w.heap.size w w') : StM gp gs H R v w' :=
  have kk : Keep (fun _ => False) w w' := Keep.of_all k
  ⟨kk.heap h.cell (fun h => h), h.row.keep kk (fun _ h => h.elim), h.gs⟩
theorem StM.gl {gp gs H : Nat} {R : List Pt} {v : Value} {w : World} (h : StM gp gs H R v w) : gs < w.heap.size := (Array.getElem?_eq_some_iff.1 h.cell).1
theorem StM.own_lt {gp gs H : Nat} {R : List Pt} {v : Value} {w : World} (h : StM gp gs H R v w) (b : Nat) (hb : v.ownBlock = some b) : H ≤ b ∧ b ≠ gs ∧ b < w.heap.size := by
  have h1 := h.row.2 b hb
  refine ⟨h1.1, h1.2, ?_⟩
  rcases h.row.shape with ⟨e, _⟩ | ⟨g, c, e, _, h2⟩
  · rw [e] at hb; simp [Value.ownBlock] at hb
  · rw [e] at hb; simp [Value.ownBlock] at hb; omega
def TakeO (gp gs H : Nat) (A : List Int) (R : List Pt) (Z : Nat → Prop) (w : World) (e : Ending) (w' : World) : Prop :=
  ∃ M v', w.heap.size ≤ M ∧ M ≤ w'.heap.size ∧ NewZ M A e w' ∧ StM gp gs H R v' w' ∧ (∀ b, v'.ownBlock = some b → b < M) ∧ Keep Z w w'
theorem keep_trans2 {X Y : Nat → Prop} {A B C : World} (h : Keep X A B) (k : Keep Y B C) (hY : ∀ b, b < A.heap.size → Y b → X b) : Keep X A C :=
  ⟨k.os.trans h.os, k.tape.trans h.tape, k.output.trans h.output, Nat.le_trans h.size k.size, fun b hb hX => (k.same b (Nat.lt_of_lt_of_le hb h.size) fun hy => hX (hY b hb hy)).trans (h.same b hb hX)⟩
set_option maxRecDepth 100000 in
theorem nNew (gp : Nat) (w : World) : Calls Tryz.prog 25 #[.pointer (some ⟨gp, 0, none⟩)] w fun e w' => ∃ gs, e = .returned (.pointer (some ⟨gs, 0, none⟩)) ∧ w.heap.size ≤ gs ∧ StM gp gs w.heap.size [] (.slice none 0 0) w' ∧ Below w.heap.size w w' := by
  go_enter Tryz.func25, Tryz.ntmps25
  go_wp2
  go_ret
  exact ⟨w.heap.size, rfl, Nat.le_refl _, ⟨World.alloc_heap_new w _, own_nil _ _ _ _, Nat.le_refl _⟩, (Below.refl _ w).alloc (Nat.le_refl _) _⟩
theorem app_nil {g o c : Nat} {X : List Pt} {W : World} (hu : RowV W (.slice (some ⟨g, o, none⟩) X.length c) X) (hz : X.length ≤ 4294967296) :
    ∃ ao cap w', (∀ ty, (Builtin.append_ #[61, 61] ty #[.slice none 0 0, .slice (some ⟨g, o, none⟩) X.length c]).run Tryz.prog W = .ok (.slice ao X.length cap) w') ∧
      OwnS (fun b => W.heap.size ≤ b) 78 2 (.slice ao X.length cap) X.length (encRN X) w' ∧ Below W.heap.size W w' := by
  by_cases hX : X = []
  · subst hX
    obtain ⟨i, hi, hz2, hs1, hb1⟩ := info_parts tinfoN
    obtain ⟨v', w', hrun, r1, r2, r3⟩ := run_append_own (P := Tryz.prog) W 0 61 0 78 i _ 2 16 Tryz.underlying61 hi hz2 hs1 hb1 rfl (by decide) (.slice none 0 0) 0 [] (own_nil 78 2 W (fun _ => True)).1 ⟨g, o, none⟩ 0 c [] rfl (fun j u h => by simp at h) (fun u h => by simp at h) (by unfold maxLen; omega) (by omega) (Nat.zero_le _)
    obtain rfl := r3.2 ⟨rfl, rfl⟩
    exact ⟨none, 0, w', fun ty => hrun, own_nil _ _ _ _, (keep_grown r2).below (Nat.le_refl _) (fun b hb => by cases hb)⟩
  · obtain ⟨ao, cap, w', h1, h2, h3⟩ := app_rows (R := []) (own_nil 78 2 W (fun _ => True)) hu hX (by simpa using hz)
    rw [List.nil_append] at h1 h2
    refine ⟨ao, cap, w', h1, h2.weaken (fun b hb => ?_), h3.below (Nat.le_refl _) (fun b hb => by cases hb)⟩
    rcases hb with hb | hb
    · cases hb
    · exact hb
set_option maxRecDepth 100000 in
set_option maxHeartbeats 2000000 in
theorem nTake {gp gs H : Nat} {R : List Pt} {v : Value} (w : World) (h : StM gp gs H R v w) (hH : H ≤ w.heap.size) (n : Nat) (hn : n ≤ R.length) (hz : R.length ≤ 4294967296) :
    Calls Tryz.prog 50 #[.pointer (some ⟨gs, 0, none⟩), .int .i64 n] w (TakeO gp gs H (barP (ordL [] (R.take n))) (R.drop n) (fun b => b = gs ∨ v.ownBlock = some b) w) := by
  by_cases h0 : n = 0
  · subst h0
    have HO := Lib.hid (And.intro h hH)
    clear h hH hn hz
    go_enter Tryz.func50, Tryz.ntmps50
    go_wp2
    go_ret
    refine ⟨w.heap.size, v, Nat.le_refl _, Nat.le_refl _, ⟨none, 0, ?_, own_nil _ _ _ _⟩, by rw [List.drop_zero]; exact HO.out.1, fun b hb => (HO.out.1.own_lt b hb).2.2, Keep.refl _ _⟩
    rw [List.take_zero]; rfl
  · obtain ⟨m, hm⟩ : ∃ m, R.length = m := ⟨_, rfl⟩
    have hnz : ((n : Int) == 0) = false := by simp only [beq_eq_false_iff_ne, ne_eq]; omega
    obtain ⟨g0, cap, hv, hY, hg0⟩ : ∃ g0 cap, v = .slice (some ⟨g0, 0, none⟩) m cap ∧ (H ≤ g0 ∧ g0 ≠ gs) ∧ g0 < w.heap.size := by
      rcases h.row.shape with ⟨_, h9⟩ | ⟨g, c, e, h1, h2⟩
      · omega
      · exact ⟨g, c, by rw [e, hm], h1, h2⟩
    subst hv
    have hrv := rowV_own h.row
    rw [hm] at hn hz
    obtain ⟨hcm, hrm⟩ : m ≤ cap ∧ RowM w g0 0 R := by
      obtain ⟨p, c, e, h1, h2⟩ := hrv
      injection e with e1 e2 e3
      subst e1 e3
      rcases h2 with h2 | ⟨g, o, e4, _, h2⟩
      · rw [h2] at hm; simp at hm; omega
      · injection e4 with e4; injection e4 with e5 e6; subst e5 e6
        exact ⟨by omega, h2⟩
    have hcz : cap ≤ 9223372036854775807 := by
      rcases h.row.1.2 with ⟨e9, _⟩ | ⟨g9, c9, cur, e9, _, _, _, hm9, _⟩
      · cases e9
      · injection e9 with _ _ e8; subst e8; unfold maxLen at hm9; omega
    -- what is left, copied
    have hdl : (R.drop n).length = m - n := by rw [List.length_drop, hm]
    have hsg : RowM w g0 (n * 2) (R.drop n) := by
      have := hrm.seg n m
      rw [Nat.zero_add] at this
      rwa [show seg R n m = R.drop n by unfold seg; rw [List.take_of_length_le (by omega)]] at this
    have hap : ∀ o c, (o = n * 2 ∨ m = n) → m - n ≤ c → ∃ ao cp w1, (∀ ty, (Builtin.append_ #[61, 61] ty #[.slice none 0 0, .slice (some ⟨g0, o, none⟩) (m - n) c]).run Tryz.prog w = .ok (.slice ao (m - n) cp) w1) ∧
        OwnS (fun b => w.heap.size ≤ b) 78 2 (.slice ao (m - n) cp) (m - n) (encRN (R.drop n)) w1 ∧ Below w.heap.size w w1 := fun o c ho hc => by
      have hu : RowV w (.slice (some ⟨g0, o, none⟩) (R.drop n).length c) (R.drop n) := by
        refine ⟨_, _, rfl, by omega, ?_⟩
        rcases ho with rfl | ho
        · exact .inr ⟨g0, n * 2, rfl, hg0, hsg⟩
        · exact .inl (List.eq_nil_of_length_eq_zero (by omega))
      have := app_nil hu (by omega)
      rwa [hdl] at this
    have HO := Lib.hid (And.intro h (And.intro hH (And.intro hm (And.intro hY (And.intro hg0 hrm)))))
    have c1 : w.cell? ⟨gs, 1, none⟩ = some (.slice (some ⟨g0, 0, none⟩) m cap) := by rw [Lib.cell_of_heap h.cell]; rfl
    -- behind the store
    have fin : ∀ ao cp w1, OwnS (fun b => w.heap.size ≤ b) 78 2 (.slice ao (m - n) cp) (m - n) (encRN (R.drop n)) w1 → Below w.heap.size w w1 → (w1.cell? ⟨gs, 1, none⟩ = some (.slice (some ⟨g0, 0, none⟩) m cap) ∧ w1.frozen? ⟨gs, 1, none⟩ = false) ∧
        StM gp gs H (R.drop n) (.slice ao (m - n) cp) (w1.setCell ⟨gs, 1, none⟩ (.slice ao (m - n) cp)) ∧ RowM (w1.setCell ⟨gs, 1, none⟩ (.slice ao (m - n) cp)) g0 0 (R.take n) ∧ Keep (fun b => b = gs) w (w1.setCell ⟨gs, 1, none⟩ (.slice ao (m - n) cp)) ∧ ∀ b, (Value.slice ao (m - n) cp).ownBlock = some b → w.heap.size ≤ b := fun ao cp w1 ho hb => by
      have hc1 : w1.heap[gs]? = some (.cells #[.pointer (some ⟨gp, 0, none⟩), .slice (some ⟨g0, 0, none⟩) m cap] 75 (0, 0)) := (hb.block gs h.gl).trans h.cell
      have hk : Keep (fun b => b = gs) w (w1.setCell ⟨gs, 1, none⟩ (.slice ao (m - n) cp)) := (Keep.of_all hb).trans (Keep.setCell (X := fun b => b = gs) (Keep.refl _ w1) (p := ⟨gs, 1, none⟩) rfl _)
      refine ⟨⟨by rw [Lib.cell_of_heap hc1]; rfl, Lib.frozen_of_heap hc1 _⟩, ⟨?_, ?_, h.gs⟩, ?_, hk, ho.2⟩
      · have := heap_setCell_same w1 gs 1 _ _ (.slice ao (m - n) cp) hc1
        simpa using this
      · rw [hdl]
        have hkk : Keep (fun b => b = gs) w1 (w1.setCell ⟨gs, 1, none⟩ (.slice ao (m - n) cp)) := Keep.setCell (X := fun b => b = gs) (Keep.refl _ w1) (p := ⟨gs, 1, none⟩) rfl _
        exact (ho.keep hkk (fun b hb9 hy => by have := h.gl; omega)).weaken (fun b hb9 => ⟨by omega, by have := h.gl; omega⟩)
      · have := (hrm.seg 0 n).keep hg0 hk hY.2
        rw [Nat.zero_mul, Nat.zero_add] at this
        rwa [show seg R 0 n = R.take n by unfold seg; rw [List.drop_zero]] at this
    have HAP := Lib.hid hap
    have HF := Lib.hid fin
    have htl : (R.take n).length = n := by rw [List.length_take]; omega
    -- the end of it
    have END : Hid (∀ ao cp w1, OwnS (fun b => w.heap.size ≤ b) 78 2 (.slice ao (m - n) cp) (m - n) (encRN (R.drop n)) w1 → Below w.heap.size w w1 → Calls Tryz.prog 70 #[.slice (some ⟨g0, 0, none⟩) n cap] (w1.setCell ⟨gs, 1, none⟩ (.slice ao (m - n) cp)) fun e w' => e = .returned (.tuple #[]) ∧
        RowV w' (.slice (some ⟨g0, 0, none⟩) n cap) (ordL [] (R.take n)) ∧ StM gp gs H (R.drop n) (.slice ao (m - n) cp) w' ∧ Keep (fun b => b = gs ∨ b = g0) w w' ∧ ∀ b, (Value.slice ao (m - n) cp).ownBlock = some b → b < w'.heap.size) := Lib.hid fun ao cp w1 ho hb => by
      obtain ⟨_, f1, f2, f3, f4⟩ := fin ao cp w1 ho hb
      refine Calls.mono (nOrder g0 0 cap n (R.take n) _ f2 htl (Nat.lt_of_lt_of_le hg0 f3.size) (by omega) (by omega)) ?_
      rintro e w' ⟨rfl, h1, h2⟩
      have hlo : (ordL [] (R.take n)).length = n := by rw [ordL_len, htl]; simp
      refine ⟨rfl, ⟨_, _, by rw [hlo], by omega, .inr ⟨g0, 0, rfl, Nat.lt_of_lt_of_le (Nat.lt_of_lt_of_le hg0 f3.size) h2.size, h1⟩⟩, ⟨h2.heap f1.cell (fun e => hY.2 e.symm), f1.row.keepX h2 (fun b hb9 hy => by have := f4 b hy; omega), f1.gs⟩, ?_, fun b hb9 => Nat.lt_of_lt_of_le (f1.own_lt b hb9).2.2 h2.size⟩
      exact (f3.weaken fun b _ hb9 => .inl hb9).trans (h2.weaken fun b _ hb9 => .inr hb9)
    have HTL := Lib.hid htl
    clear h hH hm hY hg0 hrm hrv hap fin hsg hdl htl
    have hca : cap = n ∨ ¬ cap = n := by omega
    rcases hca with hca | hca

    · have hmn : m = n := by omega
      subst hca
      subst hmn
      have HF2 := HF.out
      have EN2 := END.out
      have HA2 := HAP.out 0 0 (.inr rfl) (by omega)
      rw [Nat.sub_self] at HF2 EN2 HA2
      obtain ⟨ao, cp, w1, hrun, ho, hb⟩ := HA2
      obtain ⟨⟨z1, z2⟩, _, _, _, _⟩ := HF2 ao cp w1 ho hb
      have CO := Lib.hid (EN2 ao cp w1 ho hb)
      clear HF2 EN2
      have HR := Lib.hid hrun
      clear hrun ho hb
      go_enter Tryz.func50, Tryz.ntmps50
      go_wp2_with (first | (at_builtin; refine wpList_append_eq rfl rfl rfl rfl HR.out ?_) | fail)
      refine CO.out.mono ?_
      rintro e w2 ⟨rfl, h1, h2, h3, h4⟩
      have CB := Lib.hid (nBare _ _ w2 h1 (by rw [ordL_len, HTL.out]; simp; omega))
      have H2 := Lib.hid (And.intro h2 (And.intro h3 h4))
      clear h1 h2 h3 h4 CO
      go_wp2_with fail
      refine CB.out.mono ?_
      rintro e w3 ⟨⟨a3, c3, rfl, ho3⟩, hb3⟩
      have H3 := Lib.hid (And.intro ho3 hb3)
      clear ho3 hb3
      go_wp2
      go_ret
      exact ⟨w2.heap.size, _, H2.out.2.1.size, H3.out.2.size, ⟨a3, c3, rfl, H3.out.1⟩, H2.out.1.below H3.out.2, H2.out.2.2, (H2.out.2.1.trans (Keep.of_all H3.out.2)).weaken fun b _ hb => hb.imp id fun e => by rw [e]; rfl⟩
    · obtain ⟨ao, cp, w1, hrun, ho, hb⟩ := HAP.out (n * 2) (cap - n) (.inl rfl) (by omega)
      obtain ⟨⟨z1, z2⟩, _, _, _, _⟩ := HF.out ao cp w1 ho hb
      have CO := Lib.hid (END.out ao cp w1 ho hb)
      have HR := Lib.hid hrun
      clear hrun ho hb
      go_enter Tryz.func50, Tryz.ntmps50
      go_wp2_with (first | (at_builtin; refine wpList_append_eq rfl rfl rfl rfl HR.out ?_) | fail)
      refine CO.out.mono ?_
      rintro e w2 ⟨rfl, h1, h2, h3, h4⟩
      have CB := Lib.hid (nBare _ _ w2 h1 (by rw [ordL_len, HTL.out]; simp; omega))
      have H2 := Lib.hid (And.intro h2 (And.intro h3 h4))
      clear h1 h2 h3 h4 CO
      go_wp2_with fail
      refine CB.out.mono ?_
      rintro e w3 ⟨⟨a3, c3, rfl, ho3⟩, hb3⟩
      have H3 := Lib.hid (And.intro ho3 hb3)
      clear ho3 hb3
      go_wp2
      go_ret
      exact ⟨w2.heap.size, _, H2.out.2.1.size, H3.out.2.size, ⟨a3, c3, rfl, H3.out.1⟩, H2.out.1.below H3.out.2, H2.out.2.2, (H2.out.2.1.trans (Keep.of_all H3.out.2)).weaken fun b _ hb => hb.imp id fun e => by rw [e]; rfl⟩
set_option maxRecDepth 100000 in
set_option maxHeartbeats 1000000 in
theorem nEnd {gp gs H : Nat} {R : List Pt} {v : Value} (w : World) (h : StM gp gs H R v w) (hH : H ≤ w.heap.size) (hz : R.length ≤ 4294967296) :
    Calls Tryz.prog 28 #[.pointer (some ⟨gs, 0, none⟩)] w (TakeO gp gs H (barP (ordL [] R)) [] (fun b => b = gs ∨ v.ownBlock = some b) w) := by
  have CT := Lib.hid (nTake w h hH R.length (Nat.le_refl _) hz)
  rw [List.take_length, List.drop_length] at CT
  have c1 : w.cell? ⟨gs, 1, none⟩ = some v := by rw [Lib.cell_of_heap h.cell]; rfl
  obtain ⟨av, cv, hv⟩ := own_slc h.row
  subst hv
  clear h hz hH
  go_enter Tryz.func28, Tryz.ntmps28
  go_wp2_with fail
  refine CT.out.mono ?_
  rintro e w1 ⟨M, v', h1, h2, ⟨ao, cp, rfl, ho⟩, h3⟩
  have H1 := Lib.hid (And.intro h1 (And.intro h2 (And.intro ho h3)))
  clear h1 h2 ho h3
  go_wp2
  go_ret
  exact ⟨M, v', H1.out.1, H1.out.2.1, ⟨ao, cp, rfl, H1.out.2.2.1⟩, H1.out.2.2.2⟩
end Go.Proofs.YtcfhblbmpbfoaaaGreatDoor
