/- The walk of UtfCuts. -/
import Derived.Test.YtdcpbogabgnooaaDoorCb
import Derived.Test.YtdcpbogabgnooaaDoorCd
import Derived.Laws.MakeOwn
import Derived.Sort.QuietIn
import Derived.Sort.QuietTacIn
namespace Go.Proofs.YtdcpbogabgnooaaDoor
open Go Go.RowKit Go.Kt Go.Shelf
attribute [local go_sem] Oper.semAt_some

theorem tinfo4 : (Tryd.prog.info? 4).map (fun i => (i.zero, i.size, i.bytes)) = some (some (.bool false), 1, 1) := by kernel_rfl
theorem tinfo21 : (Tryd.prog.info? 21).map (fun i => (i.zero, i.size, i.bytes)) = some (some (.int .i32 0), 1, 4) := by kernel_rfl

/-- The block m holds a row of places. -/
def Plc (m : Nat) (s : ByteArray) (p : Nat → Bool) (W : World) : Prop :=
  ∃ c : Array Value, W.heap[m]? = some (.cells c 4 (0, 0)) ∧ ∀ i, i ≤ s.size → c[i]? = some (.bool (p i))
theorem Plc.keep {m : Nat} {s : ByteArray} {p : Nat → Bool} {X : Nat → Prop} {A B : World} (h : Plc m s p A) (hk : Keep X A B) (hX : ¬ X m) : Plc m s p B := by
  obtain ⟨c, h1, h2⟩ := h
  exact ⟨c, hk.heap h1 hX, h2⟩
theorem Plc.cell {m : Nat} {s : ByteArray} {p : Nat → Bool} {W : World} (h : Plc m s p W) {i : Nat} (hi : i ≤ s.size) : W.cell? ⟨m, i, none⟩ = some (.bool (p i)) := by
  obtain ⟨c, h1, h2⟩ := h
  rw [Lib.cell_of_heap h1]; exact h2 i hi
theorem Plc.frozen {m : Nat} {s : ByteArray} {p : Nat → Bool} {W : World} (h : Plc m s p W) (i : Nat) : W.frozen? ⟨m, i, none⟩ = false := by
  obtain ⟨c, h1, h2⟩ := h
  exact Lib.frozen_of_heap h1 i
theorem Plc.set {m : Nat} {s : ByteArray} {p : Nat → Bool} {W : World} (h : Plc m s p W) {j : Nat} (_ : j ≤ s.size) : Plc m s (fun i => p i || i == j) (W.setCell ⟨m, j, none⟩ (.bool true)) := by
  obtain ⟨c, h1, h2⟩ := h
  refine ⟨c.setIfInBounds j (.bool true), by simp [World.setCell, Array.getElem?_modify, h1], fun i hi => ?_⟩
  rw [Array.getElem?_setIfInBounds]
  have := h2 i hi
  have hlt := (Array.getElem?_eq_some_iff.1 this).1
  by_cases e : j = i
  · subst e; rw [if_pos rfl, if_pos hlt]; simp
  · rw [if_neg e, this]
    have : (i == j) = false := by simp; omega
    simp [this]
theorem Plc.congr {m : Nat} {s : ByteArray} {p q : Nat → Bool} {W : World} (h : Plc m s p W) (e : ∀ i, i ≤ s.size → p i = q i) : Plc m s q W := by
  obtain ⟨c, h1, h2⟩ := h
  exact ⟨c, h1, fun i hi => by rw [← e i hi]; exact h2 i hi⟩

theorem units_lt (s : ByteArray) : ∀ f i p, p ∈ unitsF s f i → p.1 < s.size
  | 0, _, p, h => by simp [unitsF] at h
  | f + 1, i, p, h => by
    rw [unitsF] at h
    split at h
    · rcases List.mem_cons.1 h with h | h
      · subst h; assumption
      · exact units_lt s f _ p h
    · simp at h

/-- Which places are marked once the units pre have been gone through. -/
def pcs (s : ByteArray) (pre : List (Nat × Nat)) (i : Nat) : Bool := (pre.map fun p => p.1).contains i || (i == s.size || i == 0)
theorem pcs_snoc (s : ByteArray) (pre : List (Nat × Nat)) (p : Nat × Nat) (i : Nat) : pcs s (pre ++ [p]) i = (pcs s pre i || i == p.1) := by
  unfold pcs
  rw [List.map_append, List.map_cons, List.map_nil, Bool.eq_iff_iff]
  simp
  constructor
  · rintro ((h | h) | h)
    · exact .inl (.inl h)
    · exact .inr h
    · exact .inl (.inr h)
  · rintro ((h | h) | h)
    · exact .inl (.inl h)
    · exact .inr h
    · exact .inl (.inr h)

/-- The numbers of a text, as a list is read. -/
def numsI (s : ByteArray) : List Int := (nums s).map fun x : Nat => (x : Int)
theorem runeCells_I (s : ByteArray) : runeCells s = (numsI s).map fun x => .int .i32 x := by
  simp [runeCells, numsI, nums_units, List.map_map, Function.comp_def]
theorem numsI_len (s : ByteArray) : (numsI s).length = (units s).length := by simp [numsI, nums_units]
theorem mapI_inj : ∀ (a b : List Nat), (a.map fun x : Nat => (x : Int)) = b.map (fun x : Nat => (x : Int)) ↔ a = b
  | [], [] => by simp
  | [], _ :: _ => by simp
  | _ :: _, [] => by simp
  | x :: a, y :: b => by simp [mapI_inj a b, Int.ofNat_inj]
theorem cut_same (s : ByteArray) (a : Nat) (ha : a ≤ s.size) : decide (numsI (s.extract 0 a) ++ numsI (s.extract a s.size) = numsI s) = pcs s (units s) a := by
  have h := cut_iff s a ha
  rw [Bool.eq_iff_iff, decide_eq_true_iff]
  unfold numsI
  rw [← List.map_append, mapI_inj, h]
  unfold pcs
  simp
  constructor
  · rintro (h | h | h)
    · exact .inl h
    · exact .inr (.inr h)
    · exact .inr (.inl h)
  · rintro (h | h | h)
    · exact .inl h
    · exact .inr (.inr h)
    · exact .inr (.inl h)

/-- 'append(v, l2...)' of numbers. -/
theorem append_sl (W : World) (base : Nat) {v : Value} {n : Nat} {l : List Int} (hown : W.ownsRow base 21 1 v n (l.map fun x => .int .i32 x)) (g m c : Nat) (l2 : List Int) (hm : l2.length = m)
    (hc : ∀ i x, l2[i]? = some x → W.cell? ⟨g, i, none⟩ = some (.int .i32 x)) (hb : base ≤ W.heap.size) (h63 : n + m ≤ 35184372088832) :
    ∃ v' W', (∀ ty, (Builtin.append_ #[24, 24] ty #[v, .slice (some ⟨g, 0, none⟩) m c]).run Tryd.prog W = .ok v' W') ∧ W'.ownsRow base 21 1 v' (n + m) ((l ++ l2).map fun x => .int .i32 x) ∧
      Keep (fun b => v.ownBlock = some b) W W' := by
  obtain ⟨i, hi, hz, hs1, hb1⟩ := info_parts tinfo21
  obtain ⟨v', W', hrun, h1, h2, _⟩ := run_append_own (P := Tryd.prog) W base 24 0 21 i (.int .i32 0) 1 4 Tryd.underlying24 hi hz hs1 hb1 rfl (by omega) v n (l.map fun x => .int .i32 x) hown ⟨g, 0, none⟩ m c (l2.map fun x => .int .i32 x)
    (by simp [hm]) (fun j u hj => by
      simp only [List.getElem?_map, Option.map_eq_some_iff] at hj
      obtain ⟨x, hx, rfl⟩ := hj
      rw [Addr.add_lit]; simpa using hc j x hx) (by intro u hu; simp at hu; obtain ⟨x, _, rfl⟩ := hu; rfl) (by unfold maxLen; omega) (by omega) hb
  refine ⟨v', W', fun ty => hrun, ?_, keep_grown h2⟩
  rw [List.map_append]; exact h1
theorem own_base {Y : Nat → Prop} {e : TypeId} {size n base : Nat} {v : Value} {xs : List Value} {W : World} (h : OwnS Y e size v n xs W) (hY : ∀ b, Y b → base ≤ b) : W.ownsRow base e size v n xs := by
  obtain ⟨⟨hl, h2⟩, hY'⟩ := h
  refine ⟨hl, ?_⟩
  rcases h2 with h2 | ⟨g, cap, cur, rfl, hb, hg, rest⟩
  · exact .inl h2
  · exact .inr ⟨g, cap, cur, rfl, hY g (hY' g rfl), hg, rest⟩
theorem own_of_base {e : TypeId} {size n base : Nat} {v : Value} {xs : List Value} {W : World} (h : W.ownsRow base e size v n xs) : OwnS (fun b => base ≤ b) e size v n xs W := by
  obtain ⟨hl, h2⟩ := h
  refine ⟨⟨hl, ?_⟩, fun g hg => ?_⟩
  · rcases h2 with h2 | ⟨g, cap, cur, rfl, hb, hg, rest⟩
    · exact .inl h2
    · exact .inr ⟨g, cap, cur, rfl, Nat.zero_le _, hg, rest⟩
  · rcases h2 with ⟨h2, _⟩ | ⟨g', cap, cur, h2, hb, _⟩
    · rw [h2] at hg; cases hg
    · rw [h2] at hg; cases hg; exact hb
theorem _root_.Go.Kt.Keep.drewN {X : Nat → Prop} {A B : World} (h : Keep X A B) (j : Nat) : Keep X A (B.drewN j) := h.trans ⟨rfl, rfl, rfl, Nat.le_refl _, fun _ _ _ => rfl⟩
theorem Sl.drewN {k : IntKind} {W : World} {v : Value} {l : List Int} (h : Sl k W v l) (j : Nat) : Sl k (W.drewN j) v l := h

theorem sameRunes_d (v1 v2 : Value) (l1 l2 : List Int) (w : World) (h1 : Sl .i32 w v1 l1) (h2 : Sl .i32 w v2 l2) (m1 : l1.length ≤ 4611686018427387904) (m2 : l2.length ≤ 4611686018427387904) (j : Nat) :
    Calls Tryd.prog 17 #[v1, v2] (w.drewN j) fun e w' => e = .returned (.bool (decide (l1 = l2))) ∧ ∃ m, w' = (w.drewN j).drewN m :=
  sameRunes_any v1 v2 l1 l2 (w.drewN j) (h1.drewN j) (h2.drewN j) m1 m2

theorem make_bools (W : World) (n : Nat) (hn : n ≤ 2001) :
    (Instr.makeSlice 55 (.int .i64 (n : Int)) (.int .i64 (n : Int))).run Tryd.prog W = .ok (.slice (some ⟨W.heap.size, 0, none⟩) n n) (W.alloc (.cells (madeCells #[.bool false] n) 4)) := by
  obtain ⟨i, hi, hz, hs1, hb1⟩ := info_parts tinfo4
  have := run_makeSlice W 55 4 i (.bool false) Tryd.underlying55 hi hz .i64 .i64 (n : Int) (n : Int) (by omega) (Int.le_refl _) (by rw [hs1]; omega) (by rw [hb1]; omega) (by omega)
  rw [hs1] at this
  simpa [Value.cells] using this

set_option maxRecDepth 100000 in
set_option maxHeartbeats 1000000 in
theorem cuts_walk (s : ByteArray) (w : World) (hT : Lib.Utf8Tabs 0 1 w) (h2 : 2 ≤ w.heap.size) (hs : s.size ≤ 140737488351232) :
    Calls Tryd.prog 11 #[.string s] w fun e w' => e = .returned (.bool true) ∧ Below w.heap.size w w' := by
  have HT := Lib.hid hT; clear hT
  have hfn : ∀ k, Fence.wide.fn k := fun _ => trivial
  have hdep : Fence.wide.depth = none := rfl
  refine (callsIn_wide (n := 0)).1 ?_
  refine callsIn_of_wp_marks Tryd.func11 rfl trivial ?_ rfl
  simp only [Tryd.ntmps11, List.size_toArray, List.length_cons, List.length_nil, Nat.reduceAdd, Nat.reduceSub, Array.replicate_succ, Array.replicate_zero, List.push_toArray, List.append_toArray, List.nil_append, List.cons_append]
  gi_wp2_with fail
  refine (callsIn_wide.2 (works_any _ (tabs_below HT.out h2 (((Below.refl _ w).alloc (Nat.le_refl _) _).alloc (by simp) _)) (by simp))).mono ?_
  rintro e w1 ⟨rfl, hb1⟩
  generalize hn : w.heap.size = n at *
  have hn1 : ((w.alloc (.cells #[.string s] 9)).alloc (.cells #[.bool false] 4)).heap.size = n + 2 := by simp [hn]
  have b0 : w1.heap[n]? = some (.cells #[.string s] 9 (0, 0)) := by
    rw [hb1.block n (by omega)]; exact alloc_old (alloc_at hn.symm)
  have b1 : w1.heap[n + 1]? = some (.cells #[.bool false] 4 (0, 0)) := by
    rw [hb1.block (n + 1) (by omega)]; exact alloc_at (by simp [hn])
  have hbw : Below n w w1 := (((Below.refl n w).alloc (by omega) _).alloc (by simp; omega) _).trans (hb1.mono (by omega))
  have hz1 : n + 2 ≤ w1.heap.size := by have := hb1.size; omega
  clear hb1 hn1
  have k0 := cell_one b0
  have k1 := cell_one b1
  have f1 := frozen_one b1
  by_cases hbig : s.size ≤ 2000
  · have hmk := make_bools w1 (s.size + 1) (by omega)
    rw [Int.natCast_add, Int.natCast_one] at hmk
    obtain ⟨m, hm⟩ : ∃ m, w1.heap.size = m := ⟨_, rfl⟩
    obtain ⟨W3, hW3⟩ : ∃ W3, (w1.alloc (.cells (madeCells #[.bool false] (s.size + 1)) 4)).alloc (.cells #[.slice (some ⟨m, 0, none⟩) (s.size + 1) (s.size + 1)] 55) = W3 := ⟨_, rfl⟩
    have hk3 : Keep (fun _ => False) w1 W3 := by rw [← hW3]; exact ((Keep.refl _ w1).alloc _).alloc _
    have p3 : Plc m s (fun _ => false) W3 := by
      refine ⟨madeCells #[.bool false] (s.size + 1), by rw [← hW3]; exact alloc_old (alloc_at hm.symm), fun i hi => ?_⟩
      simp [madeCells, Nat.mod_one, show i < s.size + 1 by omega]
    have q3 : W3.heap[m + 1]? = some (.cells #[.slice (some ⟨m, 0, none⟩) (s.size + 1) (s.size + 1)] 55 (0, 0)) := by rw [← hW3]; exact alloc_at (by simp [hm])
    have hz3 : W3.heap.size = m + 2 := by rw [← hW3]; simp [hm]
    have p4 := p3.set (j := s.size) (Nat.le_refl _)
    have hk4 : Keep (fun b => b = m) W3 (W3.setCell ⟨m, s.size, none⟩ (.bool true)) := Keep.setCell (X := fun b => b = m) (p := ⟨m, s.size, none⟩) (Keep.refl _ _) rfl _
    obtain ⟨W4, hW4⟩ : ∃ W4, W3.setCell ⟨m, s.size, none⟩ (.bool true) = W4 := ⟨_, rfl⟩
    rw [hW4] at p4 hk4
    have p5 := p4.set (j := 0) (Nat.zero_le _)
    have hk5 : Keep (fun b => b = m) W4 (W4.setCell ⟨m, 0, none⟩ (.bool true)) := Keep.setCell (X := fun b => b = m) (p := ⟨m, 0, none⟩) (Keep.refl _ _) rfl _
    obtain ⟨W5, hW5⟩ : ∃ W5, W4.setCell ⟨m, 0, none⟩ (.bool true) = W5 := ⟨_, rfl⟩
    rw [hW5] at p5 hk5
    have hz4 : W4.heap.size = m + 2 := by rw [← hW4]; simpa using hz3
    have hz5 : W5.heap.size = m + 2 := by rw [← hW5]; simpa using hz4
    have hk35 : Keep (fun b => b = m) W3 W5 := hk4.trans hk5
    have t0 := hk3.heap b0 (fun h => h)
    have t1 := hk3.heap b1 (fun h => h)
    have u0 := hk35.heap t0 (by omega)
    have u1 := hk35.heap t1 (by omega)
    have u3 := hk35.heap q3 (by omega)
    have c30 := cell_one t0
    have c3p := cell_one q3
    have c3m := p3.cell (i := s.size) (Nat.le_refl _)
    have c3f := p3.frozen s.size
    have c4p := cell_one (hk4.heap q3 (by omega))
    have c4m := p4.cell (i := 0) (Nat.zero_le _)
    have c4f := p4.frozen 0
    have c50 := cell_one u0
    have HP5 := Lib.hid p5
    have HU := Lib.hid (And.intro u0 (And.intro u1 u3))
    have hb15 : Below n w1 W5 := (hk3.below (X := fun _ => False) (by omega) (fun _ h => h.elim)).trans (hk35.below (by omega) (fun b hb => by omega))
    clear p3 p4 p5 hk4 hk5 hk35 t0 t1 u0 u1 u3 q3 hz3 hz4 hk3
    rw [hm] at hmk
    gi_wp2_with fail
    clear c30 c3p c3m c3f c4p c4m c4f c50 k0 k1 f1 hmk hW3 hW4 hW5
    refine (callsIn_wide.2 (utfAll_call s _)).mono ?_
    rintro e w6 ⟨rfl, hw6⟩
    gi_wp2_with fail
    have hk6 : Keep (fun _ => False) W5 w6 := by rw [← hw6]; exact (Keep.refl _ _).alloc _
    have hz6 : w6.heap.size = m + 3 := by rw [← hw6]; simp [hz5]
    have b6 : w6.heap[m + 2]? = some (.cells #[.string s] 9 (0, 0)) := by rw [← hw6]; exact alloc_at hz5.symm
    have p6 := HP5.out.keep hk6 (fun h => h)
    have v0 := hk6.heap HU.out.1 (fun h => h)
    have v1 := hk6.heap HU.out.2.1 (fun h => h)
    have v3 := hk6.heap HU.out.2.2 (fun h => h)
    have hb16 : Below n w1 w6 := hb15.trans (hk6.below (X := fun _ => False) (by omega) (fun _ h => h.elim))
    clear hw6 hk6 HU HP5 hb15
    refine loop_out (gf := 50) (lb := #[.pointer (some ⟨m + 2, 0, none⟩)]) (encs := enc2) rfl (enters_of Tryd.func50 (by kernel_rfl) rfl)
      (all_iter s (m + 2) w6 (cell_one b6) (by omega)) (fun _ => rfl) (X := fun b => b = m)
      (fun b hb => by omega) (fun b hb => by omega) (fun _ _ => rfl) (Nat.le_refl _)
      (fun pre Y W => Plc m s (pcs s pre) W)
      (fun _ _ _ _ => False)
      (fun pre Y W W' hk h => h.keep hk (fun hx => by have := hx.1; omega))
      (fun _ _ _ _ _ _ h => h) (p6.congr (fun i _ => by simp [pcs])) ?round ?done ?stop
    case stop => intro D c pre Y W _ _ _ h; exact h.elim
    case round =>
      rintro l hl pre ⟨at', r⟩ Y W hpre hi hk hY hlt hr
      gi_wp2
      refine ⟨Keep.refl _ _, ?_⟩
      rintro W2 _ hk2 hp2 hr2
      have hat : at' < s.size := by
        obtain ⟨rest, hrest⟩ := hpre
        exact units_lt s s.size 0 (at', r) (by show (at', r) ∈ units s; rw [← hrest]; simp)
      have x0 := cell_one (hk2.heap v0 (by omega))
      have x3 := cell_one (hk2.heap v3 (by omega))
      have xc := hp2.cell (i := at') (by omega)
      have xf := hp2.frozen at'
      have HP := Lib.hid (hp2.set (j := at') (by omega))
      generalize pcs s pre at' = old at xc
      clear hp2 hr2 hr hi hpre hk hk2 v0 v1 v3 b6 p6
      gi_wp2_with fail
      refine ⟨Y, Keep.setCell (X := fun b => b = m ∨ Y b) (p := ⟨m, at', none⟩) (Keep.refl _ _) (.inl rfl) _, fun b h => .inl h, HP.out.congr (fun i _ => (pcs_snoc s pre (at', r) i).symm)⟩
    case done =>
      rintro D Y W hD hDd hp hY hkW
      have x0 := hkW.heap v0 (by omega)
      have x1 := hkW.heap v1 (by omega)
      have x3 := hkW.heap v3 (by omega)
      have hzW := hkW.size
      have hbW : Below n w W := by
        exact (hbw.trans hb16).trans (hkW.below (by omega) (fun b hb => by omega))
      have k0 := cell_one x0
      clear v0 v1 v3 b6 p6 hkW hY
      gi_wp2_with fail
      refine (callsIn_wide.2 (utfRunes_any s W (by omega))).mono ?_
      rintro e w7 ⟨cap7, rfl, hown7, hb7, hz7⟩
      have hk7 : Keep (fun _ => False) W w7 := .of_all hb7
      have y0 := hk7.heap x0 (fun h => h)
      have y1 := hk7.heap x1 (fun h => h)
      have y3 := hk7.heap x3 (fun h => h)
      have yD := hk7.heap hDd (fun h => h)
      have yp := hp.keep hk7 (fun h => h)
      have hbw7 := hbW.trans (hb7.mono (by omega))
      have HO7 := Lib.hid hown7
      have HP7 := Lib.hid yp
      clear x0 x1 x3 hDd hp hk7 hb7 hown7 yp hbW k0
      gi_wp2_with fail
      gi_loopw [6] (fun v wr => ∃ k : Nat, k ≤ s.size + 1 ∧ v = .int .i64 k ∧ Keep (fun _ => False) w7 wr) (fun v _ => (s.size + 1) - (RowKit.intOf v).toNat)
      case atStart => exact ⟨0, by omega, rfl, Keep.refl _ _⟩
      case round =>
        obtain ⟨k, hk, rfl, hkr⟩ := hrel
        have r0 := hkr.heap y0 (fun h => h)
        have r1 := hkr.heap y1 (fun h => h)
        have r3 := hkr.heap y3 (fun h => h)
        have HR := Lib.hid (And.intro r1 hkr)
        have k0 := cell_one r0
        by_cases hlt : k < s.size + 1
        · have hle : (k : Int) ≤ s.size := by omega
          gi_wp2_with fail
          refine (callsIn_wide.2 (utfRunes_any (s.extract 0 k) wr (by rw [size_pre s k (by omega)]; omega))).mono ?_
          rintro e w8 ⟨cap8, rfl, hown8, hb8, hz8⟩
          have hk8 : Keep (fun _ => False) wr w8 := .of_all hb8
          have s0 := hk8.heap r0 (fun h => h)
          have HO8 := Lib.hid hown8
          have q0 := cell_one s0
          have HK8 := Lib.hid (And.intro hk8 (And.intro hb8 hz8))
          clear hown8 hk8 hb8 hz8 k0
          gi_wp2_with fail
          refine (callsIn_wide.2 (utfRunes_any (s.extract k s.size) w8 (by rw [tail_size s k (by omega)]; omega))).mono ?_
          rintro e w9 ⟨cap9, rfl, hown9, hb9, hz9⟩
          obtain ⟨hk8, hb8, hz8⟩ := HK8.out
          have hl8 : (units (s.extract 0 k)).length ≤ s.size := by have := units_len (s.extract 0 k); rw [size_pre s k (by omega)] at this; omega
          have hl9 : (units (s.extract k s.size)).length ≤ s.size := by have := units_len (s.extract k s.size); rw [tail_size s k (by omega)] at this; omega
          have hl7 := units_len s
          have hk9 : Keep (fun _ => False) w8 w9 := .of_all hb9
          have own8 := own_base (base := wr.heap.size) (HO8.out.keep hk9 (fun _ h => h.elim)) (fun b h => by omega)
          rw [runeCells_I] at own8
          have sl9 : Sl .i32 w9 (.slice (some ⟨w8.heap.size, 0, none⟩) (units (s.extract k s.size)).length cap9) (numsI (s.extract k s.size)) := sl_of_own (by rw [← runeCells_I]; exact hown9) (numsI_len _)
          obtain ⟨v', w10, hrun, hown10, hk10⟩ := append_sl w9 wr.heap.size own8 w8.heap.size (units (s.extract k s.size)).length cap9 (numsI (s.extract k s.size)) (numsI_len _)
            (fun i x hx => by
              obtain ⟨ao, cap, e, h⟩ := sl9
              injection e with e1 e2 e3
              subst e1
              rcases h with h | ⟨g, off, e, h⟩
              · rw [h] at hx; simp at hx
              · injection e with e; injection e with e1 e2; subst e1; subst e2
                have := h i x hx
                rwa [Nat.zero_add] at this) (by omega) (by omega)
          have hb10 : Below wr.heap.size wr w10 := (hb8.trans (hb9.mono (by omega))).trans (hk10.below (by omega) (fun b h => by
            simp [Value.ownBlock] at h; omega))
          have hk7' : Keep (fun _ => False) w7 w10 := HR.out.2.then (hb10.mono HR.out.2.size)
          have S1 : Sl .i32 w10 v' (numsI (s.extract 0 k) ++ numsI (s.extract k s.size)) := sl_of_own (own_of_base hown10) (by simp [numsI_len])
          have S2 : Sl .i32 w10 (.slice (some ⟨W.heap.size, 0, none⟩) (units s).length cap7) (numsI s) := (sl_of_own (by rw [← runeCells_I]; exact HO7.out) (numsI_len _)).keep hk7' (fun _ _ _ _ _ _ _ h => h)
          have C := Lib.hid (sameRunes_d _ _ _ _ w10 S1 S2 (by simp [numsI_len]; omega) (by rw [numsI_len]; omega))
          have hd := cut_same s k (by omega)
          rw [hd] at C
          have HRun := Lib.hid hrun
          have p10 := HP7.out.keep hk7' (fun h => h)
          have c10 := p10.cell (i := k) (by omega)
          have c3 := cell_one (hk7'.heap y3 (fun h => h))
          have HK := Lib.hid hk7'
          generalize pcs s (units s) k = pb at *
          have hpb : (pb != pb) = false := by simp
          clear hd S1 S2 hrun p10 hk7' hb10 hown10 hk10 sl9 own8 hk9 hk8 hb8 hz8 hown9 hb9 hz9 s0 q0 HK8 hl7 hl8 hl9
          gi_wp2_with (refine wpListIn_append_eq (o := ⟨some 58, _, _, _, _, _⟩) (by rfl) (by rfl) (by rfl) (by rfl) HRun.out ?_)
          gi_quiet ((gi_at_call 17; refine CallsIn.quiet_of (callsIn_wide.2 (C.out _))))
          gi_wp2_with fail
          go_roundw
          case rel => exact ⟨k + 1, by omega, by go_num, HK.out.drewN _⟩
          case measure => simp [RowKit.intOf]; omega
        · have hgt : (s.size : Int) < k := by omega
          have k1 := cell_one r1
          have f1 := frozen_one r1
          have hD' := HR.out.2.heap yD (fun h => h)
          have hkk := HR.out.2
          clear hgt
          have hke : (k : Int) = s.size + 1 := by omega
          have HKE := Lib.hid hke
          clear hke
          have hgt : (s.size : Int) < k := by omega
          gi_wp2_with fail
          refine leaves_marks (Ds := [D]) (by simp) (fun D' h => by simp at h; subst h; exact set_old hD' (by omega)) (fun W' hk' => ?_)
          refine ⟨_, results_cell_one (g := n + 1) rfl _ _ _ rfl (cell_one (hk'.heap (set_at (u := .bool true) r1) (fun h => by simp at h; omega))) Tryd.isAgg4, rfl, ?_⟩
          rw [hn]
          have h1 := hbw7.trans (hkk.below (X := fun _ => False) (by omega) (fun _ h => h.elim))
          exact (h1.setCell (by simp) _).trans (hk'.below (by simp; have := hkk.size; omega) (fun b h => by simp at h; omega))
  · have hbig' : (2000 : Int) < s.size := by omega
    gi_wp2_with fail
    refine (callsIn_wide.2 (works_any _ (tabs_below HT.out h2 hbw) (by omega))).mono ?_
    rintro e w2 ⟨rfl, hb2⟩
    have c1 : w2.heap[n + 1]? = some (.cells #[.bool false] 4 (0, 0)) := (hb2.block _ (by omega)).trans b1
    have q1 := cell_one c1
    have g1 := frozen_one c1
    gi_wp2_with fail
    refine leaves_marks (Ds := []) List.nodup_nil (fun D h => (by cases h)) (fun W' hk' => ?_)
    refine ⟨_, results_cell_one (g := n + 1) rfl _ _ _ rfl (cell_one (hk'.heap (set_at (u := .bool true) c1) (fun h => by cases h))) Tryd.isAgg4, rfl, ?_⟩
    rw [hn]
    exact ((hbw.trans (hb2.mono (by omega))).setCell (by simp) _).trans (hk'.below (by have := hb2.size; simp; omega) (fun b h => by cases h))
end Go.Proofs.YtdcpbogabgnooaaDoor
