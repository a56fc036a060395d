/- The walk of UtfCuts. -/
import Derived.Test.YtpddpglccjbpfaaDoorCb
import Derived.Test.YtpddpglccjbpfaaDoorCd
import Derived.Laws.MakeOwn
import Derived.Sort.QuietIn
import Derived.Sort.QuietTacIn
namespace Go.Proofs.YtpddpglccjbpfaaDoor
open Go Go.RowKit Go.Kt Go.Shelf
attribute [local go_sem] Oper.semAt_some

theorem tinfo4 : (Tryd.prog.info? 4).map (fun i => (i.zero, i.size, i.bytes)) = some (some (.bool false), 1, 1) := by kernel_rfl
theorem tinfo21 : (Tryd.prog.info? 21).map (fun i => (i.zero, i.size, i.bytes)) = some (some (.int .i32 0), 1, 4) := by kernel_rfl

/-- The block m holds a row of places. -/
def Plc (m : Nat) (s : ByteArray) (p : Nat → Bool) (W : World) : Prop :=
  ∃ c : Array Value, W.heap[m]? = some (.cells c 4 (0, 0)) ∧ ∀ i, i ≤ s.size → c[i]? = some (.bool (p i))
theorem Plc.keep {m : Nat} {s : ByteArray} {p : Nat → Bool} {X : Nat → Prop} {A B : World} (h : Plc m s p A) (hk : Keep X A B) (hX : ¬ X m) : Plc m s p B := by
  obtain ⟨c, h1, h2⟩ := h
  exact ⟨c, hk.heap h1 hX, h2⟩
theorem Plc.cell {m : Nat} {s : ByteArray} {p : Nat → Bool} {W : World} (h : Plc m s p W) {i : Nat} (hi : i ≤ s.size) : W.cell? ⟨m, i, none⟩ = some (.bool (p i)) := by
  obtain ⟨c, h1, h2⟩ := h
  rw [Lib.cell_of_heap h1]; exact h2 i hi
theorem Plc.frozen {m : Nat} {s : ByteArray} {p : Nat → Bool} {W : World} (h : Plc m s p W) (i : Nat) : W.frozen? ⟨m, i, none⟩ = false := by
  obtain ⟨c, h1, h2⟩ := h
  exact Lib.frozen_of_heap h1 i
theorem Plc.set {m : Nat} {s : ByteArray} {p : Nat → Bool} {W : World} (h : Plc m s p W) {j : Nat} (_ : j ≤ s.size) : Plc m s (fun i => p i || i == j) (W.setCell ⟨m, j, none⟩ (.bool true)) := by
  obtain ⟨c, h1, h2⟩ := h
  refine ⟨c.setIfInBounds j (.bool true), by simp [World.setCell, Array.getElem?_modify, h1], fun i hi => ?_⟩
  rw [Array.getElem?_setIfInBounds]
  have := h2 i hi
  have hlt := (Array.getElem?_eq_some_iff.1 this).1
  by_cases e : j = i
  · subst e; rw [if_pos rfl, if_pos hlt]; simp
  · rw [if_neg e, this]
    have : (i == j) = false := by simp; omega
    simp [this]
theorem Plc.congr {m : Nat} {s : ByteArray} {p q : Nat → Bool} {W : World} (h : Plc m s p W) (e : ∀ i, i ≤ s.size → p i = q i) : Plc m s q W := by
  obtain ⟨c, h1, h2⟩ := h
  exact ⟨c, h1, fun i hi => by rw [← e i hi]; exact h2 i hi⟩

theorem units_lt (s : ByteArray) : ∀ f i p, p ∈ unitsF s f i → p.1 < s.size
  | 0, _, p, h => by simp [unitsF] at h
  | f + 1, i, p, h => by
    rw [unitsF] at h
    split at h
    · rcases List.mem_cons.1 h with h | h
      · subst h; assumption
      · exact units_lt s f _ p h
    · simp at h

/-- Which places are marked once the units pre have been gone through. -/
def pcs (s : ByteArray) (pre : List (Nat × Nat)) (i : Nat) : Bool := (pre.map fun p => p.1).contains i || (i == s.size || i == 0)
theorem pcs_snoc (s : ByteArray) (pre : List (Nat × Nat)) (p : Nat × Nat) (i : Nat) : pcs s (pre ++ [p]) i = (pcs s pre i || i == p.1) := by
  unfold pcs
  rw [List.map_append, List.map_cons, List.map_nil, Bool.eq_iff_iff]
  simp
  constructor
  · rintro ((h | h) | h)
    · exact .inl (.inl h)
    · exact .inr h
    · exact .inl (.inr h)
  · rintro ((h | h) | h)
    · exact .inl (.inl h)
    · exact .inr h
    · exact .inl (.inr h)

/-- The numbers of a text, as a list is read. -/
def numsI (s : ByteArray) : List Int := (nums s).map fun x : Nat => (x : Int)
theorem runeCells_I (s : ByteArray) : runeCells s = (numsI s).map fun x => .int .i32 x := by
  simp [runeCells, numsI, nums_units, List.map_map, Function.comp_def]
theorem numsI_len (s : ByteArray) : (numsI s).length = (units s).length := by simp [numsI, nums_units]
theorem mapI_inj : ∀ (a b : List Nat), (a.map fun x : Nat => (x : Int)) = b.map (fun x : Nat => (x : Int)) ↔ a = b
  | [], [] => by simp
  | [], _ :: _ => by simp
  | _ :: _, [] => by simp
  | x :: a, y :: b => by simp [mapI_inj a b, Int.ofNat_inj]
theorem cut_same (s : ByteArray) (a : Nat) (ha : a ≤ s.size) : decide (numsI (s.extract 0 a) ++ numsI (s.extract a s.size) = numsI s) = pcs s (units s) a := by
  have h := cut_iff s a ha
  rw [Bool.eq_iff_iff, decide_eq_true_iff]
  unfold numsI
  rw [← List.map_append, mapI_inj, h]
  unfold pcs
  simp
  constructor
  · rintro (h | h | h)
    · exact .inl h
    · exact .inr (.inr h)
    · exact .inr (.inl h)
  · rintro (h | h | h)
    · exact .inl h
    · exact .inr (.inr h)
    · exact .inr (.inl h)

/-- 'append(v, l2...)' of numbers. -/
theorem append_sl (W : World) (base : Nat) {v : Value} {n : Nat} {l : List Int} (hown : W.ownsRow base 21 1 v n (l.map fun x => .int .i32 x)) (g m c : Nat) (l2 : List Int) (hm : l2.length = m)
    (hc : ∀ i x, l2[i]? = some x → W.cell? ⟨g, i, none⟩ = some (.int .i32 x)) (hb : base ≤ W.heap.size) (h63 : n + m ≤ 35184372088832) :
    ∃ v' W', (∀ ty, (Builtin.append_ #[46, 46] ty #[v, .slice (some ⟨g, 0, none⟩) m c]).run Tryd.prog W = .ok v' W') ∧ W'.ownsRow base 21 1 v' (n + m) ((l ++ l2).map fun x => .int .i32 x) ∧
      Keep (fun b => v.ownBlock = some b) W W' := by
  obtain ⟨i, hi, hz, hs1, hb1⟩ := info_parts tinfo21
  obtain ⟨v', W', hrun, h1, h2, _⟩ := run_append_own (P := Tryd.prog) W base 46 0 21 i (.int .i32 0) 1 4 Tryd.underlying46 hi hz hs1 hb1 rfl (by omega) v n (l.map fun x => .int .i32 x) hown ⟨g, 0, none⟩ m c (l2.map fun x => .int .i32 x)
    (by simp [hm]) (fun j u hj => by
      simp only [List.getElem?_map, Option.map_eq_some_iff] at hj
      obtain ⟨x, hx, rfl⟩ := hj
      rw [Addr.add_lit]; simpa using hc j x hx) (by intro u hu; simp at hu; obtain ⟨x, _, rfl⟩ := hu; rfl) (by unfold maxLen; omega) (by omega) hb
  refine ⟨v', W', fun ty => hrun, ?_, keep_grown h2⟩
  rw [List.map_append]; exact h1
theorem own_base {Y : Nat → Prop} {e : TypeId} {size n base : Nat} {v : Value} {xs : List Value} {W : World} (h : OwnS Y e size v n xs W) (hY : ∀ b, Y b → base ≤ b) : W.ownsRow base e size v n xs := by
  obtain ⟨⟨hl, h2⟩, hY'⟩ := h
  refine ⟨hl, ?_⟩
  rcases h2 with h2 | ⟨g, cap, cur, rfl, hb, hg, rest⟩
  · exact .inl h2
  · exact .inr ⟨g, cap, cur, rfl, hY g (hY' g rfl), hg, rest⟩
theorem own_of_base {e : TypeId} {size n base : Nat} {v : Value} {xs : List Value} {W : World} (h : W.ownsRow base e size v n xs) : OwnS (fun b => base ≤ b) e size v n xs W := by
  obtain ⟨hl, h2⟩ := h
  refine ⟨⟨hl, ?_⟩, fun g hg => ?_⟩
  · rcases h2 with h2 | ⟨g, cap, cur, rfl, hb, hg, rest⟩
    · exact .inl h2
    · exact .inr ⟨g, cap, cur, rfl, Nat.zero_le _, hg, rest⟩
  · rcases h2 with ⟨h2, _⟩ | ⟨g', cap, cur, h2, hb, _⟩
    · rw [h2] at hg; cases hg
    · rw [h2] at hg; cases hg; exact hb
theorem _root_.Go.Kt.Keep.drewN {X : Nat → Prop} {A B : World} (h : Keep X A B) (j : Nat) : Keep X A (B.drewN j) := h.trans ⟨rfl, rfl, rfl, Nat.le_refl _, fun _ _ _ => rfl⟩
theorem Sl.drewN {k : IntKind} {W : World} {v : Value} {l : List Int} (h : Sl k W v l) (j : Nat) : Sl k (W.drewN j) v l := h

theorem sameRunes_d (v1 v2 : Value) (l1 l2 : List Int) (w : World) (h1 : Sl .i32 w v1 l1) (h2 : Sl .i32 w v2 l2) (m1 : l1.length ≤ 4611686018427387904) (m2 : l2.length ≤ 4611686018427387904) (j : Nat) :
    Calls Tryd.prog 25 #[v1, v2] (w.drewN j) fun e w' => e = .returned (.bool (decide (l1 = l2))) ∧ ∃ m, w' = (w.drewN j).drewN m :=
  sameRunes_any v1 v2 l1 l2 (w.drewN j) (h1.drewN j) (h2.drewN j) m1 m2

theorem make_bools (W : World) (n : Nat) (hn : n ≤ 2001) :
    (Instr.makeSlice 56 (.int .i64 (n : Int)) (.int .i64 (n : Int))).run Tryd.prog W = .ok (.slice (some ⟨W.heap.size, 0, none⟩) n n) (W.alloc (.cells (madeCells #[.bool false] n) 4)) := by
  obtain ⟨i, hi, hz, hs1, hb1⟩ := info_parts tinfo4
  have := run_makeSlice W 56 4 i (.bool false) Tryd.underlying56 hi hz .i64 .i64 (n : Int) (n : Int) (by omega) (Int.le_refl _) (by rw [hs1]; omega) (by rw [hb1]; omega) (by omega)
  rw [hs1] at this
  simpa [Value.cells] using this

end Go.Proofs.YtpddpglccjbpfaaDoor
