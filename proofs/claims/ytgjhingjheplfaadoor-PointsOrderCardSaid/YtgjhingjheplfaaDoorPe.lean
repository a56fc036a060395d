/- The text of points: the document's Text. -/
import Derived.Test.YtgjhingjheplfaaDoorPd
namespace Go.Proofs.YtgjhingjheplfaaDoor
open Go Go.RowKit Go.Kt Go.Shelf

/-- K is the place of the first number that is no point, or the list's length. -/
structure FirstBad (l : List Int) (K : Nat) : Prop where
  le : K ≤ l.length
  good : ∀ i x, i < K → l[i]? = some x → pointB x = true
  bad : ∀ x, l[K]? = some x → pointB x = false
theorem firstBad_ex : ∀ l : List Int, ∃ K, FirstBad l K
  | [] => ⟨0, Nat.le_refl _, fun i x h _ => by omega, fun x h => by simp at h⟩
  | x :: l => by
    obtain ⟨K, h1, h2, h3⟩ := firstBad_ex l
    cases hx : pointB x
    · exact ⟨0, Nat.zero_le _, fun i x h _ => by omega, fun y h => by simp at h; rw [← h]; exact hx⟩
    · refine ⟨K + 1, by simp; omega, fun i y hi h => ?_, fun y h => h3 y (by simpa using h)⟩
      cases i with
      | zero => simp at h; rw [← h]; exact hx
      | succ i => exact h2 i y (by omega) (by simpa using h)
theorem firstBad_all {l : List Int} (h : ∀ x ∈ l, pointB x = true) : FirstBad l l.length :=
  ⟨Nat.le_refl _, fun i x _ hx => h x (List.mem_of_getElem? hx), fun x hx => by simp at hx⟩

def TextAns (l : List Int) (K : Nat) (w : World) (e : Ending) (w' : World) : Prop :=
  (K = l.length ∧ e = .returned (.tuple #[.string ⟨(textP l).toArray⟩, .int .i64 (-1)]) ∨ K < l.length ∧ e = .returned (.tuple #[.string ⟨#[]⟩, .int .i64 K])) ∧ Below w.heap.size w w'

theorem OwnB.weaken {Y Z : Nat → Prop} {v : Value} {l : List UInt8} {A : World} (h : OwnB Y v l A) (hY : ∀ b, Y b → Z b) : OwnB Z v l A := ⟨h.1, fun g hg => hY g (h.2 g hg)⟩
theorem OwnB.keep {Y X : Nat → Prop} {v : Value} {l : List UInt8} {A B : World} (h : OwnB Y v l A) (hk : Keep X A B) (hX : ∀ b, X b → ¬ Y b) : OwnB Y v l B :=
  ⟨ownsF_keep h.1 hk (fun g hg hx => hX g hx (h.2 g hg)), h.2⟩
theorem OwnB.lt {Y : Nat → Prop} {v : Value} {l : List UInt8} {A : World} (h : OwnB Y v l A) : OwnB (fun b => Y b ∧ b < A.heap.size) v l A := ⟨h.1, fun g hg => ⟨h.2 g hg, (h.1.lt g hg).2⟩⟩

set_option maxRecDepth 100000 in
set_option maxHeartbeats 1000000 in
theorem refTextP_any (v : Value) (l : List Int) (K : Nat) (w : World) (h : Slg .i32 w v l) (hw : ∀ x ∈ l, -2147483648 ≤ x ∧ x ≤ 2147483647) (hl : l.length ≤ 35184372087808) (hK : FirstBad l K) :
    Calls Tryd.prog 37 #[v] w (TextAns l K w) := by
  obtain ⟨av, cv, rfl, h⟩ := h
  have H := Lib.hid h
  have HW := Lib.hid hw
  have HK := Lib.hid hK
  have hKl := hK.le
  clear h hw hK
  go_enter Tryd.func37, Tryd.ntmps37
  go_wp2
  go_loopw [4, 5] (fun o i wr => ∃ (k : Nat) (ao : Option Addr) (cp m : Nat) (acc : List UInt8), k ≤ K ∧ i = .int .i64 k ∧ o = .slice ao m cp ∧ m = acc.length ∧ acc = textP (l.take k) ∧ OwnB (fun b => w.heap.size ≤ b) (.slice ao m cp) acc wr ∧ Below w.heap.size w wr)
    (fun _ i _ => l.length - (RowKit.intOf i).toNat)
  case atStart => exact ⟨0, none, 0, 0, [], by omega, rfl, rfl, rfl, rfl, OwnB.nil _ _, Below.refl _ _⟩
  case round =>
    obtain ⟨k, ao, cp, m, acc, hk, rfl, rfl, hm, hacc, hown, hb⟩ := hrel
    by_cases hlt : k < l.length
    · obtain ⟨a, rfl, ha⟩ : ∃ a : Addr, av = some a ∧ ∀ i x, l[i]? = some x → w.cell? (a.add i) = some (.int .i32 x) := by
        rcases H.out with h | h
        · subst h; simp at hlt
        · exact h
      obtain ⟨x, hx⟩ : ∃ x, l[k]? = some x := ⟨l[k], List.getElem?_eq_getElem hlt⟩
      have q := ha k x hx
      have p1 := (hb.cell (lt_of_cell q)).trans q
      have hxr := HW.out x (List.mem_of_getElem? hx)
      have cP := point_any x
      by_cases hkK : k < K
      · have hxp := HK.out.good k x hkK hx
        rw [hxp] at cP
        have CP := Lib.hid cP
        have CB := Lib.hid (refBytes_any x wr hxp)
        have hbl := bytesP_len x
        have hsz : acc.length ≤ 4 * k := by
          rw [hacc]
          have := textP_len (l.take k)
          rw [List.length_take] at this
          omega
        have hnext : textP (l.take (k + 1)) = acc ++ bytesP x := by
          rw [List.take_add_one, hx]
          show textP (l.take k ++ [x]) = _
          rw [textP_snoc, hacc]
        have HN := Lib.hid (And.intro hnext (And.intro hm (And.intro hown hb)))
        clear hnext hacc hm hown q ha hx hxp cP hb
        generalize bytesP x = bs at *
        go_wp2_with fail
        refine (CP.out _).mono ?_
        rintro e w1 ⟨rfl, rfl⟩
        go_wp2_with fail
        refine CB.out.mono ?_
        rintro e w1 ⟨rfl, hw1⟩
        obtain ⟨g, hg⟩ : ∃ g, wr.heap.size = g := ⟨_, rfl⟩
        have hgh : w1.heap[g]? = some (.cells (Lib.byteCells bs).toArray 5 (0, 0)) := by rw [hw1, ← hg]; exact World.alloc_heap_new wr _
        have hb1 : Below w.heap.size w w1 := by rw [hw1]; exact HN.out.2.2.2.alloc HN.out.2.2.2.size _
        have hgw : w.heap.size ≤ g := by rw [← hg]; exact HN.out.2.2.2.size
        have hown1 : OwnB (fun b => w.heap.size ≤ b ∧ b ≠ g) (.slice ao m cp) acc w1 := by
          refine (HN.out.2.2.1.lt.keep (X := fun _ => False) (B := w1) (by rw [hw1]; exact (Keep.refl _ _).alloc _) (fun _ h => h.elim)).weaken ?_
          rintro b ⟨h1, h2⟩
          exact ⟨h1, by omega⟩
        have H1 := Lib.hid (And.intro hgh (And.intro hb1 hown1))
        rw [hg]
        clear hw1 hgh hb1 hown1
        go_wp2
        clear p1
        go_loopw [4, 7] (fun o jv wi => ∃ (j : Nat) (ao : Option Addr) (cp m' : Nat), j ≤ bs.length ∧ jv = .int .i64 j ∧ o = .slice ao m' cp ∧ m' = m + j ∧ OwnB (fun b => w.heap.size ≤ b ∧ b ≠ g) (.slice ao m' cp) (acc ++ bs.take j) wi ∧
            wi.heap[g]? = some (.cells (Lib.byteCells bs).toArray 5 (0, 0)) ∧ Below w.heap.size w wi)
          (fun _ jv _ => bs.length - (RowKit.intOf jv).toNat)
        case atStart => exact ⟨0, ao, cp, m, by omega, rfl, rfl, rfl, by simpa using H1.out.2.2, H1.out.1, H1.out.2.1⟩
        case round =>
          obtain ⟨j, ao2, cp2, m2, hj, rfl, rfl, hm2, hown2, hgh2, hb2⟩ := hrel
          by_cases hjl : j < bs.length
          · obtain ⟨y, hy⟩ : ∃ y, bs[j]? = some y := ⟨bs[j], List.getElem?_eq_getElem hjl⟩
            have pc : wr.cell? ⟨g, j, none⟩ = some (.int .u8 (y.toNat : Nat)) := by
              rw [Lib.cell_of_heap hgh2]
              simp [Lib.byteCells, hy]
            obtain ⟨g3, cap3, w3, hrun, hown3, hk3, hg3, hz3⟩ := append_b (P := Tryd.prog) wr 72 5 Tryd.underlying72 tinfo5 hown2.1 (.int .u8 (y.toNat : Nat)) rfl (by rw [List.length_append, List.length_take]; omega)
            have hlen3 : (acc ++ bs.take j).length = m2 := by rw [List.length_append, List.length_take, hm2, HN.out.2.1]; omega
            rw [hlen3] at hrun hown3
            have HG : Hid (OwnB (fun b => w.heap.size ≤ b ∧ b ≠ g) (.slice (some ⟨g3, 0, none⟩) (m2 + 1) cap3) (acc ++ bs.take (j + 1)) w3 ∧ w3.heap[g]? = some (.cells (Lib.byteCells bs).toArray 5 (0, 0)) ∧ Below w.heap.size w w3) := Lib.hid (by
              have hlt : g < wr.heap.size := (Array.getElem?_eq_some_iff.1 hgh2).1
              refine ⟨⟨?_, ?_⟩, hk3.heap hgh2 (fun h => (hown2.2 _ h).2 rfl), hb2.trans (hk3.below hb2.size fun b h => (hown2.2 b h).1)⟩
              · have e1 : (acc ++ bs.take (j + 1)).length = m2 + 1 := by rw [List.length_append, List.length_take, hm2, HN.out.2.1]; omega
                rw [e1, List.take_add_one, hy]
                have e2 : Lib.byteCells (acc ++ (bs.take j ++ (some y).toList)) = Lib.byteCells (acc ++ bs.take j) ++ [.int .u8 (y.toNat : Nat)] := by simp [Lib.byteCells]
                rw [e2]
                exact hown3
              · intro b hb
                have : g3 = b := by simpa [Value.ownBlock] using hb
                subst this
                rcases hg3 with h | h
                · exact hown2.2 _ h
                · exact ⟨by have := hb2.size; omega, by omega⟩)
            have HR := Lib.hid hrun
            clear hrun hown3 hk3 hg3 hz3 hown2 hgh2 hb2 hlen3
            have HM := Lib.hid hm2
            clear hm2
            go_wp2_with (at_builtin; refine wpList_append_eq rfl rfl rfl rfl HR.out ?_)
            go_roundw
            case rel => exact ⟨j + 1, some ⟨g3, 0, none⟩, cap3, m2 + 1, by omega, by go_num, rfl, by rw [HM.out, Nat.add_assoc], HG.out.1, HG.out.2.1, HG.out.2.2⟩
            case measure => simp [RowKit.intOf]; omega
          · obtain rfl : j = bs.length := by omega
            rw [List.take_length] at hown2
            have HG := Lib.hid (And.intro hown2 (And.intro hb2 hm2))
            clear hown2 hb2 hm2 hgh2
            go_wp2
            go_roundw
            case rel => exact ⟨k + 1, ao2, cp2, m2, acc ++ bs, by omega, by go_num, rfl, by rw [List.length_append, ← HN.out.2.1]; exact HG.out.2.2, HN.out.1.symm, HG.out.1.weaken (fun _ h => h.1), HG.out.2.1⟩
            case measure => simp [RowKit.intOf]; omega
      · obtain rfl : k = K := by omega
        have hxp := HK.out.bad x hx
        rw [hxp] at cP
        have CP := Lib.hid cP
        have HO : Hid (TextAns l k w (.returned (.tuple #[.string ⟨#[]⟩, .int .i64 k])) wr) := Lib.hid ⟨.inr ⟨hlt, rfl⟩, hb⟩
        clear hacc hm hown q ha hx hxp cP hb hkK
        go_wp2_with fail
        refine (CP.out _).mono ?_
        rintro e w1 ⟨rfl, rfl⟩
        go_wp2
        go_ret2
        exact HO.out
    · have hke : k = l.length := by omega
      have hKe : K = l.length := by omega
      rw [hke, List.take_length] at hacc
      have ht := hown.text
      have e1 : (⟨acc.toArray⟩ : ByteArray) = ⟨(textP l).toArray⟩ := by rw [hacc]
      rw [e1] at ht
      have HO : Hid (TextAns l K w (.returned (.tuple #[.string ⟨(textP l).toArray⟩, .int .i64 (-1)])) wr) := Lib.hid ⟨.inl ⟨hKe, rfl⟩, hb⟩
      clear hke hKe hacc e1 hown hk
      subst hm
      go_wp2_with (simp only [ht])
      all_goals
        go_ret2
        exact HO.out
end Go.Proofs.YtgjhingjheplfaaDoor
