/- Parts of the proof of what the last text says. -/
import Derived.Test.YtpddpglccjbpfaaDoorPb
import Derived.Test.YtpddpglccjbpfaaDoorCf
import Derived.Test.YtpddpglccjbpfaaDoorCk
import Derived.Test.YtpddpglccjbpfaaDoorK4
import Derived.Shelf.Strings.Builder2
import Derived.Test.YtpddpglccjbpfaaDoorShelf
import Derived.Test.YtpddpglccjbpfaaDoorProg
import Derived.Test.YtpddpglccjbpfaaDoorK3
import Derived.WalkKit
import Derived.LaidEql
import Derived.Stop.Asserts
import Derived.RowKitTokens
import Derived.Lib.Hide
import Derived.Test.YtpddpglccjbpfaaDoorCa
import Derived.Deep.RegionHeldLaw
import Derived.Test.YtpddpglccjbpfaaDoorPc
import Derived.Test.YtpddpglccjbpfaaDoorCp
/- The text of points: the document's Bytes, Point. -/
namespace Go.Proofs.YtpddpglccjbpfaaDoor
open Go Go.RowKit Go.Kt Go.Shelf

def pointB (c : Int) : Bool := charB c || decide (1114240 ≤ c ∧ c ≤ 1114367)
theorem pointB_iff (c : Int) : pointB c = true ↔ ((0 ≤ c ∧ c < 55296) ∨ (57343 < c ∧ c ≤ 1114111)) ∨ (1114240 ≤ c ∧ c ≤ 1114367) := by
  unfold pointB; rw [Bool.or_eq_true, charB_iff]; simp
/-- A point's bytes. -/
def bytesP (c : Int) : List UInt8 := if 1114112 < c then [UInt8.ofNat (c - 1114112).toNat] else (encC c).data.toList
def textP (l : List Int) : List UInt8 := l.flatMap bytesP
theorem textP_snoc (l : List Int) (c : Int) : textP (l ++ [c]) = textP l ++ bytesP c := by simp [textP]
theorem bytesP_len (c : Int) : 1 ≤ (bytesP c).length ∧ (bytesP c).length ≤ 4 := by
  unfold bytesP encC
  repeat' split
  all_goals simp
theorem textP_len (l : List Int) : (textP l).length ≤ 4 * l.length := by
  induction l with
  | nil => simp [textP]
  | cons c l ih => have := bytesP_len c; simp [textP] at *; omega

theorem point_any (c : Int) (w : World) :
    Calls Tryd.prog 99 #[.int .i64 c] w fun e w' => e = .returned (.bool (pointB c)) ∧ w = w' := by
  have C := Lib.hid (char_any c w)
  obtain ⟨R, hR⟩ : ∃ R, pointB c = R := ⟨_, rfl⟩
  have HR := Lib.hid hR
  rw [hR]; clear hR
  cases hc : charB c
  · rw [hc] at C
    have HC := Lib.hid hc
    clear hc
    go_enter Tryd.func99, Tryd.ntmps99
    go_wp2_with fail
    refine C.out.mono ?_
    rintro e w' ⟨rfl, rfl⟩
    go_wp2
    all_goals go_ret
    all_goals
      refine ⟨congrArg (fun b => Ending.returned (Value.bool b)) ?_, rfl⟩
      rw [← HR.out]
      unfold pointB
      rw [HC.out, Bool.eq_iff_iff]
      simp
      try omega
  · rw [hc] at C
    have HC := Lib.hid hc
    clear hc
    go_enter Tryd.func99, Tryd.ntmps99
    go_wp2_with fail
    refine C.out.mono ?_
    rintro e w' ⟨rfl, rfl⟩
    go_wp2
    all_goals go_ret
    all_goals
      refine ⟨congrArg (fun b => Ending.returned (Value.bool b)) ?_, rfl⟩
      rw [← HR.out]
      unfold pointB
      rw [HC.out]
      rfl

/-- A new block of bytes. -/
def NewB (l : List UInt8) (w : World) (e : Ending) (w' : World) : Prop :=
  e = .returned (.slice (some ⟨w.heap.size, 0, none⟩) l.length l.length) ∧ w' = w.alloc (.cells (Lib.byteCells l).toArray 5)

theorem ofNat_toNat (x : Int) (h0 : 0 ≤ x) (h1 : x < 256) : (((UInt8.ofNat x.toNat).toNat : Nat) : Int) = x := by
  simp; omega

set_option maxRecDepth 100000 in
set_option maxHeartbeats 1000000 in
theorem refBytes_any (c : Int) (w : World) (hc : pointB c = true) :
    Calls Tryd.prog 100 #[.int .i32 c] w (NewB (bytesP c) w) := by
  have hb := (pointB_iff c).1 hc
  have h0 : 0 ≤ c := by omega
  have h1 : c ≤ 1114367 := by omega
  have fin : ∀ l : List UInt8, bytesP c = l → NewB (bytesP c) w (.returned (.slice (some ⟨w.heap.size, 0, none⟩) l.length l.length)) (w.alloc (.cells (Lib.byteCells l).toArray 5)) := fun l h => by rw [h]; exact ⟨rfl, rfl⟩
  have Fin := Lib.hid fin
  clear fin
  by_cases a0 : 1114112 < c
  · have HF := Lib.hid (Fin.out [UInt8.ofNat (c - 1114112).toNat] (by unfold bytesP; rw [if_pos a0]))
    have e1 := Lib.hid (ofNat_toNat (c - 1114112) (by omega) (by omega))
    have hlo : 1114240 ≤ c := by omega
    clear Fin hb hc
    go_enter Tryd.func100, Tryd.ntmps100
    go_wp2
    go_ret
    have := HF.out
    simp only [Lib.byteCells, List.map_cons, List.map_nil, e1.out, List.length_cons, List.length_nil] at this
    exact this
  have h2 : c ≤ 1114111 := by omega
  by_cases a1 : c < 128
  · have HF := Lib.hid (Fin.out [UInt8.ofNat (c).toNat] (by unfold bytesP encC; rw [if_neg a0, if_pos a1]))
    have e1 := Lib.hid (ofNat_toNat (c) (by omega) (by omega))
    clear Fin hb hc
    go_enter Tryd.func100, Tryd.ntmps100
    go_wp2
    go_ret
    have := HF.out
    simp only [Lib.byteCells, List.map_cons, List.map_nil, e1.out, List.length_cons, List.length_nil] at this
    exact this
  by_cases a2 : c < 2048
  · have HF := Lib.hid (Fin.out [UInt8.ofNat (192 + c / 64).toNat, UInt8.ofNat (128 + c % 64).toNat] (by unfold bytesP encC; rw [if_neg a0, if_neg a1, if_pos a2]))
    have e1 := Lib.hid (ofNat_toNat (192 + c / 64) (by omega) (by omega))
    have e2 := Lib.hid (ofNat_toNat (128 + c % 64) (by omega) (by omega))
    clear Fin hb hc
    go_enter Tryd.func100, Tryd.ntmps100
    go_wp2
    go_ret
    have := HF.out
    simp only [Lib.byteCells, List.map_cons, List.map_nil, e1.out, e2.out, List.length_cons, List.length_nil] at this
    exact this
  by_cases a3 : c < 65536
  · have HF := Lib.hid (Fin.out [UInt8.ofNat (224 + c / 4096).toNat, UInt8.ofNat (128 + c / 64 % 64).toNat, UInt8.ofNat (128 + c % 64).toNat] (by unfold bytesP encC; rw [if_neg a0, if_neg a1, if_neg a2, if_pos a3]))
    have e1 := Lib.hid (ofNat_toNat (224 + c / 4096) (by omega) (by omega))
    have e2 := Lib.hid (ofNat_toNat (128 + c / 64 % 64) (by omega) (by omega))
    have e3 := Lib.hid (ofNat_toNat (128 + c % 64) (by omega) (by omega))
    clear Fin hb hc
    go_enter Tryd.func100, Tryd.ntmps100
    go_wp2
    go_ret
    have := HF.out
    simp only [Lib.byteCells, List.map_cons, List.map_nil, e1.out, e2.out, e3.out, List.length_cons, List.length_nil] at this
    exact this
  · have HF := Lib.hid (Fin.out [UInt8.ofNat (240 + c / 262144).toNat, UInt8.ofNat (128 + c / 4096 % 64).toNat, UInt8.ofNat (128 + c / 64 % 64).toNat, UInt8.ofNat (128 + c % 64).toNat] (by unfold bytesP encC; rw [if_neg a0, if_neg a1, if_neg a2, if_neg a3]))
    have e1 := Lib.hid (ofNat_toNat (240 + c / 262144) (by omega) (by omega))
    have e2 := Lib.hid (ofNat_toNat (128 + c / 4096 % 64) (by omega) (by omega))
    have e3 := Lib.hid (ofNat_toNat (128 + c / 64 % 64) (by omega) (by omega))
    have e4 := Lib.hid (ofNat_toNat (128 + c % 64) (by omega) (by omega))
    clear Fin hb hc
    go_enter Tryd.func100, Tryd.ntmps100
    go_wp2
    go_ret
    have := HF.out
    simp only [Lib.byteCells, List.map_cons, List.map_nil, e1.out, e2.out, e3.out, e4.out, List.length_cons, List.length_nil] at this
    exact this
end Go.Proofs.YtpddpglccjbpfaaDoor
/- The text of points: the document's Text. -/
namespace Go.Proofs.YtpddpglccjbpfaaDoor
open Go Go.RowKit Go.Kt Go.Shelf

/-- K is the place of the first number that is no point, or the list's length. -/
structure FirstBad (l : List Int) (K : Nat) : Prop where
  le : K ≤ l.length
  good : ∀ i x, i < K → l[i]? = some x → pointB x = true
  bad : ∀ x, l[K]? = some x → pointB x = false
theorem firstBad_ex : ∀ l : List Int, ∃ K, FirstBad l K
  | [] => ⟨0, Nat.le_refl _, fun i x h _ => by omega, fun x h => by simp at h⟩
  | x :: l => by
    obtain ⟨K, h1, h2, h3⟩ := firstBad_ex l
    cases hx : pointB x
    · exact ⟨0, Nat.zero_le _, fun i x h _ => by omega, fun y h => by simp at h; rw [← h]; exact hx⟩
    · refine ⟨K + 1, by simp; omega, fun i y hi h => ?_, fun y h => h3 y (by simpa using h)⟩
      cases i with
      | zero => simp at h; rw [← h]; exact hx
      | succ i => exact h2 i y (by omega) (by simpa using h)
theorem firstBad_all {l : List Int} (h : ∀ x ∈ l, pointB x = true) : FirstBad l l.length :=
  ⟨Nat.le_refl _, fun i x _ hx => h x (List.mem_of_getElem? hx), fun x hx => by simp at hx⟩

def TextAns (l : List Int) (K : Nat) (w : World) (e : Ending) (w' : World) : Prop :=
  (K = l.length ∧ e = .returned (.tuple #[.string ⟨(textP l).toArray⟩, .int .i64 (-1)]) ∨ K < l.length ∧ e = .returned (.tuple #[.string ⟨#[]⟩, .int .i64 K])) ∧ Below w.heap.size w w'

theorem OwnB.weaken {Y Z : Nat → Prop} {v : Value} {l : List UInt8} {A : World} (h : OwnB Y v l A) (hY : ∀ b, Y b → Z b) : OwnB Z v l A := ⟨h.1, fun g hg => hY g (h.2 g hg)⟩
theorem OwnB.keep {Y X : Nat → Prop} {v : Value} {l : List UInt8} {A B : World} (h : OwnB Y v l A) (hk : Keep X A B) (hX : ∀ b, X b → ¬ Y b) : OwnB Y v l B :=
  ⟨ownsF_keep h.1 hk (fun g hg hx => hX g hx (h.2 g hg)), h.2⟩
theorem OwnB.lt {Y : Nat → Prop} {v : Value} {l : List UInt8} {A : World} (h : OwnB Y v l A) : OwnB (fun b => Y b ∧ b < A.heap.size) v l A := ⟨h.1, fun g hg => ⟨h.2 g hg, (h.1.lt g hg).2⟩⟩

set_option maxRecDepth 100000 in
set_option maxHeartbeats 1000000 in
theorem refTextP_any (v : Value) (l : List Int) (K : Nat) (w : World) (h : Slg .i32 w v l) (hw : ∀ x ∈ l, -2147483648 ≤ x ∧ x ≤ 2147483647) (hl : l.length ≤ 35184372087808) (hK : FirstBad l K) :
    Calls Tryd.prog 73 #[v] w (TextAns l K w) := by
  obtain ⟨av, cv, rfl, h⟩ := h
  have H := Lib.hid h
  have HW := Lib.hid hw
  have HK := Lib.hid hK
  have hKl := hK.le
  clear h hw hK
  go_enter Tryd.func73, Tryd.ntmps73
  go_wp2
  go_loopw [4, 5] (fun o i wr => ∃ (k : Nat) (ao : Option Addr) (cp m : Nat) (acc : List UInt8), k ≤ K ∧ i = .int .i64 k ∧ o = .slice ao m cp ∧ m = acc.length ∧ acc = textP (l.take k) ∧ OwnB (fun b => w.heap.size ≤ b) (.slice ao m cp) acc wr ∧ Below w.heap.size w wr)
    (fun _ i _ => l.length - (RowKit.intOf i).toNat)
  case atStart => exact ⟨0, none, 0, 0, [], by omega, rfl, rfl, rfl, rfl, OwnB.nil _ _, Below.refl _ _⟩
  case round =>
    obtain ⟨k, ao, cp, m, acc, hk, rfl, rfl, hm, hacc, hown, hb⟩ := hrel
    by_cases hlt : k < l.length
    · obtain ⟨a, rfl, ha⟩ : ∃ a : Addr, av = some a ∧ ∀ i x, l[i]? = some x → w.cell? (a.add i) = some (.int .i32 x) := by
        rcases H.out with h | h
        · subst h; simp at hlt
        · exact h
      obtain ⟨x, hx⟩ : ∃ x, l[k]? = some x := ⟨l[k], List.getElem?_eq_getElem hlt⟩
      have q := ha k x hx
      have p1 := (hb.cell (lt_of_cell q)).trans q
      have hxr := HW.out x (List.mem_of_getElem? hx)
      have cP := point_any x
      by_cases hkK : k < K
      · have hxp := HK.out.good k x hkK hx
        rw [hxp] at cP
        have CP := Lib.hid cP
        have CB := Lib.hid (refBytes_any x wr hxp)
        have hbl := bytesP_len x
        have hsz : acc.length ≤ 4 * k := by
          rw [hacc]
          have := textP_len (l.take k)
          rw [List.length_take] at this
          omega
        have hnext : textP (l.take (k + 1)) = acc ++ bytesP x := by
          rw [List.take_add_one, hx]
          show textP (l.take k ++ [x]) = _
          rw [textP_snoc, hacc]
        have HN := Lib.hid (And.intro hnext (And.intro hm (And.intro hown hb)))
        clear hnext hacc hm hown q ha hx hxp cP hb
        generalize bytesP x = bs at *
        go_wp2_with fail
        refine (CP.out _).mono ?_
        rintro e w1 ⟨rfl, rfl⟩
        go_wp2_with fail
        refine CB.out.mono ?_
        rintro e w1 ⟨rfl, hw1⟩
        obtain ⟨g, hg⟩ : ∃ g, wr.heap.size = g := ⟨_, rfl⟩
        have hgh : w1.heap[g]? = some (.cells (Lib.byteCells bs).toArray 5 (0, 0)) := by rw [hw1, ← hg]; exact World.alloc_heap_new wr _
        have hb1 : Below w.heap.size w w1 := by rw [hw1]; exact HN.out.2.2.2.alloc HN.out.2.2.2.size _
        have hgw : w.heap.size ≤ g := by rw [← hg]; exact HN.out.2.2.2.size
        have hown1 : OwnB (fun b => w.heap.size ≤ b ∧ b ≠ g) (.slice ao m cp) acc w1 := by
          refine (HN.out.2.2.1.lt.keep (X := fun _ => False) (B := w1) (by rw [hw1]; exact (Keep.refl _ _).alloc _) (fun _ h => h.elim)).weaken ?_
          rintro b ⟨h1, h2⟩
          exact ⟨h1, by omega⟩
        have H1 := Lib.hid (And.intro hgh (And.intro hb1 hown1))
        rw [hg]
        clear hw1 hgh hb1 hown1
        go_wp2
        clear p1
        go_loopw [4, 7] (fun o jv wi => ∃ (j : Nat) (ao : Option Addr) (cp m' : Nat), j ≤ bs.length ∧ jv = .int .i64 j ∧ o = .slice ao m' cp ∧ m' = m + j ∧ OwnB (fun b => w.heap.size ≤ b ∧ b ≠ g) (.slice ao m' cp) (acc ++ bs.take j) wi ∧
            wi.heap[g]? = some (.cells (Lib.byteCells bs).toArray 5 (0, 0)) ∧ Below w.heap.size w wi)
          (fun _ jv _ => bs.length - (RowKit.intOf jv).toNat)
        case atStart => exact ⟨0, ao, cp, m, by omega, rfl, rfl, rfl, by simpa using H1.out.2.2, H1.out.1, H1.out.2.1⟩
        case round =>
          obtain ⟨j, ao2, cp2, m2, hj, rfl, rfl, hm2, hown2, hgh2, hb2⟩ := hrel
          by_cases hjl : j < bs.length
          · obtain ⟨y, hy⟩ : ∃ y, bs[j]? = some y := ⟨bs[j], List.getElem?_eq_getElem hjl⟩
            have pc : wr.cell? ⟨g, j, none⟩ = some (.int .u8 (y.toNat : Nat)) := by
              rw [Lib.cell_of_heap hgh2]
              simp [Lib.byteCells, hy]
            obtain ⟨g3, cap3, w3, hrun, hown3, hk3, hg3, hz3⟩ := append_b (P := Tryd.prog) wr 61 5 Tryd.underlying61 tinfo5 hown2.1 (.int .u8 (y.toNat : Nat)) rfl (by rw [List.length_append, List.length_take]; omega)
            have hlen3 : (acc ++ bs.take j).length = m2 := by rw [List.length_append, List.length_take, hm2, HN.out.2.1]; omega
            rw [hlen3] at hrun hown3
            have HG : Hid (OwnB (fun b => w.heap.size ≤ b ∧ b ≠ g) (.slice (some ⟨g3, 0, none⟩) (m2 + 1) cap3) (acc ++ bs.take (j + 1)) w3 ∧ w3.heap[g]? = some (.cells (Lib.byteCells bs).toArray 5 (0, 0)) ∧ Below w.heap.size w w3) := Lib.hid (by
              have hlt : g < wr.heap.size := (Array.getElem?_eq_some_iff.1 hgh2).1
              refine ⟨⟨?_, ?_⟩, hk3.heap hgh2 (fun h => (hown2.2 _ h).2 rfl), hb2.trans (hk3.below hb2.size fun b h => (hown2.2 b h).1)⟩
              · have e1 : (acc ++ bs.take (j + 1)).length = m2 + 1 := by rw [List.length_append, List.length_take, hm2, HN.out.2.1]; omega
                rw [e1, List.take_add_one, hy]
                have e2 : Lib.byteCells (acc ++ (bs.take j ++ (some y).toList)) = Lib.byteCells (acc ++ bs.take j) ++ [.int .u8 (y.toNat : Nat)] := by simp [Lib.byteCells]
                rw [e2]
                exact hown3
              · intro b hb
                have : g3 = b := by simpa [Value.ownBlock] using hb
                subst this
                rcases hg3 with h | h
                · exact hown2.2 _ h
                · exact ⟨by have := hb2.size; omega, by omega⟩)
            have HR := Lib.hid hrun
            clear hrun hown3 hk3 hg3 hz3 hown2 hgh2 hb2 hlen3
            have HM := Lib.hid hm2
            clear hm2
            go_wp2_with (at_builtin; refine wpList_append_eq rfl rfl rfl rfl HR.out ?_)
            go_roundw
            case rel => exact ⟨j + 1, some ⟨g3, 0, none⟩, cap3, m2 + 1, by omega, by go_num, rfl, by rw [HM.out, Nat.add_assoc], HG.out.1, HG.out.2.1, HG.out.2.2⟩
            case measure => simp [RowKit.intOf]; omega
          · obtain rfl : j = bs.length := by omega
            rw [List.take_length] at hown2
            have HG := Lib.hid (And.intro hown2 (And.intro hb2 hm2))
            clear hown2 hb2 hm2 hgh2
            go_wp2
            go_roundw
            case rel => exact ⟨k + 1, ao2, cp2, m2, acc ++ bs, by omega, by go_num, rfl, by rw [List.length_append, ← HN.out.2.1]; exact HG.out.2.2, HN.out.1.symm, HG.out.1.weaken (fun _ h => h.1), HG.out.2.1⟩
            case measure => simp [RowKit.intOf]; omega
      · obtain rfl : k = K := by omega
        have hxp := HK.out.bad x hx
        rw [hxp] at cP
        have CP := Lib.hid cP
        have HO : Hid (TextAns l k w (.returned (.tuple #[.string ⟨#[]⟩, .int .i64 k])) wr) := Lib.hid ⟨.inr ⟨hlt, rfl⟩, hb⟩
        clear hacc hm hown q ha hx hxp cP hb hkK
        go_wp2_with fail
        refine (CP.out _).mono ?_
        rintro e w1 ⟨rfl, rfl⟩
        go_wp2
        go_ret2
        exact HO.out
    · have hke : k = l.length := by omega
      have hKe : K = l.length := by omega
      rw [hke, List.take_length] at hacc
      have ht := hown.text
      have e1 : (⟨acc.toArray⟩ : ByteArray) = ⟨(textP l).toArray⟩ := by rw [hacc]
      rw [e1] at ht
      have HO : Hid (TextAns l K w (.returned (.tuple #[.string ⟨(textP l).toArray⟩, .int .i64 (-1)])) wr) := Lib.hid ⟨.inl ⟨hKe, rfl⟩, hb⟩
      clear hke hKe hacc e1 hown hk
      subst hm
      go_wp2_with (simp only [ht])
      all_goals
        go_ret2
        exact HO.out
end Go.Proofs.YtpddpglccjbpfaaDoor
/- The contracts of the library functions that layer 2 calls besides (strings.Builder.Grow, unicode/utf8.ValidRune), laid over this translation. -/
namespace Go.Proofs
open Go.Shelf
def Tryd.lays241_ren : Go.Shelf.Ren := ⟨fun | 241 => 89 | 277 => 114 | n => n, fun | 70 => 84 | 3 => 3 | 0 => 0 | 72 => 86 | 37 => 61 | 5 => 5 | n => n, fun | n => n⟩
theorem Tryd.lays241 : Go.Proofs.Lays.n241 Tryd.prog Tryd.lays241_ren := {
  mixed := by kernel_rfl
  f241 := Tryd.func89.trans (congrArg some (by kernel_rfl))
  f277 := Tryd.func114.trans (congrArg some (by kernel_rfl))
  t0 := Tryd.underlying0
  a0 := Tryd.isAgg0
  z0 := Tryd.sizeOf0
  v0 := Tryd.zeroValue0
  t3 := Tryd.underlying3
  a3 := Tryd.isAgg3
  z3 := Tryd.sizeOf3
  v3 := Tryd.zeroValue3
  t37 := Tryd.underlying61
  a37 := Tryd.isAgg61
  z37 := Tryd.sizeOf61
  v37 := Tryd.zeroValue61
  t70 := Tryd.underlying84
  a70 := Tryd.isAgg84
  z70 := Tryd.sizeOf84
  v70 := Tryd.zeroValue84
  t72 := Tryd.underlying86
  a72 := Tryd.isAgg86
  z72 := Tryd.sizeOf86
  v72 := Tryd.zeroValue86 }
theorem Tryd.Builder_Extra_241 : Builder.Extra Tryd.prog Tryd.lays241_ren := {
  sizeBuilder := by kernel_rfl
  liesBuilder := by kernel_rfl
  t5 := Tryd.underlying5
  a5 := Tryd.isAgg5
  z5 := Tryd.sizeOf5
  v5 := Tryd.zeroValue5
  infoByte := by kernel_rfl
  cellsByte := by kernel_rfl
  sizeByte := by kernel_rfl
  neB5 := by decide }
open Go.RowKit in
theorem Tryd.Builder_grow_fresh (B b n : Nat) (w : World) (hB : B ≤ b) (hbk : w.heap[b]? = some (.cells #[.pointer (some ⟨b, 0, none⟩), .slice none 0 0] 86 (0, 0))) (hBw : B ≤ w.heap.size) (hn : n ≤ 281474976710656) :
    Calls Tryd.prog 89 #[.pointer (some ⟨b, 0, none⟩), .int .i64 n] w fun e w' => e = .returned (.tuple #[]) ∧ (Lib.BuilderAt 86 5 B b (.pointer (some ⟨b, 0, none⟩)) [] w' ∧ Below B w w') := Any.Builder_grow_fresh Tryd.lays241 Tryd.Builder_Extra_241 B b n w hB hbk hBw hn
def Tryd.lays165_ren : Go.Shelf.Ren := ⟨fun | 165 => 59 | 240 => 84 | 241 => 89 | 276 => 111 | 277 => 114 | n => n, fun | 70 => 84 | 3 => 3 | 0 => 0 | 4 => 4 | 9 => 9 | 20 => 20 | 72 => 86 | 37 => 61 | 164 => 148 | 5 => 5 | n => n, fun | n => n⟩
theorem Tryd.lays165 : Go.Proofs.Lays.n165 Tryd.prog Tryd.lays165_ren := {
  mixed := by kernel_rfl
  f165 := Tryd.func59.trans (congrArg some (by kernel_rfl))
  f240 := Tryd.func84.trans (congrArg some (by kernel_rfl))
  f241 := Tryd.func89.trans (congrArg some (by kernel_rfl))
  f276 := Tryd.func111.trans (congrArg some (by kernel_rfl))
  f277 := Tryd.func114.trans (congrArg some (by kernel_rfl))
  t0 := Tryd.underlying0
  a0 := Tryd.isAgg0
  z0 := Tryd.sizeOf0
  v0 := Tryd.zeroValue0
  t3 := Tryd.underlying3
  a3 := Tryd.isAgg3
  z3 := Tryd.sizeOf3
  v3 := Tryd.zeroValue3
  t4 := Tryd.underlying4
  a4 := Tryd.isAgg4
  z4 := Tryd.sizeOf4
  v4 := Tryd.zeroValue4
  t9 := Tryd.underlying9
  a9 := Tryd.isAgg9
  z9 := Tryd.sizeOf9
  v9 := Tryd.zeroValue9
  t20 := Tryd.underlying20
  a20 := Tryd.isAgg20
  z20 := Tryd.sizeOf20
  v20 := Tryd.zeroValue20
  t37 := Tryd.underlying61
  a37 := Tryd.isAgg61
  z37 := Tryd.sizeOf61
  v37 := Tryd.zeroValue61
  t70 := Tryd.underlying84
  a70 := Tryd.isAgg84
  z70 := Tryd.sizeOf84
  v70 := Tryd.zeroValue84
  t72 := Tryd.underlying86
  a72 := Tryd.isAgg86
  z72 := Tryd.sizeOf86
  v72 := Tryd.zeroValue86
  t164 := Tryd.underlying148
  a164 := Tryd.isAgg148
  z164 := Tryd.sizeOf148
  v164 := Tryd.zeroValue148 }
theorem Tryd.Builder_Extra_165 : Builder.Extra Tryd.prog Tryd.lays165_ren := {
  sizeBuilder := by kernel_rfl
  liesBuilder := by kernel_rfl
  t5 := Tryd.underlying5
  a5 := Tryd.isAgg5
  z5 := Tryd.sizeOf5
  v5 := Tryd.zeroValue5
  infoByte := by kernel_rfl
  cellsByte := by kernel_rfl
  sizeByte := by kernel_rfl
  neB5 := by decide }
open Go.RowKit in
theorem Tryd.Builder_Grow_fresh (B b n : Nat) (w : World) (hB : B ≤ b) (hbk : w.heap[b]? = some (.cells #[.pointer none, .slice none 0 0] 86 (0, 0))) (hBw : B ≤ w.heap.size) (hn : n ≤ 281474976710656) :
    Calls Tryd.prog 59 #[.pointer (some ⟨b, 0, none⟩), .int .i64 n] w fun e w' => e = .returned (.tuple #[]) ∧ (Lib.BuilderAt 86 5 B b (.pointer (some ⟨b, 0, none⟩)) [] w' ∧ Below B w w') := Any.Builder_Grow_fresh Tryd.lays165 Tryd.Builder_Extra_165 B b n w hB hbk hBw hn
def Tryd.lays119_ren : Go.Shelf.Ren := ⟨fun | 119 => 60 | n => n, fun | 21 => 21 | 4 => 4 | n => n, fun | n => n⟩
theorem Tryd.lays119 : Go.Proofs.Lays.n119 Tryd.prog Tryd.lays119_ren := {
  mixed := by kernel_rfl
  f119 := Tryd.func60.trans (congrArg some (by kernel_rfl))
  t4 := Tryd.underlying4
  a4 := Tryd.isAgg4
  z4 := Tryd.sizeOf4
  v4 := Tryd.zeroValue4
  t21 := Tryd.underlying21
  a21 := Tryd.isAgg21
  z21 := Tryd.sizeOf21
  v21 := Tryd.zeroValue21 }
theorem Tryd.utf8_ValidRune (r : Int) (w : World) :
    Calls Tryd.prog 60 #[.int .i32 r] w fun e w' => e = .returned (.bool (Lib.validRune r)) ∧ w' = w := Any.utf8_ValidRune Tryd.lays119 r w
end Go.Proofs
/- Errors of package api: errors.Is at a fault and at a number; errors.As at a fault. -/
namespace Go.Proofs.YtpddpglccjbpfaaDoor
open Go Go.RowKit Go.Kt Go.Extern.Stop Go.Stop Go.Extern

abbrev fv (k l a : Int) : Value := .agg #[.int .i64 k, .int .i64 l, .int .i64 a]

/-- Two numbers of errors, held against each other. -/
theorem errno_eq (a b : Int) (w : World) : (binOp .eql 33 (.iface 79 (.int .i64 a)) (.iface 79 (.int .i64 b))).run Tryd.prog w = .ok (.bool (a == b)) w := by
  obtain ⟨i, hi, hc⟩ := Option.map_eq_some_iff.1 (show (Tryd.prog.info? 79).map (·.comparable) = some true by kernel_rfl)
  have h1 : ∀ d, (Op.equalIn (d + 2) 33 (.iface 79 (.int .i64 a)) (.iface 79 (.int .i64 b))).run Tryd.prog w = .ok (a == b) w := fun d => by
    simp [Op.equalIn, run_underlying Tryd.underlying33, run_underlying Tryd.underlying79, typeInfo, hi, hc]
  simp only [binOp]
  simp [Op.equal, Op.maxDepth, h1 9998]

def xComparable : Array Value → Sem Value := ReflectliteType.method fun t => do Rtype.noPackHeld "Comparable" t; pure (.bool (← typeInfo t).comparable)
theorem errTypeOf (v : Value) (w : World) : (ReflectliteType.typeOf #[.iface 79 v]).run Tryd.prog w = .ok (.iface 187 (.agg #[.pointer (some ⟨10, 79, none⟩)])) w := by kernel_rfl
theorem errComparable (w : World) : (xComparable #[.agg #[.pointer (some ⟨10, 79, none⟩)]]).run Tryd.prog w = .ok (.bool true) w := by kernel_rfl
theorem errMethodComparable (v : Value) (w : World) : (Go.method 361 187 v "Comparable").run Tryd.prog w = .ok (199, v) w := by kernel_rfl
theorem errNoIsF (v : Value) (xT : TypeId) (w : World) : (Instr.typeAssert (.iface 81 v) xT 199 true).run Tryd.prog w = .ok (.tuple #[.nilIface, .bool false]) w := run_typeAssert_lacksB Tryd.underlying199 (by kernel_rfl) (by kernel_rfl) v xT w
theorem errNoIsE (v : Value) (xT : TypeId) (w : World) : (Instr.typeAssert (.iface 79 v) xT 199 true).run Tryd.prog w = .ok (.tuple #[.nilIface, .bool false]) w := run_typeAssert_lacksB Tryd.underlying199 (by kernel_rfl) (by kernel_rfl) v xT w
theorem errNoUnwrapE (v : Value) (xT : TypeId) (w : World) : (Instr.typeAssert (.iface 79 v) xT 194 true).run Tryd.prog w = .ok (.tuple #[.nilIface, .bool false]) w := run_typeAssert_lacksB Tryd.underlying194 (by kernel_rfl) (by kernel_rfl) v xT w
theorem errNoUnwrapsE (v : Value) (xT : TypeId) (w : World) : (Instr.typeAssert (.iface 79 v) xT 196 true).run Tryd.prog w = .ok (.tuple #[.nilIface, .bool false]) w := run_typeAssert_lacksB Tryd.underlying196 (by kernel_rfl) (by kernel_rfl) v xT w
theorem errHasUnwrapF (v : Value) (xT : TypeId) (w : World) : (Instr.typeAssert (.iface 81 v) xT 194 true).run Tryd.prog w = .ok (.tuple #[.iface 81 v, .bool true]) w := run_typeAssert_hasB Tryd.underlying194 (by kernel_rfl) v xT w
theorem errMethodUnwrap (v : Value) (w : World) : (Go.method 361 81 v "Unwrap").run Tryd.prog w = .ok (192, v) w := by kernel_rfl

set_option maxRecDepth 100000 in
/-- errors.Is of a fault and a number. -/
theorem is_fault (k l a n : Int) (w : World) :
    Calls Tryd.prog 91 #[.iface 81 (fv k l a), .iface 79 (.int .i64 n)] w fun e w' => e = .returned (.bool (k == n)) ∧ Below w.heap.size w w' := by
  have h8 := @run_callFunc_extern Tryd.prog 119 _ ReflectliteType.typeOf Tryd.func119 (by kernel_rfl) (by kernel_rfl) (by kernel_rfl) (by kernel_rfl)
  have h32 := @run_callFunc_extern Tryd.prog 199 _ xComparable Tryd.func199 (by kernel_rfl) (by kernel_rfl) (by kernel_rfl) (by kernel_rfl)
  have tT := errTypeOf
  have cT := errComparable
  have mR := errMethodComparable
  have nF := errNoIsF
  have nE := errNoIsE
  have uE := errNoUnwrapE
  have vE := errNoUnwrapsE
  have uF := errHasUnwrapF
  have mU := errMethodUnwrap
  have hty := run_eql_iface_types (P := Tryd.prog) 81 79 (fv k l a) (.int .i64 n) Tryd.underlying33 (by decide)
  have heq := errno_eq k n
  by_cases hkn : k = n
  · subst hkn
    have hb : (k == k) = true := by simp
    rw [hb] at heq ⊢
    clear hb
    go_enter Tryd.func91, Tryd.ntmps91
    go_wp2
    refine wp_loop_rounds 2 ?_
    rw [rounds_succ]
    go_wp2
    rw [rounds_succ]
    go_wp2
    go_ret
    exact ⟨rfl, (Below.refl _ _).alloc (Nat.le_refl _) _⟩
  · have hb : (k == n) = false := by simp [hkn]
    rw [hb] at heq ⊢
    clear hb
    go_enter Tryd.func91, Tryd.ntmps91
    go_wp2
    refine wp_loop_rounds 2 ?_
    rw [rounds_succ]
    go_wp2
    rw [rounds_succ]
    go_wp2
    go_ret
    exact ⟨rfl, (Below.refl _ _).alloc (Nat.le_refl _) _⟩

set_option maxRecDepth 100000 in
/-- errors.Is of two numbers. -/
theorem is_errno (k n : Int) (w : World) :
    Calls Tryd.prog 91 #[.iface 79 (.int .i64 k), .iface 79 (.int .i64 n)] w fun e w' => e = .returned (.bool (k == n)) ∧ w = w' := by
  have h8 := @run_callFunc_extern Tryd.prog 119 _ ReflectliteType.typeOf Tryd.func119 (by kernel_rfl) (by kernel_rfl) (by kernel_rfl) (by kernel_rfl)
  have h32 := @run_callFunc_extern Tryd.prog 199 _ xComparable Tryd.func199 (by kernel_rfl) (by kernel_rfl) (by kernel_rfl) (by kernel_rfl)
  have tT := errTypeOf
  have cT := errComparable
  have mR := errMethodComparable
  have nE := errNoIsE
  have uE := errNoUnwrapE
  have vE := errNoUnwrapsE
  have heq := errno_eq k n
  by_cases hkn : k = n
  · subst hkn
    have hb : (k == k) = true := by simp
    rw [hb] at heq ⊢
    clear hb
    go_enter Tryd.func91, Tryd.ntmps91
    go_wp2
    refine wp_loop_rounds 1 ?_
    rw [rounds_succ]
    go_wp2
    go_ret
    exact ⟨rfl, rfl⟩
  · have hb : (k == n) = false := by simp [hkn]
    rw [hb] at heq ⊢
    clear hb
    go_enter Tryd.func91, Tryd.ntmps91
    go_wp2
    refine wp_loop_rounds 1 ?_
    rw [rounds_succ]
    go_wp2
    go_ret
    exact ⟨rfl, rfl⟩
end Go.Proofs.YtpddpglccjbpfaaDoor
/- errors.As of a fault, at a fault's variable. -/
namespace Go.Proofs.YtpddpglccjbpfaaDoor
open Go Go.RowKit Go.Kt Go.Extern.Stop Go.Stop Go.Extern

def xValueOf (args : Array Value) : Sem Value := ReflectliteValue.unpack (args.getD 0 (.tuple #[]))
def xType : Array Value → Sem Value := ReflectliteValue.methodAny (ReflectliteValue.valueError "reflectlite.Value.Type" 0) fun t _ _ _ => ReflectliteType.toType t
def xKind : Array Value → Sem Value := ReflectliteType.abiMethod fun t => do pure (.int .u8 (← Rtype.kind t))
def xIsNil : Array Value → Sem Value := ReflectliteValue.method (ReflectliteValue.valueError "reflectlite.Value.IsNil" 0) ReflectliteValue.isNil
def xElemT : Array Value → Sem Value := ReflectliteType.method ReflectliteType.elem
def xImplements : Array Value → Sem Value := ReflectliteType.relation "Implements" ReflectliteType.implements_
def xAssignable : Array Value → Sem Value := ReflectliteType.relation "AssignableTo" ReflectliteType.assignableTo
def xElemV : Array Value → Sem Value := ReflectliteValue.method (ReflectliteValue.valueError "reflectlite.Value.Elem" 0) ReflectliteValue.elem
def xSet : Array Value → Sem Value := ReflectliteValue.set

abbrev tyH (t : Nat) : Value := .pointer (some ⟨10, t, none⟩)
abbrev vagg (t : Nat) (a : Addr) (f : Int) : Value := .agg #[tyH t, .pointer (some a), .int .u64 f]

theorem asValueOfP (t : Addr) (w : World) : (xValueOf #[.iface 132 (.pointer (some t))]).run Tryd.prog w
    = .ok (vagg 132 ⟨w.heap.size, 0, none⟩ 150) (w.alloc (.cells #[.pointer (some t)] 132)) := by kernel_rfl
theorem asTypeP (a : Addr) (w : World) : (xType #[vagg 132 a 150]).run Tryd.prog w = .ok (.iface 187 (.agg #[tyH 132])) w := by kernel_rfl
theorem asMethodKind (h : Value) (w : World) : (Go.method 361 187 (.agg #[h]) "Kind").run Tryd.prog w = .ok (187, h) w := by kernel_rfl
theorem asKindP (w : World) : (xKind #[tyH 132]).run Tryd.prog w = .ok (.int .u8 22) w := by kernel_rfl
theorem asKindF (w : World) : (xKind #[tyH 81]).run Tryd.prog w = .ok (.int .u8 25) w := by kernel_rfl

theorem rlm (z : Sem Value) (f : TypeId → Addr → Nat → Nat → Sem Value) (v : Value) :
    ReflectliteValue.method z f #[v] = (do match ← ReflectliteValue.parts v with | none => z | some (t, a, fl) => f t a fl (fl % 32)) := rfl
theorem asPartsP (a : Addr) (w : World) : (ReflectliteValue.parts (vagg 132 a 150)).run Tryd.prog w = .ok (some (132, a, 150)) w := by kernel_rfl
theorem asIsNil (a p : Addr) (W : World) (ha : W.cell? a = some (.pointer (some p))) : (xIsNil #[vagg 132 a 150]).run Tryd.prog W = .ok (.bool false) W := by
  unfold xIsNil
  rw [rlm]
  simp only [Sem.run_bind, asPartsP, Result.andThen]
  simp [ReflectliteValue.isNil, loadVar, isAgg, underlying, Tryd.underlying132, ha, Result.andThen]
theorem asMethodElem (h : Value) (w : World) : (Go.method 361 187 (.agg #[h]) "Elem").run Tryd.prog w = .ok (200, .agg #[h]) w := by kernel_rfl
theorem asMethodImplements (h : Value) (w : World) : (Go.method 361 187 (.agg #[h]) "Implements").run Tryd.prog w = .ok (201, .agg #[h]) w := by kernel_rfl
theorem asMethodAssignable (h : Value) (w : World) : (Go.method 361 187 (.agg #[h]) "AssignableTo").run Tryd.prog w = .ok (198, .agg #[h]) w := by kernel_rfl
theorem asElemT (w : World) : (xElemT #[.agg #[tyH 132]]).run Tryd.prog w = .ok (.iface 187 (.agg #[tyH 81])) w := by kernel_rfl
theorem asImplements (w : World) : (xImplements #[.agg #[tyH 81], .iface 187 (.agg #[tyH 33])]).run Tryd.prog w = .ok (.bool true) w := by kernel_rfl
theorem asTypeOfF (v : Value) (w : World) : (ReflectliteType.typeOf #[.iface 81 v]).run Tryd.prog w = .ok (.iface 187 (.agg #[tyH 81])) w := by kernel_rfl
theorem asAssignable (w : World) : (xAssignable #[.agg #[tyH 81], .iface 187 (.agg #[tyH 81])]).run Tryd.prog w = .ok (.bool true) w := by kernel_rfl
theorem asValueOfF (k l a : Int) (w : World) : (xValueOf #[.iface 81 (fv k l a)]).run Tryd.prog w
    = .ok (vagg 81 ⟨w.heap.size, 0, none⟩ 153) (w.alloc (.cells #[.int .i64 k, .int .i64 l, .int .i64 a] 81)) := by kernel_rfl
theorem asElemOfP (w : World) : (Rtype.elem? 132).run Tryd.prog w = .ok (some 81) w := by kernel_rfl
theorem asMkF (p : Addr) (w : World) : (ReflectliteValue.mk 81 p ReflectliteValue.flagAddr).run Tryd.prog w = .ok (vagg 81 p 409) w := by kernel_rfl
theorem asElemV (a p : Addr) (W : World) (ha : W.cell? a = some (.pointer (some p))) : (xElemV #[vagg 132 a 150]).run Tryd.prog W = .ok (vagg 81 p 409) W := by
  unfold xElemV
  rw [rlm]
  simp only [Sem.run_bind, asPartsP, Result.andThen]
  simp [ReflectliteValue.elem, loadVar, isAgg, underlying, Tryd.underlying132, ha, Result.andThen, asElemOfP, asMkF]
theorem rls (v x : Value) : ReflectliteValue.set #[v, x] = (do
    let (some (dst, a, fl), some (src, b, _)) := (← ReflectliteValue.parts v, ← ReflectliteValue.parts x)
      | unsupported (.noEntry "extern/(internal/reflectlite.Value).Set.zeroValue")
    if fl / ReflectliteValue.flagAddr % 2 == 0 then unsupported (.noEntry "extern/(internal/reflectlite.Value).Set.unaddressable")
    let val ← loadVar src b
    if ← Rtype.directlyAssignable dst src then storeVar dst a val
    else if ← Rtype.implements dst src then
      if (← Rtype.kind src) == 20 then
        match val with
        | .nilIface => unsupported (.noEntry "extern/reflectlite: a nil value of one interface type handed on as a value of another")
        | _ => storeVar dst a val
      else storeVar dst a (.iface src val)
    else panicString ("reflectlite.Set: value of type " ++ (← Rtype.spelt src) ++ " is not assignable to type " ++ (← Rtype.spelt dst))
    pure (.tuple #[])) := rfl
theorem asPartsFa (a : Addr) (w : World) : (ReflectliteValue.parts (vagg 81 a 409)).run Tryd.prog w = .ok (some (81, a, 409)) w := by kernel_rfl
theorem asPartsF (a : Addr) (w : World) : (ReflectliteValue.parts (vagg 81 a 153)).run Tryd.prog w = .ok (some (81, a, 153)) w := by kernel_rfl
theorem asDirect (w : World) : (Rtype.directlyAssignable 81 81).run Tryd.prog w = .ok true w := by kernel_rfl
theorem asSize (w : World) : (sizeOf 81).run Tryd.prog w = .ok 3 w := by kernel_rfl
theorem asLoad (b : Nat) (x y z : Value) (t : TypeId) (fr : Nat × Nat) (W : World) (hb : W.heap[b]? = some (.cells #[x, y, z] t fr)) : (loadVar 81 ⟨b, 0, none⟩).run Tryd.prog W = .ok (.agg #[x, y, z]) W := by
  have h0 : W.cell? ⟨b, 0, none⟩ = some x := by rw [World.cell?, hb]; rfl
  have h1 : W.cell? ⟨b, 1, none⟩ = some y := by rw [World.cell?, hb]; rfl
  have h2 : W.cell? ⟨b, 2, none⟩ = some z := by rw [World.cell?, hb]; rfl
  simp [loadVar, isAgg, underlying, Tryd.underlying81, Result.andThen, loadCells, loadCellsFrom, Addr.add, h0, h1, h2]
theorem asStore (g : Nat) (x y z x' y' z' : Value) (t : TypeId) (W : World) (hg : W.heap[g]? = some (.cells #[x, y, z] t (0, 0))) (k1 : x'.oneCell' = true) (k2 : y'.oneCell' = true) (k3 : z'.oneCell' = true) : (storeVar 81 ⟨g, 0, none⟩ (.agg #[x', y', z'])).run Tryd.prog W = .ok () (((W.setCell ⟨g, 0, none⟩ x').setCell ⟨g, 1, none⟩ y').setCell ⟨g, 2, none⟩ z') := by
  have e1 : (W.setCell ⟨g, 0, none⟩ x').heap[g]? = some (.cells #[x', y, z] t (0, 0)) := by simp [World.setCell, Array.getElem?_modify, hg]
  have e2 : ((W.setCell ⟨g, 0, none⟩ x').setCell ⟨g, 1, none⟩ y').heap[g]? = some (.cells #[x', y', z] t (0, 0)) := by
    rw [World.setCell, Array.getElem?_modify]; simp [e1]
  have h0 : W.cell? ⟨g, 0, none⟩ = some x := by rw [World.cell?, hg]; rfl
  have h1 : (W.setCell ⟨g, 0, none⟩ x').cell? ⟨g, 1, none⟩ = some y := by rw [World.cell?, e1]; rfl
  have h2 : ((W.setCell ⟨g, 0, none⟩ x').setCell ⟨g, 1, none⟩ y').cell? ⟨g, 2, none⟩ = some z := by rw [World.cell?, e2]; rfl
  have f0 : W.frozen? ⟨g, 0, none⟩ = false := by simp [World.frozen?, hg]
  have f1 : (W.setCell ⟨g, 0, none⟩ x').frozen? ⟨g, 1, none⟩ = false := by simp [World.frozen?, e1]
  have f2 : ((W.setCell ⟨g, 0, none⟩ x').setCell ⟨g, 1, none⟩ y').frozen? ⟨g, 2, none⟩ = false := by simp [World.frozen?, e2]
  have c : (Value.agg #[x', y', z']).cells = #[x', y', z'] := rfl
  simp [storeVar, c, storeCells, Addr.add, Result.andThen]
  simp [run_store Tryd.prog _ _ _ _ k1, run_store Tryd.prog _ _ _ _ k2, run_store Tryd.prog _ _ _ _ k3, h0, f0, h1, f1, h2, f2]
theorem asSet (g b : Nat) (x y z x' y' z' : Value) (t tb : TypeId) (fr : Nat × Nat) (W : World) (hb : W.heap[b]? = some (.cells #[x', y', z'] tb fr)) (hg : W.heap[g]? = some (.cells #[x, y, z] t (0, 0))) (k1 : x'.oneCell' = true) (k2 : y'.oneCell' = true) (k3 : z'.oneCell' = true) :
    (xSet #[vagg 81 ⟨g, 0, none⟩ 409, vagg 81 ⟨b, 0, none⟩ 153]).run Tryd.prog W = .ok (.tuple #[]) (((W.setCell ⟨g, 0, none⟩ x').setCell ⟨g, 1, none⟩ y').setCell ⟨g, 2, none⟩ z') := by
  unfold xSet
  rw [rls]
  simp only [Sem.run_bind, asPartsFa, asPartsF, Result.andThen]
  simp [ReflectliteValue.flagAddr, asLoad b x' y' z' tb fr W hb, Result.andThen, asDirect, asStore g x y z x' y' z' t W hg k1 k2 k3]

end Go.Proofs.YtpddpglccjbpfaaDoor
/- errors.As of a fault, at a fault's variable: the walk. -/
namespace Go.Proofs.YtpddpglccjbpfaaDoor
open Go Go.RowKit Go.Kt Go.Extern.Stop Go.Stop Go.Extern

def AsOut (g : Nat) (k l a : Int) (w : World) (e : Ending) (w' : World) : Prop :=
  e = .returned (.bool true) ∧ w'.heap[g]? = some (.cells #[.int .i64 k, .int .i64 l, .int .i64 a] 81 (0, 0)) ∧ Keep (fun b => b = g) w w'

set_option maxRecDepth 100000 in
set_option maxHeartbeats 4000000 in
theorem as_fault (k l a x y z : Int) (g : Nat) (w : World) (hE : w.cell? ⟨1, 0, none⟩ = some (.iface 187 (.agg #[tyH 33]))) (hg : w.heap[g]? = some (.cells #[.int .i64 x, .int .i64 y, .int .i64 z] 81 (0, 0))) :
    Calls Tryd.prog 90 #[.iface 81 (fv k l a), .iface 132 (.pointer (some ⟨g, 0, none⟩))] w (AsOut g k l a w) := by
  have h6 := @run_callFunc_extern Tryd.prog 115 _ xValueOf Tryd.func115 (by kernel_rfl) (by kernel_rfl) (by kernel_rfl) (by kernel_rfl)
  have h7 := @run_callFunc_extern Tryd.prog 116 _ xType Tryd.func116 (by kernel_rfl) (by kernel_rfl) (by kernel_rfl) (by kernel_rfl)
  have h8 := @run_callFunc_extern Tryd.prog 117 _ xIsNil Tryd.func117 (by kernel_rfl) (by kernel_rfl) (by kernel_rfl) (by kernel_rfl)
  have h27 := @run_callFunc_extern Tryd.prog 187 _ xKind Tryd.func187 (by kernel_rfl) (by kernel_rfl) (by kernel_rfl) (by kernel_rfl)
  have h37 := @run_callFunc_extern Tryd.prog 200 _ xElemT Tryd.func200 (by kernel_rfl) (by kernel_rfl) (by kernel_rfl) (by kernel_rfl)
  have h38 := @run_callFunc_extern Tryd.prog 201 _ xImplements Tryd.func201 (by kernel_rfl) (by kernel_rfl) (by kernel_rfl) (by kernel_rfl)
  have h10 := @run_callFunc_extern Tryd.prog 119 _ ReflectliteType.typeOf Tryd.func119 (by kernel_rfl) (by kernel_rfl) (by kernel_rfl) (by kernel_rfl)
  have h35 := @run_callFunc_extern Tryd.prog 198 _ xAssignable Tryd.func198 (by kernel_rfl) (by kernel_rfl) (by kernel_rfl) (by kernel_rfl)
  have h11 := @run_callFunc_extern Tryd.prog 139 _ xElemV Tryd.func139 (by kernel_rfl) (by kernel_rfl) (by kernel_rfl) (by kernel_rfl)
  have h12 := @run_callFunc_extern Tryd.prog 140 _ xSet Tryd.func140 (by kernel_rfl) (by kernel_rfl) (by kernel_rfl) (by kernel_rfl)
  have tO := asTypeOfF
  have mA := asMethodAssignable
  have aF := asAssignable
  have vF := asValueOfF
  have f6 := asValueOfP
  have f7 := asTypeP
  have mK := asMethodKind
  have mE := asMethodElem
  have mI := asMethodImplements
  have kP := asKindP
  have kF := asKindF
  have eT := asElemT
  have iF := asImplements
  have hlt : 1 < w.heap.size := lt_of_cell hE
  have hgl : g < w.heap.size := (Array.getElem?_eq_some_iff.1 hg).1
  have n8 := asIsNil ⟨w.heap.size, 0, none⟩ ⟨g, 0, none⟩ ((w.alloc (.cells #[.pointer (some ⟨g, 0, none⟩)] 132)).alloc (.cells #[tyH 132, .pointer (some ⟨w.heap.size, 0, none⟩), .int .u64 150] 154)) (by simp)
  have hg2 : ((w.alloc (.cells #[.pointer (some ⟨g, 0, none⟩)] 132)).alloc (.cells #[tyH 132, .pointer (some ⟨w.heap.size, 0, none⟩), .int .u64 150] 154)).cell? ⟨1, 0, none⟩ = some (.iface 187 (.agg #[tyH 33])) := by
    rw [World.cell?_alloc_lt _ _ ⟨1, 0, none⟩ (by simp; omega), World.cell?_alloc_lt _ _ ⟨1, 0, none⟩ hlt]; exact hE
  have el := asElemV ⟨w.heap.size, 0, none⟩ ⟨g, 0, none⟩ (((w.alloc (.cells #[.pointer (some ⟨g, 0, none⟩)] 132)).alloc (.cells #[tyH 132, .pointer (some ⟨w.heap.size, 0, none⟩), .int .u64 150] 154)).alloc (.cells #[tyH 132, .pointer (some ⟨w.heap.size, 0, none⟩), .int .u64 150] 154)) (by rw [World.cell?_alloc_lt _ _ ⟨w.heap.size, 0, none⟩ (by simp; omega)]; simp)
  have hg4 : ((((w.alloc (.cells #[.pointer (some ⟨g, 0, none⟩)] 132)).alloc (.cells #[tyH 132, .pointer (some ⟨w.heap.size, 0, none⟩), .int .u64 150] 154)).alloc (.cells #[tyH 132, .pointer (some ⟨w.heap.size, 0, none⟩), .int .u64 150] 154)).alloc (.cells #[.int .i64 k, .int .i64 l, .int .i64 a] 81)).heap[g]? = some (.cells #[.int .i64 x, .int .i64 y, .int .i64 z] 81 (0, 0)) :=
    alloc_old (alloc_old (alloc_old (alloc_old hg)))
  have hb4 : ((((w.alloc (.cells #[.pointer (some ⟨g, 0, none⟩)] 132)).alloc (.cells #[tyH 132, .pointer (some ⟨w.heap.size, 0, none⟩), .int .u64 150] 154)).alloc (.cells #[tyH 132, .pointer (some ⟨w.heap.size, 0, none⟩), .int .u64 150] 154)).alloc (.cells #[.int .i64 k, .int .i64 l, .int .i64 a] 81)).heap[w.heap.size + 1 + 1 + 1]? = some (.cells #[.int .i64 k, .int .i64 l, .int .i64 a] 81 (0, 0)) := by
    exact alloc_at (by simp)
  have st := asSet g (w.heap.size + 1 + 1 + 1) _ _ _ _ _ _ _ _ _ ((((w.alloc (.cells #[.pointer (some ⟨g, 0, none⟩)] 132)).alloc (.cells #[tyH 132, .pointer (some ⟨w.heap.size, 0, none⟩), .int .u64 150] 154)).alloc (.cells #[tyH 132, .pointer (some ⟨w.heap.size, 0, none⟩), .int .u64 150] 154)).alloc (.cells #[.int .i64 k, .int .i64 l, .int .i64 a] 81)) hb4 hg4 rfl rfl rfl
  have fin : AsOut g k l a w (.returned (.bool true)) (((((((w.alloc (.cells #[.pointer (some ⟨g, 0, none⟩)] 132)).alloc (.cells #[tyH 132, .pointer (some ⟨w.heap.size, 0, none⟩), .int .u64 150] 154)).alloc (.cells #[tyH 132, .pointer (some ⟨w.heap.size, 0, none⟩), .int .u64 150] 154)).alloc (.cells #[.int .i64 k, .int .i64 l, .int .i64 a] 81)).setCell ⟨g, 0, none⟩ (.int .i64 k)).setCell ⟨g, 1, none⟩ (.int .i64 l)).setCell ⟨g, 2, none⟩ (.int .i64 a)) := by
    refine ⟨rfl, ?_, ?_⟩
    · simp only [World.setCell, Array.getElem?_modify, hg4]
      simp
    · exact ((Keep.setCell (X := fun b => b = g) (Keep.alloc (Keep.alloc (Keep.alloc (Keep.alloc (Keep.refl _ _) _) _) _) _) (p := ⟨g, 0, none⟩) rfl _).setCell (p := ⟨g, 1, none⟩) rfl _).setCell (p := ⟨g, 2, none⟩) rfl _
  have Fin := Lib.hid fin
  clear fin hg4 hb4 hg
  go_enter Tryd.func90, Tryd.ntmps90
  go_wp2
  refine wp_loop_rounds 1 ?_
  rw [rounds_succ]
  go_wp2
  go_ret
  exact Fin.out
end Go.Proofs.YtpddpglccjbpfaaDoor
/- The kit's look at an error: its number, its place. -/
namespace Go.Proofs.YtpddpglccjbpfaaDoor
open Go Go.RowKit Go.Kt

set_option maxRecDepth 100000 in
theorem num_fault (k l a : Int) (w : World) (h1 : 1 ≤ k) (h25 : k ≤ 25) :
    Calls Tryd.prog 64 #[.iface 81 (fv k l a)] w fun e w' => e = .returned (.int .i64 k) ∧ Below w.heap.size w w' := by
  go_enter Tryd.func64, Tryd.ntmps64
  go_wp2
  go_loopw [3, 4] (fun f v wr => ∃ (i : Nat) (c : Int), 1 ≤ i ∧ i ≤ 26 ∧ v = .int .i64 i ∧ f = .int .i64 c ∧ ((i : Int) ≤ k ∧ c = 0 ∨ k < i ∧ c = k) ∧ Below w.heap.size w wr) (fun _ v _ => 26 - (RowKit.intOf v).toNat)
  case atStart => exact ⟨1, 0, by omega, by omega, rfl, rfl, .inl ⟨by omega, rfl⟩, Below.refl _ _⟩
  case round =>
    obtain ⟨i, c, hi1, hi, rfl, rfl, hc, hb⟩ := hrel
    have hz := hb.size
    by_cases hlt : i ≤ 25
    · have C := Lib.hid (is_fault k l a i wr)
      have HC := Lib.hid hc
      by_cases hk : k = i
      · have hkb : (k == (i : Int)) = true := by simp [hk]
        have c0 : c = 0 := by rcases hc with h | h; exact h.2; omega
        have HK := Lib.hid hk
        subst c0
        rw [hkb] at C
        clear hkb hk hc
        go_wp2_with fail
        refine C.out.mono ?_
        rintro e w1 ⟨rfl, hb1⟩
        go_wp2
        go_roundw
        case rel => exact ⟨i + 1, i, by omega, by omega, by go_num, rfl, .inr ⟨by have := HK.out; omega, HK.out.symm⟩, hb.trans (hb1.mono hz)⟩
        case measure => simp [RowKit.intOf]; omega
      · have hkb : (k == (i : Int)) = false := by simp [hk]
        have HK := Lib.hid hk
        rw [hkb] at C
        clear hkb hk hc
        go_wp2_with fail
        refine C.out.mono ?_
        rintro e w1 ⟨rfl, hb1⟩
        go_wp2
        go_roundw
        case rel => exact ⟨i + 1, c, by omega, by omega, by go_num, rfl, by have := HK.out; have := HC.out; omega, hb.trans (hb1.mono hz)⟩
        case measure => simp [RowKit.intOf]; omega
    · have hck : c = k := by rcases hc with h | h; omega; exact h.2
      have C := Lib.hid (is_fault k l a 0 wr)
      have hkb : (k == (0 : Int)) = false := by simp; omega
      have C1 := C
      rw [hkb] at C1
      clear C hc
      subst hck
      go_wp2_with fail
      refine C1.out.mono ?_
      rintro e w1 ⟨rfl, hb1⟩
      go_wp2
      go_ret
      exact ⟨rfl, hb.trans (hb1.mono hz)⟩

/-- Where errors.errorType is laid. -/
abbrev ErrT (w : World) : Prop := w.cell? ⟨1, 0, none⟩ = some (.iface 187 (.agg #[tyH 33]))
theorem ErrT.below {w w' : World} (h : ErrT w) {n : Nat} (hn : 1 < n) (hb : Below n w w') : ErrT w' := (hb.cell (p := ⟨1, 0, none⟩) hn).trans h

theorem pl_step {A W W' : World} {c0 c1 c2 : Addr} {v0 v1 v2 : Value} (h : W.cell? c0 = some v0 ∧ W.cell? c1 = some v1 ∧ W.cell? c2 = some v2 ∧ Below A.heap.size A W) (k : Below W.heap.size W W') :
    W'.cell? c0 = some v0 ∧ W'.cell? c1 = some v1 ∧ W'.cell? c2 = some v2 ∧ Below A.heap.size A W' :=
  ⟨(k.cell (lt_of_cell h.1)).trans h.1, (k.cell (lt_of_cell h.2.1)).trans h.2.1, (k.cell (lt_of_cell h.2.2.1)).trans h.2.2.1, h.2.2.2.trans (k.mono h.2.2.2.size)⟩
theorem pl_drew {A W : World} {c0 c1 c2 : Addr} {v0 v1 v2 : Value} (h : W.cell? c0 = some v0 ∧ W.cell? c1 = some v1 ∧ W.cell? c2 = some v2 ∧ Below A.heap.size A W) :
    W.drew.cell? c0 = some v0 ∧ W.drew.cell? c1 = some v1 ∧ W.drew.cell? c2 = some v2 ∧ Below A.heap.size A W.drew := ⟨h.1, h.2.1, h.2.2.1, h.2.2.2.drew⟩

theorem pl_last {P Q R : Prop} {A W : World} (h : P ∧ Q ∧ R ∧ Below A.heap.size A W) : Below A.heap.size A W := h.2.2.2

set_option maxRecDepth 100000 in
theorem place_fault (k l a : Int) (w : World) (h1 : 1 ≤ k) (h25 : k ≤ 25) (hE : ErrT w) :
    Calls Tryd.prog 63 #[.iface 81 (fv k l a)] w fun e w' => e = .returned (.tuple #[.int .i64 l, .int .i64 a, .bool true]) ∧ Below w.heap.size w w' := by
  have hlt : 1 < w.heap.size := lt_of_cell hE
  obtain ⟨W, hW⟩ : ∃ W, w.alloc (.cells #[.int .i64 0, .int .i64 0, .int .i64 0] 81 (0, 0)) = W := ⟨_, rfl⟩
  have hbW : Below w.heap.size w W := by rw [← hW]; exact (Below.refl _ w).alloc (Nat.le_refl _) _
  have hgW : W.heap[w.heap.size]? = some (.cells #[.int .i64 0, .int .i64 0, .int .i64 0] 81 (0, 0)) := by rw [← hW]; exact World.alloc_heap_new w _
  have C := Lib.hid (as_fault k l a 0 0 0 w.heap.size W (hE.below hlt hbW) hgW)
  have hWe := Lib.hid hW
  clear hE hgW hW
  go_enter Tryd.func63, Tryd.ntmps63
  go_wp2_with fail
  rw [hWe.out]
  refine C.out.mono ?_
  rintro e w1 ⟨rfl, hg1, hk1⟩
  have hz1 := hk1.size
  have hzW : w.heap.size < W.heap.size := by have := hWe.out; rw [← this]; simp
  have hc0 : w1.cell? ⟨w.heap.size, 0, none⟩ = some (.int .i64 k) := by rw [World.cell?, hg1]; rfl
  have hc1 : w1.cell? ⟨w.heap.size, 1, none⟩ = some (.int .i64 l) := by rw [World.cell?, hg1]; rfl
  have hc2 : w1.cell? ⟨w.heap.size, 2, none⟩ = some (.int .i64 a) := by rw [World.cell?, hg1]; rfl
  have hb1 : Below w.heap.size w w1 := hbW.trans (hk1.below (by omega) (fun b hb => by omega))
  have HB := Lib.hid hb1
  have kk : (k == k) = true := by simp
  clear hg1 hk1 hbW hb1
  go_wp2
  have cN := Lib.hid (fun W => num_fault k l a W h1 h25)
  go_region_held_law (fun w' => w'.cell? ⟨w.heap.size, 0, none⟩ = some (.int .i64 k) ∧ w'.cell? ⟨w.heap.size, 1, none⟩ = some (.int .i64 l) ∧ w'.cell? ⟨w.heap.size, 2, none⟩ = some (.int .i64 a) ∧ Below w1.heap.size w1 w')
    (first | assumption | exact pl_drew ⟨hc0, hc1, hc2, Below.refl _ _⟩ | exact pl_drew (by assumption) | exact pl_step (by assumption) (by assumption))
    ((go_at_call 64; refine (cN.out _).mono ?_; rintro e w' ⟨rfl, hbn⟩))
  all_goals
    go_wp2
    go_ret3
    exact ⟨rfl, HB.out.trans (Below.mono (pl_last (by assumption)) HB.out.size)⟩

set_option maxRecDepth 100000 in
theorem at_fault (n l a : Int) (w : World) (h1 : 1 ≤ n) (h25 : n ≤ 25) (hE : ErrT w) :
    Calls Tryd.prog 26 #[.iface 81 (fv n l a), .int .i64 n, .int .i64 l, .int .i64 a] w fun e w' => e = .returned (.bool true) ∧ Below w.heap.size w w' := by
  have c1 := Lib.hid (place_fault n l a w h1 h25 hE)
  have c2 := Lib.hid (fun W => num_fault n l a W h1 h25)
  have n0 : (n == 0) = false := by simp; omega
  have e1 : (n == n) = true := by simp
  have e2 : (l == l) = true := by simp
  have e3 : (a == a) = true := by simp
  clear hE
  go_enter Tryd.func26, Tryd.ntmps26
  go_wp2_with fail
  refine c1.out.mono ?_
  rintro e w1 ⟨rfl, hb1⟩
  have hz1 := hb1.size
  go_wp2_with fail
  refine (c2.out _).mono ?_
  rintro e w2 ⟨rfl, hb2⟩
  go_wp2
  go_ret
  exact ⟨rfl, hb1.trans (hb2.mono hz1)⟩
end Go.Proofs.YtpddpglccjbpfaaDoor
/- The text of points: points.Text. -/
namespace Go.Proofs.YtpddpglccjbpfaaDoor
open Go Go.RowKit Go.Kt Go.Shelf

set_option maxRecDepth 100000 in
theorem writeByte_x (b : Nat) (Y : Nat → Prop) (l : List UInt8) (c : Int) (W : World) (h : Bld b Y l W) (h0 : 0 ≤ c) (h1 : c < 256) (hlen : l.length + 1 ≤ 140737488355328) :
    Calls Tryd.prog 48 #[.pointer (some ⟨b, 0, none⟩), .int .u8 c] W fun e w' => e = .returned .nilIface ∧
      ∃ Y', Bld b Y' (l ++ [UInt8.ofNat c.toNat]) w' ∧ Keep (fun c => c = b ∨ Y c) W w' ∧ (∀ c, Y' c → Y c ∨ W.heap.size ≤ c) := by
  have hc := Lib.hid (copyCheck_x b Y l W h)
  have hcc := Lib.hid (ofNat_toNat c h0 h1)
  clear h
  go_enter Tryd.func48, Tryd.ntmps48
  go_wp2_with fail
  refine hc.out.mono ?_
  rintro e w1 ⟨rfl, v, hh, ho, hne, hy, hk, hsz⟩
  obtain ⟨a0, k0, p0, rfl⟩ : ∃ ao n' cap, v = .slice ao n' cap := by
    rcases ho.2 with ⟨hv, _⟩ | ⟨g, cap, cur, fz, hv, _⟩
    · exact ⟨_, _, _, hv⟩
    · exact ⟨_, _, _, hv⟩
  obtain ⟨g, cap, w2, hrun, ho2, hk2, hfr, hz2⟩ := append_b (P := Tryd.prog) w1 61 5 Tryd.underlying61 tinfo5 ho (.int .u8 c) rfl hlen
  have c1 : w1.cell? ⟨b, 1, none⟩ = some (.slice a0 k0 p0) := by rw [Lib.cell_of_heap hh]; rfl
  have hb2 : w2.heap[b]? = some (.cells #[.pointer (some ⟨b, 0, none⟩), .slice a0 k0 p0] 86 (0, 0)) := hk2.heap hh hne
  have c2 : w2.cell? ⟨b, 1, none⟩ = some (.slice a0 k0 p0) := by rw [Lib.cell_of_heap hb2]; rfl
  have f2 : w2.frozen? ⟨b, 1, none⟩ = false := Lib.frozen_of_heap hb2 1
  have hfacts := Lib.hid (And.intro hh (And.intro ho (And.intro hne (And.intro hy (And.intro hb2 (And.intro hsz hfr))))))
  clear hh hb2 hsz hfr hy
  have HO2 := Lib.hid ho2
  clear ho2 hne ho
  have HR := Lib.hid hrun
  clear hrun
  go_wp2_with (at_builtin; refine wpList_append_eq rfl rfl rfl rfl HR.out ?_)
  go_ret
  obtain ⟨hh, ho, hne, hy, hb2, hsz, hfr⟩ := hfacts.out
  have hk3 : Keep (fun c => c = b) w2 (w2.setCell ⟨b, 1, none⟩ (.slice (some ⟨g, 0, none⟩) (l.length + 1) cap)) := (Keep.refl (fun c => c = b) w2).setCell (p := ⟨b, 1, none⟩) rfl _
  have hbs : b < w1.heap.size := (Array.getElem?_eq_some_iff.1 hh).1
  have hgb : g ≠ b := fun e => by
    subst e
    rcases hfr with h | h
    · exact hne h
    · omega
  refine ⟨rfl, fun c => g = c, ⟨_, .slice (some ⟨g, 0, none⟩) (l.length + 1) cap, .inr rfl, ?_, ?_, fun e => hgb (by simpa [Value.ownBlock] using e), fun c hc => by simpa [Value.ownBlock] using hc⟩, ?_, ?_⟩
  · simp [World.setCell, Array.getElem?_modify, hb2]
  · have := ownsF_keep HO2.out hk3 (fun g' hg e => hgb (by
      have : g = g' := by simpa [Value.ownBlock] using hg
      rw [this, e]))
    have e1 : (l ++ [UInt8.ofNat c.toNat]).length = l.length + 1 := by simp
    rw [e1, show Lib.byteCells (l ++ [UInt8.ofNat c.toNat]) = Lib.byteCells l ++ [.int .u8 c] by simp only [Lib.byteCells, List.map_append, List.map_cons, List.map_nil, hcc.out]]
    exact this
  · exact ((hk.weaken (fun _ _ h => .inl h)).trans (hk2.weaken (fun _ _ h => .inr (hy _ h)))).trans (hk3.weaken (fun _ _ h => .inl h))
  · intro c hc
    subst hc
    rcases hfr with h | h
    · exact .inl (hy g h)
    · exact .inr (by omega)

theorem valid_char (x : Int) : Lib.validRune x = charB x := by
  rw [Bool.eq_iff_iff, charB_iff]; simp [Lib.validRune]
theorem valid_char2 (x : Int) : Utf8.valid x = charB x := by
  rw [Bool.eq_iff_iff, charB_iff]; simp [Utf8.valid]; omega
theorem bytesP_char (x : Int) (h : charB x = true) : bytesP x = (Utf8.encode x).data.toList := by
  have := (charB_iff x).1 h
  unfold bytesP
  rw [if_neg (by omega), encode_C, valid_char2, h]
  rfl

theorem ptsIll_any (x : Int) (w : World) :
    Calls Tryd.prog 62 #[.int .i32 x] w fun e w' => e = .returned (.bool (decide (1114240 ≤ x ∧ x ≤ 1114367))) ∧ w = w' := by
  by_cases h1 : 1114240 ≤ x
  · by_cases h2 : x ≤ 1114367
    · have hd : decide (1114240 ≤ x ∧ x ≤ 1114367) = true := by simp; omega
      rw [hd]; clear hd
      go_enter Tryd.func62, Tryd.ntmps62
      go_wp2
      go_ret
      exact ⟨rfl, rfl⟩
    · have hd : decide (1114240 ≤ x ∧ x ≤ 1114367) = false := by simp; omega
      rw [hd]; clear hd
      go_enter Tryd.func62, Tryd.ntmps62
      go_wp2
      go_ret
      exact ⟨rfl, rfl⟩
  · have hd : decide (1114240 ≤ x ∧ x ≤ 1114367) = false := by simp; omega
    rw [hd]; clear hd
    go_enter Tryd.func62, Tryd.ntmps62
    go_wp2
    go_ret
    exact ⟨rfl, rfl⟩

/-- What points.Text answers. -/
def PTextAns (l : List Int) (K : Nat) (w : World) (e : Ending) (w' : World) : Prop :=
  (K = l.length ∧ e = .returned (.tuple #[.string ⟨(textP l).toArray⟩, .nilIface]) ∨ K < l.length ∧ e = .returned (.tuple #[.string ⟨#[]⟩, .iface 81 (fv 8 0 K)])) ∧ Below w.heap.size w w'

set_option maxRecDepth 100000 in
set_option maxHeartbeats 1000000 in
theorem ptsText_any (v : Value) (l : List Int) (K : Nat) (w : World) (h : Slg .i32 w v l) (hw : ∀ x ∈ l, -2147483648 ≤ x ∧ x ≤ 2147483647) (hl : l.length ≤ 35184372087808) (hK : FirstBad l K) :
    Calls Tryd.prog 24 #[v] w (PTextAns l K w) := by
  obtain ⟨av, cv, rfl, h⟩ := h
  have H := Lib.hid h
  have HW := Lib.hid hw
  have HK := Lib.hid hK
  have hKl := hK.le
  clear h hw hK
  obtain ⟨W, hW⟩ : ∃ W, w.alloc (.cells #[.pointer none, .slice none 0 0] 86 (0, 0)) = W := ⟨_, rfl⟩
  have hbW : Below w.heap.size w W := by rw [← hW]; exact (Below.refl _ w).alloc (Nat.le_refl _) _
  have hgW : W.heap[w.heap.size]? = some (.cells #[.pointer none, .slice none 0 0] 86 (0, 0)) := by rw [← hW]; exact World.alloc_heap_new w _
  have hzW : W.heap.size = w.heap.size + 1 := by rw [← hW]; simp
  have CG := Lib.hid (Tryd.Builder_Grow_fresh w.heap.size w.heap.size l.length W (Nat.le_refl _) hgW (by omega) (by omega))
  have hWe := Lib.hid hW
  clear hgW hW
  go_enter Tryd.func24, Tryd.ntmps24
  go_wp2_with fail
  rw [hWe.out]
  refine CG.out.mono ?_
  rintro e w1 ⟨rfl, hB1, hb1⟩
  have hbld1 : Bld w.heap.size (fun c => w.heap.size ≤ c) [] w1 := by
    obtain ⟨_, v, hh, ho, hne⟩ := hB1
    refine ⟨_, v, .inr rfl, hh, World.ownsRowF_of ?_, hne, fun g hg => (ho.lt g hg).1⟩
    refine ⟨ho.1, ?_⟩
    rcases ho.2 with h | ⟨g, cap, cur, rfl, hb, rest⟩
    · exact .inl h
    · exact .inr ⟨g, cap, cur, rfl, Nat.zero_le _, rest⟩
  have HB := Lib.hid (And.intro hbld1 (hbW.trans hb1))
  clear hB1 hb1 hbW hbld1
  go_wp2
  go_loopw [12] (fun i wr => ∃ (k : Nat) (acc : List UInt8), k ≤ K ∧ i = .int .i64 k ∧ acc = textP (l.take k) ∧ Bld w.heap.size (fun c => w.heap.size ≤ c) acc wr ∧ Below w.heap.size w wr)
    (fun i _ => l.length - (RowKit.intOf i).toNat)
  case atStart => exact ⟨0, [], by omega, rfl, rfl, HB.out.1, HB.out.2⟩
  case round =>
    clear HB
    obtain ⟨k, acc, hk, rfl, hacc, hbld, hb⟩ := hrel
    by_cases hlt : k < l.length
    · obtain ⟨a, rfl, ha⟩ : ∃ a : Addr, av = some a ∧ ∀ i x, l[i]? = some x → w.cell? (a.add i) = some (.int .i32 x) := by
        rcases H.out with h | h
        · subst h; simp at hlt
        · exact h
      obtain ⟨x, hx⟩ : ∃ x, l[k]? = some x := ⟨l[k], List.getElem?_eq_getElem hlt⟩
      have q := ha k x hx
      have p1 := (hb.cell (lt_of_cell q)).trans q
      have hxr := HW.out x (List.mem_of_getElem? hx)
      have hsz : acc.length ≤ 4 * k := by
        rw [hacc]
        have := textP_len (l.take k)
        rw [List.length_take] at this
        omega
      have hnext : textP (l.take (k + 1)) = acc ++ bytesP x := by
        rw [List.take_add_one, hx]
        show textP (l.take k ++ [x]) = _
        rw [textP_snoc, hacc]
      have cV := Tryd.utf8_ValidRune x
      rw [valid_char] at cV
      have hbl := bytesP_len x
      by_cases hkK : k < K
      · have hxp := HK.out.good k x hkK hx
        cases hch : charB x
        · have hil : 1114240 ≤ x ∧ x ≤ 1114367 := by
            unfold pointB at hxp
            rw [hch] at hxp
            simpa using hxp
          have hil1 := hil.1
          have hil2 := hil.2
          have hd : decide (1114240 ≤ x ∧ x ≤ 1114367) = true := by simpa using hil
          have cI := ptsIll_any x
          rw [hd] at cI
          rw [hch] at cV
          have CI := Lib.hid cI
          have CV := Lib.hid cV
          have CW := Lib.hid (writeByte_x w.heap.size _ acc (x - 1114112) wr hbld (by omega) (by omega) (by omega))
          have hbp : bytesP x = [UInt8.ofNat (x - 1114112).toNat] := by unfold bytesP; rw [if_pos (by omega)]
          rw [hbp] at hnext
          have HN := Lib.hid (And.intro hnext hb)
          clear hnext hacc hbld q ha hx hxp hb cV cI hd hil hch hbp hbl
          go_wp2_with (first | (go_at_call 60; refine (CV.out _).mono ?_; rintro e w' ⟨rfl, rfl⟩) | (go_at_call 62; refine (CI.out _).mono ?_; rintro e w' ⟨rfl, rfl⟩))
          refine CW.out.mono ?_
          rintro e w2 ⟨rfl, Y2, hb2, hk2, hY2⟩
          go_wp2
          go_roundw
          case rel =>
            refine ⟨k + 1, _, by omega, by go_num, HN.out.1.symm, ?_, HN.out.2.trans (hk2.below HN.out.2.size (fun b h => by omega))⟩
            obtain ⟨p, v, hp, hh, ho, hne, hy⟩ := hb2
            exact ⟨p, v, hp, hh, ho, hne, fun g hg => by have := HN.out.2.size; have := hY2 g (hy g hg); omega⟩
          case measure => simp [RowKit.intOf]; omega
        · rw [hch] at cV
          have CV := Lib.hid cV
          have hbp := bytesP_char x hch
          have hes : (Utf8.encode x).size = (bytesP x).length := by rw [hbp, Lib.size_eq]
          have CW := Lib.hid (writeString_x w.heap.size _ acc (Utf8.encode x) wr hbld (by omega))
          rw [hbp] at hnext
          have CE := Lib.hid (fun W => utfEncode_any x W)
          have HN := Lib.hid (And.intro hnext hb)
          clear hnext hacc hbld q ha hx hxp hb cV hch hbp hbl hes
          generalize Utf8.encode x = ex at *
          go_wp2_with (first | (go_at_call 60; refine (CV.out _).mono ?_; rintro e w' ⟨rfl, rfl⟩) | (go_at_call 61; refine (CE.out _).mono ?_; rintro e w' ⟨rfl, rfl⟩))
          refine CW.out.mono ?_
          rintro e w2 ⟨rfl, Y2, hb2, hk2, hY2⟩
          go_wp2
          go_roundw
          case rel =>
            refine ⟨k + 1, _, by omega, by go_num, HN.out.1.symm, ?_, HN.out.2.trans (hk2.below HN.out.2.size (fun b h => by omega))⟩
            obtain ⟨p, v, hp, hh, ho, hne, hy⟩ := hb2
            exact ⟨p, v, hp, hh, ho, hne, fun g hg => by have := HN.out.2.size; have := hY2 g (hy g hg); omega⟩
          case measure => simp [RowKit.intOf]; omega
      · obtain rfl : k = K := by omega
        have hxp := HK.out.bad x hx
        have hch : charB x = false := by
          unfold pointB at hxp
          cases h : charB x
          · rfl
          · rw [h] at hxp; simp at hxp
        have hd : decide (1114240 ≤ x ∧ x ≤ 1114367) = false := by
          unfold pointB at hxp
          rw [hch] at hxp
          simpa using hxp
        have cI := ptsIll_any x
        rw [hd] at cI
        rw [hch] at cV
        have CI := Lib.hid cI
        have CV := Lib.hid cV
        have HO : Hid (PTextAns l k w (.returned (.tuple #[.string ⟨#[]⟩, .iface 81 (fv 8 0 k)])) wr) := Lib.hid ⟨.inr ⟨hlt, rfl⟩, hb⟩
        clear hnext hacc hbld q ha hx hxp hb cV cI hd hch hbl hkK
        go_wp2_with (first | (go_at_call 60; refine (CV.out _).mono ?_; rintro e w' ⟨rfl, rfl⟩) | (go_at_call 62; refine (CI.out _).mono ?_; rintro e w' ⟨rfl, rfl⟩))
        go_ret2
        exact HO.out
    · have hke : k = l.length := by omega
      have hKe : K = l.length := by omega
      rw [hke, List.take_length] at hacc
      have CS := Lib.hid (string_x w.heap.size _ acc wr hbld w.heap.size hb.size (Nat.le_refl _) (fun g h => h))
      rw [hacc] at CS
      have HO : Hid (∀ w', Below w.heap.size wr w' → PTextAns l K w (.returned (.tuple #[.string ⟨(textP l).toArray⟩, .nilIface])) w') := Lib.hid fun w' h => ⟨.inl ⟨hKe, rfl⟩, hb.trans h⟩
      clear hke hKe hacc hbld hk hb
      go_wp2_with fail
      refine CS.out.mono ?_
      rintro e w2 ⟨rfl, hb2, _⟩
      go_wp2
      go_ret2
      exact HO.out _ hb2
end Go.Proofs.YtpddpglccjbpfaaDoor
/- What each statement of layer 2 asks first; the walks of PointsNext, PointsText, PointsBack. -/
namespace Go.Proofs.YtpddpglccjbpfaaDoor
open Go Go.RowKit Go.Kt Go.Shelf

/-- The tables that are read, laid. -/
structure Env (w : World) : Prop where
  tabs : Lib.Utf8Tabs 5 6 w
  err : ErrT w
theorem Env.lt {w : World} (h : Env w) : 7 ≤ w.heap.size := by
  have h0 : 1 < w.heap.size := lt_of_cell h.err
  have h1 : 6 < w.heap.size := lt_of_cell (h.tabs.2 0 (by decide)).1
  have h2 : 5 < w.heap.size := lt_of_cell (h.tabs.1 0 (by decide))
  omega
theorem Env.below {w w' : World} (h : Env w) {n : Nat} (hn : 7 ≤ n) (hb : Below n w w') : Env w' := ⟨tabs_below h.tabs (by omega) hb, h.err.below (by omega) hb⟩

abbrev sA : ByteArray := ⟨#[97, 255]⟩
theorem sA_pts : pts sA = [97, 1114367] := by kernel_rfl
theorem sA_units : (units sA).length = 2 := by kernel_rfl
theorem bad1 : FirstBad [97, 55296] 1 := ⟨by decide, fun i x hi hx => by obtain rfl : i = 0 := by omega
                                                                         simp at hx; subst hx; decide +kernel, fun x hx => by simp at hx; subst hx; decide +kernel⟩

def TwoOut (w : World) (e : Ending) (w' : World) : Prop :=
  ∃ g cap, e = .returned (.slice (some ⟨g, 0, none⟩) 2 cap) ∧ w'.cell? ⟨g, 0, none⟩ = some (.int .i32 97) ∧ w'.cell? ⟨g, 1, none⟩ = some (.int .i32 1114367) ∧ Below w.heap.size w w'
theorem ofA (w : World) (hE : Env w) : Calls Tryd.prog 23 #[.string sA] w (TwoOut w) := by
  refine (ptsOf_any sA w hE.tabs (by have := hE.lt; omega) (by decide) (by rw [sA_units]; decide)).mono ?_
  rintro e w' ⟨ao, cap, rfl, hown, hb⟩
  rw [sA_pts] at hown ⊢
  rcases hown.1.2 with ⟨_, h⟩ | ⟨g, cap', cur, hv, _⟩
  · simp at h
  · injection hv with e1 e2 e3
    subst e1
    have h0 := hown.1.cells (g := g) rfl 0 (.int .i32 97) (by simp)
    have h1 := hown.1.cells (g := g) rfl 1 (.int .i32 1114367) (by simp)
    rw [Addr.add_lit] at h0 h1
    exact ⟨g, cap, rfl, h0, h1, hb⟩

set_option maxRecDepth 100000 in
theorem works2_any (w : World) (hE : Env w) :
    Calls Tryd.prog 71 #[] w fun e w' => e = .returned (.bool true) ∧ Below w.heap.size w w' := by
  have HE := Lib.hid hE
  have C1 := Lib.hid (ofA w hE)
  clear hE
  go_enter Tryd.func71, Tryd.ntmps71
  go_wp2_with fail
  refine C1.out.mono ?_
  rintro e w1 ⟨g, cap, rfl, h0, h1, hb1⟩
  have hz1 := hb1.size
  obtain ⟨W, hW⟩ : ∃ W, w1.alloc (.cells #[.int .i32 97, .int .i32 55296] 21 (0, 0)) = W := ⟨_, rfl⟩
  have hbW : Below w1.heap.size w1 W := by rw [← hW]; exact (Below.refl _ w1).alloc (Nat.le_refl _) _
  have hgW : W.heap[w1.heap.size]? = some (.cells #[.int .i32 97, .int .i32 55296] 21 (0, 0)) := by rw [← hW]; exact World.alloc_heap_new w1 _
  have hS : Slg .i32 W (.slice (some ⟨w1.heap.size, 0, none⟩) 2 2) [97, 55296] := ⟨_, 2, rfl, .inr ⟨_, rfl, fun i x hx => by
    rw [Addr.add_lit, Lib.cell_of_heap hgW]
    rcases i with _ | _ | i
    · simp at hx ⊢; exact hx.symm ▸ rfl
    · simp at hx ⊢; exact hx.symm ▸ rfl
    · simp at hx⟩⟩
  have C2 := Lib.hid (ptsText_any _ [97, 55296] 1 W hS (by intro x hx; simp at hx; omega) (by decide) bad1)
  have hWe := Lib.hid hW
  have HF := Lib.hid (And.intro h0 (And.intro h1 (And.intro hb1 hbW)))
  clear hS hgW hbW hW h0 h1 hb1
  go_wp2_with fail
  rw [hWe.out]
  refine C2.out.mono ?_
  rintro e w2 ⟨(⟨h, _⟩ | ⟨_, rfl⟩), hb2⟩
  · simp at h
  · obtain ⟨h0, h1, hb1, hbW⟩ := HF.out
    have hb : Below w1.heap.size w1 w2 := hbW.trans (hb2.mono hbW.size)
    have hb3 : Below w.heap.size w w2 := hb1.trans (hb.mono hz1)
    have k0 := (hb.cell (lt_of_cell h0)).trans h0
    have k1 := (hb.cell (lt_of_cell h1)).trans h1
    have C3 := Lib.hid (at_fault 8 0 1 w2 (by omega) (by omega) ((HE.out.below HE.out.lt hb3).err))
    have HB := Lib.hid hb3
    clear h0 h1 hb1 hbW hb hb2 hb3
    go_wp2_with fail
    refine C3.out.mono ?_
    rintro e w3 ⟨rfl, hb4⟩
    go_wp2
    go_ret
    exact ⟨rfl, HB.out.trans (hb4.mono HB.out.size)⟩
end Go.Proofs.YtpddpglccjbpfaaDoor
/- The points of a text, and the text of its points: the mathematics. -/
namespace Go.Proofs.YtpddpglccjbpfaaDoor
open Go Go.RowKit Go.Kt Go.Shelf

theorem ptU_cases (s : ByteArray) (i : Nat) (h : i < s.size) :
    (Utf8.decode s i = (65533, 1) ∧ ptU s i = (1114112 + B s i, 1) ∧ 128 ≤ B s i) ∨
    (∃ w : Nat, 1 ≤ w ∧ w ≤ 4 ∧ i + w ≤ s.size ∧ wideI s i = w ∧ Utf8.decode s i ≠ (65533, 1) ∧ ptU s i = Utf8.decode s i ∧ (Utf8.decode s i).2 = w ∧ charB (Utf8.decode s i).1 = true ∧ bytesP (Utf8.decode s i).1 = seg s i (i + w)) := by
  by_cases hd : Utf8.decode s i = (65533, 1)
  · refine .inl ⟨hd, by unfold ptU; rw [if_pos hd], ?_⟩
    rcases Nat.lt_or_ge (B s i) 128 with hb | hb
    · have := decode_B s i
      rw [hd] at this
      unfold Lib.decodeN at this
      rw [if_pos hb] at this
      injection this with h1 _
      omega
    · exact hb
  · refine .inr ?_
    rcases unit_at s i h with ⟨_, e⟩ | ⟨w, h1, h4, hw, he, e2, _⟩
    · exact absurd e hd
    · obtain ⟨q1, q2⟩ := encode_decode s i w h h1 h4 he
      have hc : charB ((Utf8.decode s i).1 : Int) = true := by rw [← valid_char2]; exact q2
      exact ⟨w, h1, h4, hw, he, hd, by unfold ptU; rw [if_neg hd], e2, hc, by rw [bytesP_char _ hc]; exact q1⟩

theorem ptU_point (s : ByteArray) (i : Nat) (h : i < s.size) : pointB (ptU s i).1 = true := by
  rcases ptU_cases s i h with ⟨_, e, hb⟩ | ⟨w, _, _, _, _, _, e, _, hc, _⟩
  · have := B_lt s i
    rw [e, pointB_iff]
    right
    simp
    omega
  · rw [e]
    unfold pointB
    rw [hc]
    rfl
theorem ptU_bytes (s : ByteArray) (i : Nat) (h : i < s.size) : bytesP (ptU s i).1 = seg s i (i + (ptU s i).2) := by
  rcases ptU_cases s i h with ⟨_, e, hb⟩ | ⟨w, _, _, _, _, _, e, e2, _, hq⟩
  · have := B_lt s i
    rw [e]
    rw [seg_range s i 1 (by omega)]
    unfold bytesP
    rw [if_pos (by omega)]
    have : ((1114112 + B s i : Nat) : Int) - 1114112 = B s i := by omega
    rw [this]
    simp
  · rw [e, hq, e2]
theorem textP_from (s : ByteArray) : ∀ f i, i ≤ s.size → s.size ≤ f + i → textP (ptL s (unitsF s f i)) = seg s i s.size
  | 0, i, hi, hf => by
    obtain rfl : i = s.size := by omega
    simp [unitsF, ptL, textP, seg_self]
  | f + 1, i, hi, hf => by
    unfold unitsF
    split
    · rename_i hlt
      obtain ⟨d1, d2, d3⟩ := ptU_wide s i hlt
      have ih := textP_from s f (i + (Utf8.decode s i).2) (by rw [← ptU_wide_eq]; exact d3) (by rw [← ptU_wide_eq]; omega)
      have : textP (ptL s ((i, (Utf8.decode s i).1) :: unitsF s f (i + (Utf8.decode s i).2))) = bytesP (ptU s i).1 ++ textP (ptL s (unitsF s f (i + (Utf8.decode s i).2))) := by simp [textP, ptL]
      rw [this, ih, ptU_bytes s i hlt, ← ptU_wide_eq]
      exact seg_app s i _ _ (by omega) d3
    · obtain rfl : i = s.size := by omega
      simp [ptL, textP, seg_self]
/-- A TEXT COMES BACK FROM ITS POINTS. -/
theorem textP_pts (s : ByteArray) : textP (pts s) = s.data.toList := by
  unfold pts units
  rw [textP_from s s.size 0 (Nat.zero_le _) (by omega), seg_all]
theorem pts_points (s : ByteArray) : ∀ x ∈ pts s, pointB x = true := by
  intro x hx
  obtain ⟨p, hp, rfl⟩ := List.mem_map.1 hx
  exact ptU_point s p.1 (units_dec s s.size 0 p hp).2
theorem pts_bd (s : ByteArray) : ∀ x ∈ pts s, -2147483648 ≤ x ∧ x ≤ 2147483647 := by
  intro x hx
  have := (pointB_iff x).1 (pts_points s x hx)
  omega

/-- Rows of characters. -/
theorem textP_chars : ∀ l : List Int, (∀ x ∈ l, charB x = true) → textP l = (runesBytes l).data.toList
  | [], _ => by simp [textP, runesBytes]
  | x :: l, h => by
    have ih := textP_chars l (fun y hy => h y (by simp [hy]))
    rw [runesBytes_cons]
    show bytesP x ++ textP l = _
    rw [ih, bytesP_char x (h x (by simp))]
    simp
theorem pts_nums_from (s : ByteArray) : ∀ f i, i ≤ s.size → s.size ≤ f + i → okF s f i = true → ptL s (unitsF s f i) = (numsF s f i).map fun x : Nat => (x : Int)
  | 0, i, _, _, _ => by simp [unitsF, ptL, numsF]
  | f + 1, i, hi, hf, hok => by
    by_cases hlt : i < s.size
    · rw [okF, if_pos hlt] at hok
      have hill : illB s i = false := by
        cases h : illB s i
        · rfl
        · rw [h] at hok; simp at hok
      rw [hill] at hok
      simp only [Bool.false_eq_true, if_false] at hok
      obtain ⟨d1, d2, d3⟩ := ptU_wide s i hlt
      rw [ptU_wide_eq] at d1 d2 d3
      have ih := pts_nums_from s f (i + (Utf8.decode s i).2) d3 (by omega) hok
      rw [numsF_in s f i hlt]
      have hu : unitsF s (f + 1) i = (i, (Utf8.decode s i).1) :: unitsF s f (i + (Utf8.decode s i).2) := by rw [unitsF, if_pos hlt]
      rw [hu]
      rw [ill_dec s i hlt] at hill
      have e : ptU s i = Utf8.decode s i := by unfold ptU; rw [if_neg (by simpa using hill)]
      have : ptL s ((i, (Utf8.decode s i).1) :: unitsF s f (i + (Utf8.decode s i).2)) = ((ptU s i).1 : Int) :: ptL s (unitsF s f (i + (Utf8.decode s i).2)) := by simp [ptL]
      rw [this, ih, e]
      simp
    · have hu : unitsF s (f + 1) i = [] := by rw [unitsF, if_neg hlt]
      rw [hu, numsF_end s (f + 1) i (by omega)]
      rfl
theorem pts_nums (s : ByteArray) (h : okB s = true) : pts s = numsI s := pts_nums_from s s.size 0 (Nat.zero_le _) (by omega) h
/-- A ROW OF CHARACTERS COMES BACK FROM ITS TEXT. -/
theorem row_ok (l : List Int) (h : ∀ x ∈ l, charB x = true) : okB (runesBytes l) = true ∧ numsI (runesBytes l) = l := by
  have h1 : numsI (runesBytes l) = l := by
    rw [nums_text]
    have := fix_same l
    have h2 : l.all Utf8.valid = true := List.all_eq_true.2 fun x hx => by rw [valid_char2]; exact h x hx
    rw [h2] at this
    simpa using this
  refine ⟨?_, h1⟩
  have := (back_iff (runesBytes l)).1
  exact this (by rw [h1])
theorem row_pts (l : List Int) (h : ∀ x ∈ l, charB x = true) : pts (runesBytes l) = l := by
  rw [pts_nums _ (row_ok l h).1, (row_ok l h).2]
end Go.Proofs.YtpddpglccjbpfaaDoor
