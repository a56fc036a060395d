/- Parts of the proof of what the last text says. -/
import Derived.Test.YtcfhblbmpbfoaaaGreatDoorGv20
import Derived.Test.YtcfhblbmpbfoaaaGreatDoorPbx
import Derived.Test.YtcfhblbmpbfoaaaGreatDoorGv4
import Derived.Test.YtcfhblbmpbfoaaaGreatDoorWpx
namespace Go.Proofs.YtcfhblbmpbfoaaaGreatDoor
open Go Go.RowKit Go.Kt Go.Shelf

end Go.Proofs.YtcfhblbmpbfoaaaGreatDoor
namespace Go.Proofs.YtcfhblbmpbfoaaaGreatDoor
open Go Go.RowKit Go.Kt Go.Shelf

def pointB (c : Int) : Bool := charB c || decide (1114240 ≤ c ∧ c ≤ 1114367)
theorem pointB_iff (c : Int) : pointB c = true ↔ ((0 ≤ c ∧ c < 55296) ∨ (57343 < c ∧ c ≤ 1114111)) ∨ (1114240 ≤ c ∧ c ≤ 1114367) := by
  unfold pointB; rw [Bool.or_eq_true, charB_iff]; simp
def bytesP (c : Int) : List UInt8 := if 1114112 < c then [UInt8.ofNat (c - 1114112).toNat] else (encC c).data.toList
def textP (l : List Int) : List UInt8 := l.flatMap bytesP
theorem textP_snoc (l : List Int) (c : Int) : textP (l ++ [c]) = textP l ++ bytesP c := by simp [textP]
theorem bytesP_len (c : Int) : 1 ≤ (bytesP c).length ∧ (bytesP c).length ≤ 4 := by
  unfold bytesP encC
  repeat' split
  all_goals simp
theorem textP_len (l : List Int) : (textP l).length ≤ 4 * l.length := by
  induction l with
  | nil => simp [textP]
  | cons c l ih => have := bytesP_len c; simp [textP] at *; omega

def NewB (l : List UInt8) (w : World) (e : Ending) (w' : World) : Prop :=
  e = .returned (.slice (some ⟨w.heap.size, 0, none⟩) l.length l.length) ∧ w' = w.alloc (.cells (Lib.byteCells l).toArray 5)

theorem ofNat_toNat (x : Int) (h0 : 0 ≤ x) (h1 : x < 256) : (((UInt8.ofNat x.toNat).toNat : Nat) : Int) = x := by
  simp; omega

end Go.Proofs.YtcfhblbmpbfoaaaGreatDoor
namespace Go.Proofs.YtcfhblbmpbfoaaaGreatDoor
open Go Go.RowKit Go.Kt Go.Shelf

structure FirstBad (l : List Int) (K : Nat) : Prop where
  le : K ≤ l.length
  good : ∀ i x, i < K → l[i]? = some x → pointB x = true
  bad : ∀ x, l[K]? = some x → pointB x = false
theorem firstBad_all {l : List Int} (h : ∀ x ∈ l, pointB x = true) : FirstBad l l.length :=
  ⟨Nat.le_refl _, fun i x _ hx => h x (List.mem_of_getElem? hx), fun x hx => by simp at hx⟩

def TextAns (l : List Int) (K : Nat) (w : World) (e : Ending) (w' : World) : Prop :=
  (K = l.length ∧ e = .returned (.tuple #[.string ⟨(textP l).toArray⟩, .int .i64 (-1)]) ∨ K < l.length ∧ e = .returned (.tuple #[.string ⟨#[]⟩, .int .i64 K])) ∧ Below w.heap.size w w'

end Go.Proofs.YtcfhblbmpbfoaaaGreatDoor
namespace Go.Proofs.YtcfhblbmpbfoaaaGreatDoor
open Go Go.RowKit Go.Kt Go.Shelf

set_option maxRecDepth 100000 in
theorem writeByte_x (b : Nat) (Y : Nat → Prop) (l : List UInt8) (c : Int) (W : World) (h : Bld b Y l W) (h0 : 0 ≤ c) (h1 : c < 256) (hlen : l.length + 1 ≤ 140737488355328) :
    Calls Tryz.prog 86 #[.pointer (some ⟨b, 0, none⟩), .int .u8 c] W fun e w' => e = .returned .nilIface ∧
      ∃ Y', Bld b Y' (l ++ [UInt8.ofNat c.toNat]) w' ∧ Keep (fun c => c = b ∨ Y c) W w' ∧ (∀ c, Y' c → Y c ∨ W.heap.size ≤ c) := by
  have hc := Lib.hid (copyCheck_x b Y l W h)
  have hcc := Lib.hid (ofNat_toNat c h0 h1)
  clear h
  go_enter Tryz.func86, Tryz.ntmps86
  go_wp2_with fail
  refine hc.out.mono ?_
  rintro e w1 ⟨rfl, v, hh, ho, hne, hy, hk, hsz⟩
  obtain ⟨a0, k0, p0, rfl⟩ : ∃ ao n' cap, v = .slice ao n' cap := by
    rcases ho.2 with ⟨hv, _⟩ | ⟨g, cap, cur, fz, hv, _⟩
    · exact ⟨_, _, _, hv⟩
    · exact ⟨_, _, _, hv⟩
  obtain ⟨g, cap, w2, hrun, ho2, hk2, hfr, hz2⟩ := append_b (P := Tryz.prog) w1 124 5 Tryz.underlying124 tinfo5 ho (.int .u8 c) rfl hlen
  have c1 : w1.cell? ⟨b, 1, none⟩ = some (.slice a0 k0 p0) := by rw [Lib.cell_of_heap hh]; rfl
  have hb2 : w2.heap[b]? = some (.cells #[.pointer (some ⟨b, 0, none⟩), .slice a0 k0 p0] 128 (0, 0)) := hk2.heap hh hne
  have c2 : w2.cell? ⟨b, 1, none⟩ = some (.slice a0 k0 p0) := by rw [Lib.cell_of_heap hb2]; rfl
  have f2 : w2.frozen? ⟨b, 1, none⟩ = false := Lib.frozen_of_heap hb2 1
  have hfacts := Lib.hid (And.intro hh (And.intro ho (And.intro hne (And.intro hy (And.intro hb2 (And.intro hsz hfr))))))
  clear hh hb2 hsz hfr hy
  have HO2 := Lib.hid ho2
  clear ho2 hne ho
  have HR := Lib.hid hrun
  clear hrun
  go_wp2_with (at_builtin; refine wpList_append_eq rfl rfl rfl rfl HR.out ?_)
  go_ret
  obtain ⟨hh, ho, hne, hy, hb2, hsz, hfr⟩ := hfacts.out
  have hk3 : Keep (fun c => c = b) w2 (w2.setCell ⟨b, 1, none⟩ (.slice (some ⟨g, 0, none⟩) (l.length + 1) cap)) := (Keep.refl (fun c => c = b) w2).setCell (p := ⟨b, 1, none⟩) rfl _
  have hbs : b < w1.heap.size := (Array.getElem?_eq_some_iff.1 hh).1
  have hgb : g ≠ b := fun e => by
    subst e
    rcases hfr with h | h
    · exact hne h
    · omega
  refine ⟨rfl, fun c => g = c, ⟨_, .slice (some ⟨g, 0, none⟩) (l.length + 1) cap, .inr rfl, ?_, ?_, fun e => hgb (by simpa [Value.ownBlock] using e), fun c hc => by simpa [Value.ownBlock] using hc⟩, ?_, ?_⟩
  · simp [World.setCell, Array.getElem?_modify, hb2]
  · have := ownsF_keep HO2.out hk3 (fun g' hg e => hgb (by
      have : g = g' := by simpa [Value.ownBlock] using hg
      rw [this, e]))
    have e1 : (l ++ [UInt8.ofNat c.toNat]).length = l.length + 1 := by simp
    rw [e1, show Lib.byteCells (l ++ [UInt8.ofNat c.toNat]) = Lib.byteCells l ++ [.int .u8 c] by simp only [Lib.byteCells, List.map_append, List.map_cons, List.map_nil, hcc.out]]
    exact this
  · exact ((hk.weaken (fun _ _ h => .inl h)).trans (hk2.weaken (fun _ _ h => .inr (hy _ h)))).trans (hk3.weaken (fun _ _ h => .inl h))
  · intro c hc
    subst hc
    rcases hfr with h | h
    · exact .inl (hy g h)
    · exact .inr (by omega)

theorem valid_char (x : Int) : Lib.validRune x = charB x := by
  rw [Bool.eq_iff_iff, charB_iff]; simp [Lib.validRune]
theorem valid_char2 (x : Int) : Utf8.valid x = charB x := by
  rw [Bool.eq_iff_iff, charB_iff]; simp [Utf8.valid]; omega
theorem bytesP_char (x : Int) (h : charB x = true) : bytesP x = (Utf8.encode x).data.toList := by
  have := (charB_iff x).1 h
  unfold bytesP
  rw [if_neg (by omega), encode_C, valid_char2, h]
  rfl

theorem ptsIll_any (x : Int) (w : World) :
    Calls Tryz.prog 85 #[.int .i32 x] w fun e w' => e = .returned (.bool (decide (1114240 ≤ x ∧ x ≤ 1114367))) ∧ w = w' := by
  by_cases h1 : 1114240 ≤ x
  · by_cases h2 : x ≤ 1114367
    · have hd : decide (1114240 ≤ x ∧ x ≤ 1114367) = true := by simp; omega
      rw [hd]; clear hd
      go_enter Tryz.func85, Tryz.ntmps85
      go_wp2
      go_ret
      exact ⟨rfl, rfl⟩
    · have hd : decide (1114240 ≤ x ∧ x ≤ 1114367) = false := by simp; omega
      rw [hd]; clear hd
      go_enter Tryz.func85, Tryz.ntmps85
      go_wp2
      go_ret
      exact ⟨rfl, rfl⟩
  · have hd : decide (1114240 ≤ x ∧ x ≤ 1114367) = false := by simp; omega
    rw [hd]; clear hd
    go_enter Tryz.func85, Tryz.ntmps85
    go_wp2
    go_ret
    exact ⟨rfl, rfl⟩

def PTextAns (l : List Int) (K : Nat) (w : World) (e : Ending) (w' : World) : Prop :=
  (K = l.length ∧ e = .returned (.tuple #[.string ⟨(textP l).toArray⟩, .nilIface]) ∨ K < l.length ∧ e = .returned (.tuple #[.string ⟨#[]⟩, .iface 136 (fv 8 0 K)])) ∧ Below w.heap.size w w'

set_option maxRecDepth 100000 in
set_option maxHeartbeats 1000000 in
theorem ptsText_any (v : Value) (l : List Int) (K : Nat) (w : World) (h : Slg .i32 w v l) (hw : ∀ x ∈ l, -2147483648 ≤ x ∧ x ≤ 2147483647) (hl : l.length ≤ 35184372087808) (hK : FirstBad l K) :
    Calls Tryz.prog 48 #[v] w (PTextAns l K w) := by
  obtain ⟨av, cv, rfl, h⟩ := h
  have H := Lib.hid h
  have HW := Lib.hid hw
  have HK := Lib.hid hK
  have hKl := hK.le
  clear h hw hK
  obtain ⟨W, hW⟩ : ∃ W, w.alloc (.cells #[.pointer none, .slice none 0 0] 128 (0, 0)) = W := ⟨_, rfl⟩
  have hbW : Below w.heap.size w W := by rw [← hW]; exact (Below.refl _ w).alloc (Nat.le_refl _) _
  have hgW : W.heap[w.heap.size]? = some (.cells #[.pointer none, .slice none 0 0] 128 (0, 0)) := by rw [← hW]; exact World.alloc_heap_new w _
  have hzW : W.heap.size = w.heap.size + 1 := by rw [← hW]; simp
  have CG := Lib.hid (Tryz.Builder_Grow_fresh w.heap.size w.heap.size l.length W (Nat.le_refl _) hgW (by omega) (by omega))
  have hWe := Lib.hid hW
  clear hgW hW
  go_enter Tryz.func48, Tryz.ntmps48
  go_wp2_with fail
  rw [hWe.out]
  refine CG.out.mono ?_
  rintro e w1 ⟨rfl, hB1, hb1⟩
  have hbld1 : Bld w.heap.size (fun c => w.heap.size ≤ c) [] w1 := by
    obtain ⟨_, v, hh, ho, hne⟩ := hB1
    refine ⟨_, v, .inr rfl, hh, World.ownsRowF_of ?_, hne, fun g hg => (ho.lt g hg).1⟩
    refine ⟨ho.1, ?_⟩
    rcases ho.2 with h | ⟨g, cap, cur, rfl, hb, rest⟩
    · exact .inl h
    · exact .inr ⟨g, cap, cur, rfl, Nat.zero_le _, rest⟩
  have HB := Lib.hid (And.intro hbld1 (hbW.trans hb1))
  clear hB1 hb1 hbW hbld1
  go_wp2
  go_loopw [12] (fun i wr => ∃ (k : Nat) (acc : List UInt8), k ≤ K ∧ i = .int .i64 k ∧ acc = textP (l.take k) ∧ Bld w.heap.size (fun c => w.heap.size ≤ c) acc wr ∧ Below w.heap.size w wr)
    (fun i _ => l.length - (RowKit.intOf i).toNat)
  case atStart => exact ⟨0, [], by omega, rfl, rfl, HB.out.1, HB.out.2⟩
  case round =>
    clear HB
    obtain ⟨k, acc, hk, rfl, hacc, hbld, hb⟩ := hrel
    by_cases hlt : k < l.length
    · obtain ⟨a, rfl, ha⟩ : ∃ a : Addr, av = some a ∧ ∀ i x, l[i]? = some x → w.cell? (a.add i) = some (.int .i32 x) := by
        rcases H.out with h | h
        · subst h; simp at hlt
        · exact h
      obtain ⟨x, hx⟩ : ∃ x, l[k]? = some x := ⟨l[k], List.getElem?_eq_getElem hlt⟩
      have q := ha k x hx
      have p1 := (hb.cell (lt_of_cell q)).trans q
      have hxr := HW.out x (List.mem_of_getElem? hx)
      have hsz : acc.length ≤ 4 * k := by
        rw [hacc]
        have := textP_len (l.take k)
        rw [List.length_take] at this
        omega
      have hnext : textP (l.take (k + 1)) = acc ++ bytesP x := by
        rw [List.take_add_one, hx]
        show textP (l.take k ++ [x]) = _
        rw [textP_snoc, hacc]
      have cV := Tryz.utf8_ValidRune x
      rw [valid_char] at cV
      have hbl := bytesP_len x
      by_cases hkK : k < K
      · have hxp := HK.out.good k x hkK hx
        cases hch : charB x
        · have hil : 1114240 ≤ x ∧ x ≤ 1114367 := by
            unfold pointB at hxp
            rw [hch] at hxp
            simpa using hxp
          have hil1 := hil.1
          have hil2 := hil.2
          have hd : decide (1114240 ≤ x ∧ x ≤ 1114367) = true := by simpa using hil
          have cI := ptsIll_any x
          rw [hd] at cI
          rw [hch] at cV
          have CI := Lib.hid cI
          have CV := Lib.hid cV
          have CW := Lib.hid (writeByte_x w.heap.size _ acc (x - 1114112) wr hbld (by omega) (by omega) (by omega))
          have hbp : bytesP x = [UInt8.ofNat (x - 1114112).toNat] := by unfold bytesP; rw [if_pos (by omega)]
          rw [hbp] at hnext
          have HN := Lib.hid (And.intro hnext hb)
          clear hnext hacc hbld q ha hx hxp hb cV cI hd hil hch hbp hbl
          go_wp2_with (first | (go_at_call 82; refine (CV.out _).mono ?_; rintro e w' ⟨rfl, rfl⟩) | (go_at_call 85; refine (CI.out _).mono ?_; rintro e w' ⟨rfl, rfl⟩))
          refine CW.out.mono ?_
          rintro e w2 ⟨rfl, Y2, hb2, hk2, hY2⟩
          go_wp2
          go_roundw
          case rel =>
            refine ⟨k + 1, _, by omega, by go_num, HN.out.1.symm, ?_, HN.out.2.trans (hk2.below HN.out.2.size (fun b h => by omega))⟩
            obtain ⟨p, v, hp, hh, ho, hne, hy⟩ := hb2
            exact ⟨p, v, hp, hh, ho, hne, fun g hg => by have := HN.out.2.size; have := hY2 g (hy g hg); omega⟩
          case measure => simp [RowKit.intOf]; omega
        · rw [hch] at cV
          have CV := Lib.hid cV
          have hbp := bytesP_char x hch
          have hes : (Utf8.encode x).size = (bytesP x).length := by rw [hbp, Lib.size_eq]
          have CW := Lib.hid (writeString_x w.heap.size _ acc (Utf8.encode x) wr hbld (by omega))
          rw [hbp] at hnext
          have CE := Lib.hid (fun W => utfEncode_any x W)
          have HN := Lib.hid (And.intro hnext hb)
          clear hnext hacc hbld q ha hx hxp hb cV hch hbp hbl hes
          generalize Utf8.encode x = ex at *
          go_wp2_with (first | (go_at_call 82; refine (CV.out _).mono ?_; rintro e w' ⟨rfl, rfl⟩) | (go_at_call 84; refine (CE.out _).mono ?_; rintro e w' ⟨rfl, rfl⟩))
          refine CW.out.mono ?_
          rintro e w2 ⟨rfl, Y2, hb2, hk2, hY2⟩
          go_wp2
          go_roundw
          case rel =>
            refine ⟨k + 1, _, by omega, by go_num, HN.out.1.symm, ?_, HN.out.2.trans (hk2.below HN.out.2.size (fun b h => by omega))⟩
            obtain ⟨p, v, hp, hh, ho, hne, hy⟩ := hb2
            exact ⟨p, v, hp, hh, ho, hne, fun g hg => by have := HN.out.2.size; have := hY2 g (hy g hg); omega⟩
          case measure => simp [RowKit.intOf]; omega
      · obtain rfl : k = K := by omega
        have hxp := HK.out.bad x hx
        have hch : charB x = false := by
          unfold pointB at hxp
          cases h : charB x
          · rfl
          · rw [h] at hxp; simp at hxp
        have hd : decide (1114240 ≤ x ∧ x ≤ 1114367) = false := by
          unfold pointB at hxp
          rw [hch] at hxp
          simpa using hxp
        have cI := ptsIll_any x
        rw [hd] at cI
        rw [hch] at cV
        have CI := Lib.hid cI
        have CV := Lib.hid cV
        have HO : Hid (PTextAns l k w (.returned (.tuple #[.string ⟨#[]⟩, .iface 136 (fv 8 0 k)])) wr) := Lib.hid ⟨.inr ⟨hlt, rfl⟩, hb⟩
        clear hnext hacc hbld q ha hx hxp hb cV cI hd hch hbl hkK
        go_wp2_with (first | (go_at_call 82; refine (CV.out _).mono ?_; rintro e w' ⟨rfl, rfl⟩) | (go_at_call 85; refine (CI.out _).mono ?_; rintro e w' ⟨rfl, rfl⟩))
        go_ret2
        exact HO.out
    · have hke : k = l.length := by omega
      have hKe : K = l.length := by omega
      rw [hke, List.take_length] at hacc
      have CS := Lib.hid (string_x w.heap.size _ acc wr hbld w.heap.size hb.size (Nat.le_refl _) (fun g h => h))
      rw [hacc] at CS
      have HO : Hid (∀ w', Below w.heap.size wr w' → PTextAns l K w (.returned (.tuple #[.string ⟨(textP l).toArray⟩, .nilIface])) w') := Lib.hid fun w' h => ⟨.inl ⟨hKe, rfl⟩, hb.trans h⟩
      clear hke hKe hacc hbld hk hb
      go_wp2_with fail
      refine CS.out.mono ?_
      rintro e w2 ⟨rfl, hb2, _⟩
      go_wp2
      go_ret2
      exact HO.out _ hb2
end Go.Proofs.YtcfhblbmpbfoaaaGreatDoor
namespace Go.Proofs.YtcfhblbmpbfoaaaGreatDoor
open Go

def seg (s : ByteArray) (i j : Nat) : List UInt8 := (s.extract i j).data.toList
theorem seg_eq (s : ByteArray) (i j : Nat) : seg s i j = (s.data.toList.take j).drop i := by
  simp [seg, List.drop_take]
theorem seg_len (s : ByteArray) (i j : Nat) (_h : i ≤ j) (hj : j ≤ s.size) : (seg s i j).length = j - i := by
  have : s.data.toList.length = s.size := by simp
  rw [seg_eq]; simp; omega
theorem seg_range (s : ByteArray) (i w : Nat) (h : i + w ≤ s.size) : seg s i (i + w) = (List.range w).map fun j => UInt8.ofNat (B s (i + j)) := by
  have hl : s.data.toList.length = s.size := by simp
  apply List.ext_getElem?
  intro j
  rw [seg_eq, List.getElem?_drop, List.getElem?_take, List.getElem?_map]
  by_cases hj : j < w
  · rw [if_pos (by omega), List.getElem?_range hj]
    have hlt : i + j < s.data.toList.length := by omega
    unfold B
    rw [Option.map_some, List.getD_eq_getElem?_getD, List.getElem?_eq_getElem hlt]
    simp
  · rw [if_neg (by omega), List.getElem?_eq_none (by simpa using hj)]
    rfl

theorem encode_decode (s : ByteArray) (i w : Nat) (hi : i < s.size) (hw1 : 1 ≤ w) (hw4 : w ≤ 4) (h : wideI s i = w) : (Utf8.encode (Utf8.decode s i).1).data.toList = seg s i (i + w) ∧ Utf8.valid (Utf8.decode s i).1 = true := by
  obtain ⟨hs, hc⟩ := (wide_iff s i w hi hw1 hw4).1 h
  have hd : ((Utf8.decode s i).1 : Int) = numT w (B s i) (B s (i + 1)) (B s (i + 2)) (B s (i + 3)) := by
    rcases unit_at s i hi with ⟨q, _⟩ | ⟨u, _, _, _, e1, _, e3⟩
    · omega
    · obtain rfl : u = w := by omega
      exact e3
  rw [seg_range s i w hs]
  have b0 := B_lt s i
  have b1 := B_lt s (i + 1)
  have b2 := B_lt s (i + 2)
  have b3 := B_lt s (i + 3)
  generalize (Utf8.decode s i).1 = c at hd
  have hv : Utf8.valid c = true := by
    unfold numT at hd
    simp only [Utf8.valid, Bool.or_eq_true, Bool.and_eq_true, decide_eq_true_iff]
    rcases hc with ⟨rfl, h1⟩ | ⟨rfl, h1⟩ | ⟨rfl, h1⟩ | ⟨rfl, h1⟩
    · simp at hd; omega
    · simp at hd; omega
    · simp at hd; omega
    · simp at hd; omega
  refine ⟨?_, hv⟩
  rw [encode_C, if_pos hv]
  unfold encC
  unfold numT at hd
  rcases hc with ⟨rfl, h1⟩ | ⟨rfl, h1⟩ | ⟨rfl, h1⟩ | ⟨rfl, h1⟩
  · simp at hd
    rw [if_pos (by omega)]
    simp [List.range_succ]
    rw [show (c : Nat) = B s i by omega]
  · simp at hd
    rw [if_neg (by omega), if_pos (by omega)]
    simp [List.range_succ]
    exact ⟨by rw [show (192 + (c : Int) / 64).toNat = B s i by omega], by rw [show (128 + (c : Int) % 64).toNat = B s (i + 1) by omega]⟩
  · simp at hd
    rw [if_neg (by omega), if_neg (by omega), if_pos (by omega)]
    simp [List.range_succ]
    exact ⟨by rw [show (224 + (c : Int) / 4096).toNat = B s i by omega], by rw [show (128 + (c : Int) / 64 % 64).toNat = B s (i + 1) by omega], by rw [show (128 + (c : Int) % 64).toNat = B s (i + 2) by omega]⟩
  · simp at hd
    rw [if_neg (by omega), if_neg (by omega), if_neg (by omega)]
    simp [List.range_succ]
    exact ⟨by rw [show (240 + (c : Int) / 262144).toNat = B s i by omega], by rw [show (128 + (c : Int) / 4096 % 64).toNat = B s (i + 1) by omega], by rw [show (128 + (c : Int) / 64 % 64).toNat = B s (i + 2) by omega], by rw [show (128 + (c : Int) % 64).toNat = B s (i + 3) by omega]⟩

def fixF (s : ByteArray) : Nat → Nat → List UInt8
  | 0, _ => []
  | f + 1, i => if i < s.size then (Utf8.encode (Utf8.decode s i).1).data.toList ++ fixF s f (i + (Utf8.decode s i).2) else []
def fffd : List UInt8 := [239, 191, 189]
end Go.Proofs.YtcfhblbmpbfoaaaGreatDoor
namespace Go.Proofs.YtcfhblbmpbfoaaaGreatDoor
open Go

def mendR (s by' : ByteArray) (whole : Bool) : Nat → Nat → List UInt8
  | 0, _ => []
  | f + 1, i => if i < s.size then (if wideI s i = 0 then rep by'.data.toList (if whole then 1 else badK s i) ++ mendR s by' whole f (i + badK s i) else seg s i (i + (wideI s i).toNat) ++ mendR s by' whole f (i + (wideI s i).toNat)) else []
def sumK (l : List (Nat × Nat)) : Nat := (l.map (·.2)).sum
end Go.Proofs.YtcfhblbmpbfoaaaGreatDoor
namespace Go.Proofs.YtcfhblbmpbfoaaaGreatDoor
open Go

def bt (l : List UInt8) (i : Nat) : Nat := (l.getD i 0).toNat
def Chr (c : List UInt8) : Prop := 1 ≤ c.length ∧ c.length ≤ 4 ∧ CharAt c.length (bt c 0) (bt c 1) (bt c 2) (bt c 3)
inductive Vd : List UInt8 → Prop
  | nil : Vd []
  | cons (c l : List UInt8) : Chr c → Vd l → Vd (c ++ l)
end Go.Proofs.YtcfhblbmpbfoaaaGreatDoor
namespace Go.Proofs.YtcfhblbmpbfoaaaGreatDoor
open Go

theorem units_dec (s : ByteArray) : ∀ f i p, p ∈ unitsF s f i → p.2 = (Utf8.decode s p.1).1 ∧ p.1 < s.size
  | 0, _, p, h => by simp [unitsF] at h
  | f + 1, i, p, h => by
    rw [unitsF] at h
    split at h
    · rcases List.mem_cons.1 h with h | h
      · subst h; exact ⟨rfl, by assumption⟩
      · exact units_dec s f _ p h
    · simp at h
def fixR (x : Int) : Int := if Utf8.valid x then x else 65533
end Go.Proofs.YtcfhblbmpbfoaaaGreatDoor
namespace Go.Proofs.YtcfhblbmpbfoaaaGreatDoor
open Go Go.RowKit Go.Kt Go.Shelf

set_option maxRecDepth 100000 in
theorem utfCount_any (s : ByteArray) (w : World) (hs : s.size ≤ 4611686018427387904) :
    Calls Tryz.prog 61 #[.string s] w fun e w' => e = .returned (.int .i64 ((units s).length : Nat)) ∧ Below w.heap.size w w' := by
  have hul := units_len s
  obtain ⟨R, hR⟩ : ∃ R, (units s).length = R := ⟨_, rfl⟩
  rw [hR] at hul ⊢
  have HR := Lib.hid hR
  clear hR
  go_enter Tryz.func61, Tryz.ntmps61
  go_wp2
  go_loopw [3] (fun v wr => ∃ k pos f : Nat, v = .int .i64 k ∧ k + (unitsF s f pos).length = R ∧ s.size ≤ pos + f ∧ Below w.heap.size w wr ∧ w.heap.size < wr.heap.size ∧ wr.heap[w.heap.size]? = some (.stringIter s pos))
    (fun _ wr => s.size - iterPos wr w.heap.size)
  case atStart => exact ⟨0, 0, s.size, rfl, by have := HR.out; unfold units at this; omega, by omega, (Below.refl _ w).alloc (Nat.le_refl _) (.stringIter s 0), by show w.heap.size < (w.alloc (.stringIter s 0)).heap.size; rw [World.size_alloc]; omega, World.alloc_heap_new w _⟩
  case round =>
    obtain ⟨k, pos, f, rfl, hp, hf, hb, hlt, hit⟩ := hrel
    by_cases hpos : pos < s.size
    · obtain ⟨d1, d2, d3⟩ := dec_width s pos hpos
      obtain ⟨f', rfl⟩ : ∃ f', f = f' + 1 := ⟨f - 1, by omega⟩
      have hun : unitsF s (f' + 1) pos = (pos, (Utf8.decode s pos).1) :: unitsF s f' (pos + (Utf8.decode s pos).2) := by rw [unitsF, if_pos hpos]
      rw [hun, List.length_cons] at hp
      obtain ⟨W1, hW1⟩ : ∃ W1, wr.putObj w.heap.size (.stringIter s (pos + (Utf8.decode s pos).2)) = W1 := ⟨_, rfl⟩
      have hb1 : Below w.heap.size w W1 := by rw [← hW1]; exact hb.trans (below_putObj (Nat.le_refl _) _)
      have hit1 : W1.heap[w.heap.size]? = some (.stringIter s (pos + (Utf8.decode s pos).2)) := by rw [← hW1]; exact World.putObj_heap_same hlt
      have hnx : ∀ ty, (Instr.next (.pointer (some ⟨w.heap.size, 0, none⟩)) true ty).run Tryz.prog wr = .ok (.tuple #[.bool true, .int .i64 pos, .int .i32 (Utf8.decode s pos).1]) W1 := fun ty => by
        rw [← hW1]; exact run_next_str wr w.heap.size s pos ty hit hpos
      generalize Utf8.decode s pos = dd at *
      obtain ⟨r, wd⟩ := dd
      have hkb : (k : Int) ≤ 4611686018427387904 := by omega
      have Hdat := Lib.hid (And.intro hp (And.intro hit hit1))
      clear hp hun hit hit1 hW1
      go_wp2
      go_roundw
      case rel => exact ⟨k + 1, pos + wd, f', by go_num, by have := Hdat.out.1; simp only at this; omega, by omega, hb1, (Array.getElem?_eq_some_iff.1 Hdat.out.2.2).1, Hdat.out.2.2⟩
      case measure => rw [iterPos_eq Hdat.out.2.2, iterPos_eq Hdat.out.2.1]; omega
    · have hnx : ∀ ty, (Instr.next (.pointer (some ⟨w.heap.size, 0, none⟩)) true ty).run Tryz.prog wr = .ok (.tuple #[.bool false]) wr := fun ty => run_next_str_end wr w.heap.size s pos ty hit hpos
      have hk : k = R := by
        have : unitsF s f pos = [] := by
          cases f with
          | zero => rfl
          | succ f => rw [unitsF, if_neg hpos]
        rw [this] at hp; simpa using hp
      subst hk
      clear hp hit
      go_wp2
      go_ret
      exact ⟨rfl, hb⟩

def CharsOut (l : List Int) (w : World) (e : Ending) (w' : World) : Prop := e = .returned (.bool (l.all Utf8.valid)) ∧ Drawn w w'
end Go.Proofs.YtcfhblbmpbfoaaaGreatDoor
namespace Go.Proofs.YtcfhblbmpbfoaaaGreatDoor
open Go Go.RowKit Go.Kt Go.Shelf
attribute [local go_sem] Oper.semAt_some

def ptL (s : ByteArray) (l : List (Nat × Nat)) : List Int := l.map fun p => ((ptU s p.1).1 : Int)
def pts (s : ByteArray) : List Int := ptL s (units s)
theorem ptL_snoc (s : ByteArray) (l : List (Nat × Nat)) (p : Nat × Nat) : ptL s (l ++ [p]) = ptL s l ++ [((ptU s p.1).1 : Int)] := by simp [ptL]
theorem ptL_len (s : ByteArray) (l : List (Nat × Nat)) : (ptL s l).length = l.length := by simp [ptL]
theorem pts_len (s : ByteArray) : (pts s).length = (units s).length := ptL_len _ _

def Made (B : Nat) (l : List Int) (w : World) (e : Ending) (w' : World) : Prop :=
  ∃ ao cap, e = .returned (.slice ao l.length cap) ∧ OwnS (fun b => B ≤ b) 21 1 (.slice ao l.length cap) l.length (i32s l) w' ∧ Below B w w'

theorem mk_runes (W : World) (c : Nat) (hc : 4 * c ≤ 281474976710656) :
    ∃ w2, (Instr.makeSlice 22 (.int .i64 0) (.int .i64 (c : Int))).run Tryz.prog W = .ok (.slice (some ⟨W.heap.size, 0, none⟩) 0 c) w2 ∧
      OwnS (fun b => b = W.heap.size) 21 1 (.slice (some ⟨W.heap.size, 0, none⟩) 0 c) 0 [] w2 ∧ w2.heap.size = W.heap.size + 1 ∧ Below W.heap.size W w2 := by
  obtain ⟨i, hi, hz, hs1, hbb1⟩ := info_parts tinfo21
  have hb' : (i.bytes : Int) * (c : Int) ≤ 281474976710656 := by rw [hbb1]; omega
  have hr := run_make (P := Tryz.prog) W 22 21 i (.int .i32 0) Tryz.underlying22 hi hz .i64 .i64 0 c (Int.le_refl _) (by omega) hb' (by omega)
  simp only [Int.toNat_zero, Int.toNat_natCast] at hr
  have hm : c ≤ maxLen := by unfold maxLen; omega
  have hq := World.ownsRow_made (base := 0) W (madeCells (Value.int .i32 0).cells (c * i.size)) c (Nat.zero_le _) hm (size_madeCells _ _) (e := 21)
  rw [hs1] at hq hr
  exact ⟨_, hr, ⟨hq, fun g h => by cases h; rfl⟩, by simp, (Below.refl _ W).alloc (Nat.le_refl _) _⟩

set_option maxRecDepth 100000 in
set_option maxHeartbeats 2000000 in
theorem ptsOf_any (s : ByteArray) (w : World) (hT : Lib.Utf8Tabs 3 4 w) (h2 : 5 ≤ w.heap.size) (hs : s.size ≤ 4611686018427387904) (hu : (units s).length ≤ 35184372087808) :
    Calls Tryz.prog 32 #[.string s] w (Made w.heap.size (pts s) w) := by
  have HT := Lib.hid hT; clear hT
  obtain ⟨R, hR⟩ : ∃ R, units s = R := ⟨_, rfl⟩
  have hRl : R.length ≤ 35184372087808 := by rw [← hR]; exact hu
  have HR := Lib.hid hR
  have cC := Lib.hid (fun W => (by have := utfCount_any s W (by omega); rw [hR] at this; exact this : Calls Tryz.prog 61 #[.string s] W fun e w' => e = .returned (.int .i64 (R.length : Nat)) ∧ Below W.heap.size W w'))
  clear hR hu
  have hfn : ∀ k, Fence.wide.fn k := fun _ => trivial
  have hdep : Fence.wide.depth = none := rfl
  refine (callsIn_wide (n := 0)).1 ?_
  refine callsIn_of_wp_marks Tryz.func32 rfl trivial ?_ rfl
  simp only [Tryz.ntmps32, List.size_toArray, List.length_cons, List.length_nil, Nat.reduceAdd, Nat.reduceSub, Array.replicate_succ, Array.replicate_zero, List.push_toArray, List.append_toArray, List.nil_append, List.cons_append]
  gi_wp2_with fail
  refine (callsIn_wide.2 (cC.out _)).mono ?_
  rintro e w1 ⟨rfl, hb1⟩
  generalize hn : w.heap.size = n at *
  obtain ⟨w0, hw0⟩ : ∃ w0, w.alloc (.cells #[.string s] 9 (0, 0)) = w0 := ⟨_, rfl⟩
  rw [hw0] at hb1
  have hsz0 : w0.heap.size = n + 1 := by rw [← hw0]; simp [hn]
  have b00 : w0.heap[n]? = some (.cells #[.string s] 9 (0, 0)) := by rw [← hw0, ← hn]; exact World.alloc_heap_new w _
  have hbw0 : Below n w w0 := by rw [← hw0]; exact (Below.refl n w).alloc (by omega) _
  have hbw1 : Below n w w1 := hbw0.trans (hb1.mono (by omega))
  have b01 : w1.heap[n]? = some (.cells #[.string s] 9 (0, 0)) := (hb1.block n (by omega)).trans b00
  have hsz1 := hb1.size
  obtain ⟨w2, hrun, hown2, hsz2, hbw2⟩ := mk_runes w1 R.length (by omega)
  have HRun := Lib.hid hrun
  have b02 : w2.heap[n]? = some (.cells #[.string s] 9 (0, 0)) := (hbw2.block n (by omega)).trans b01
  have c01 := cell_one b01
  have c02 := cell_one b02
  clear hrun
  have hrun := HRun.out
  have c03 : ∀ o, (w2.alloc o).cell? ⟨n, 0, none⟩ = some (.string s) := fun o => cell_one (alloc_old b02)
  gi_wp2_with fail
  refine (callsIn_wide.2 (utfAll_call s _)).mono ?_
  rintro e w3 ⟨rfl, hw3⟩
  clear hrun
  obtain ⟨m, hm⟩ : ∃ m, w1.heap.size = m := ⟨_, rfl⟩
  rw [hm] at hown2 hsz2 hbw2 hw3 ⊢
  have hsz3 : w3.heap.size = m + 3 := by rw [← hw3]; simp [hsz2]
  have hbw3 : Below n w w3 := by
    have h1 : Below n w w2 := hbw1.trans (hbw2.mono (by omega))
    rw [← hw3]
    exact (h1.alloc (by omega) _).alloc (by simp; omega) _
  have b03 : w3.heap[n]? = some (.cells #[.string s] 9 (0, 0)) := by rw [← hw3]; exact alloc_old (alloc_old b02)
  have bl3 : w3.heap[m + 1]? = some (.cells #[.slice (some ⟨m, 0, none⟩) 0 R.length] 22 (0, 0)) := by rw [← hw3]; exact alloc_old (alloc_at hsz2.symm)
  have bs3 : w3.heap[m + 2]? = some (.cells #[.string s] 9 (0, 0)) := by rw [← hw3]; exact alloc_at (by simp [hsz2])
  have hown3 : OwnS (fun b => b = m) 21 1 (.slice (some ⟨m, 0, none⟩) 0 R.length) 0 [] w3 := by
    rw [← hw3]
    exact hown2.keep (X := fun _ => False) (((Keep.refl _ _).alloc _).alloc _) (fun _ h => h.elim)
  have HT3 : Hid (Lib.Utf8Tabs 3 4 w3) := Lib.hid (tabs_below HT.out h2 hbw3)
  clear hw3 hown2 b00 b01 b02 c01 c02 c03 hw0
  gi_wp2_with fail
  refine loop_out (gf := 113) (lb := #[.pointer (some ⟨m + 2, 0, none⟩)]) (encs := enc2) rfl (enters_of Tryz.func113 (by kernel_rfl) rfl)
    (all_iter s (m + 2) w3 (cell_one bs3) (by omega)) (fun _ => rfl) (X := fun b => b = m + 1 ∨ b = m)
    (fun b hb => by omega) (fun b hb => by omega) (fun _ _ => rfl) (Nat.le_refl _)
    (fun pre Y W => ∃ ao cv, W.heap[m + 1]? = some (.cells #[.slice ao pre.length cv] 22 (0, 0)) ∧ OwnS (fun b => b = m ∨ Y b) 21 1 (.slice ao pre.length cv) pre.length (i32s (ptL s pre)) W)
    (fun _ _ _ _ => False)
    (fun pre Y W W' hk h => by
      obtain ⟨ao, cv, h1, h2⟩ := h
      exact ⟨ao, cv, hk.heap h1 (fun hx => by have := hx.1; omega), h2.keep hk (fun b hx hy => by rcases hy with hy | hy; have := hx.1; omega; exact hx.2 hy)⟩)
    (fun _ _ _ _ _ _ h => h) ⟨_, _, bl3, hown3.weaken (fun _ h => .inl h)⟩ ?round ?done ?stop
  case stop => intro D c pre Y W _ _ _ h; exact h.elim
  case round =>
    rintro l' hl' pre ⟨at', r0⟩ Y W hpre hi hk hY hlt hr
    gi_wp2
    refine ⟨Keep.refl _ _, ?_⟩
    rintro W2 _ hk2 ⟨ao, cv, hv, hown⟩ hr2
    obtain ⟨rest, hrest⟩ := hpre
    have hmem : (at', r0) ∈ units s := by rw [← hrest]; simp
    have hat : at' < s.size := (units_dec s s.size 0 _ hmem).2
    rw [HR.out] at hrest
    have hlen : pre.length < R.length := by rw [← hrest]; simp
    have hz2 : m + 3 ≤ W2.heap.size := by have := hk2.size; omega
    have c2 : W2.cell? ⟨n, 0, none⟩ = some (.string s) := hk2.cell (p := ⟨n, 0, none⟩) (cell_one b03) (by show ¬ (n = m + 1 ∨ n = m); omega)
    have hT2 : Lib.Utf8Tabs 3 4 W2 := tabs_below HT3.out h2 (hk2.below (n := n) (by omega) (fun b hb => by omega))
    have C := ptsNext_any s at' W2 hT2 (by omega)
    rw [ptP_in s at' hat] at C
    have hsn := ptL_snoc s pre (at', r0)
    simp only at hsn
    generalize ptU s at' = d at *
    obtain ⟨x, wd⟩ := d
    simp only at C hsn
    have CC := Lib.hid C
    have HI := Lib.hid (And.intro hv (And.intro hown hsn))
    clear C hv hown hsn hmem hrest hi hk hT2
    gi_wp2_with fail
    refine (CallsIn.inRound l' (callsIn_wide.2 CC.out)).mono ?_
    rintro e W3 ⟨rfl, hb3⟩
    obtain ⟨hv, hown, hsn⟩ := HI.out
    have hz3 := hb3.size
    have hv3 : W3.heap[m + 1]? = some (.cells #[.slice ao pre.length cv] 22 (0, 0)) := (hb3.block _ (by omega)).trans hv
    have hown3' : OwnS (fun b => b = m ∨ Y b) 21 1 (.slice ao pre.length cv) pre.length (i32s (ptL s pre)) W3 := hown.keep (X := fun _ => False) (.of_all hb3) (fun _ h => h.elim)
    obtain ⟨v, hvv⟩ : ∃ v, Value.slice ao pre.length cv = v := ⟨_, rfl⟩
    rw [hvv] at hv3 hown3' hv
    clear hown
    obtain ⟨g, cap, w4, hrun, hown4, hk4, hg4, hz4⟩ := append_x (P := Tryz.prog) W3 22 21 Tryz.underlying22 tinfo21 rfl (by omega) hown3' [.int .i32 x] rfl
      (by intro u hu; simp at hu; subst hu; rfl) (by unfold maxLen; omega) (by omega)
    have hvY : ∀ b, v.ownBlock = some b → b = m ∨ Y b := hown3'.2
    have hYl : ∀ b, Y b → m + 3 ≤ b := fun b hb => by have := (hY b hb).1; omega
    have hgn : g ≠ m + 1 := by
      rcases hg4 with h | h
      · rcases hvY g h with h | h
        · omega
        · have := hYl g h; omega
      · omega
    have hv4 : w4.heap[m + 1]? = some (.cells #[v] 22 (0, 0)) := hk4.heap hv3 (fun hx => by
      rcases hvY _ hx with h | h
      · omega
      · have := hYl _ h; omega)
    have k3 := cell_one hv3
    have f3 := frozen_one hv3
    have k4 := cell_one hv4
    have f4 := frozen_one hv4
    obtain ⟨w5, hw5⟩ : ∃ w5, w4.setCell ⟨m + 1, 0, none⟩ (.slice (some ⟨g, 0, none⟩) (pre.length + 1) cap) = w5 := ⟨_, rfl⟩
    have hk5 : Keep (fun b => b = m + 1) w4 w5 := by rw [← hw5]; exact Keep.setCell (X := fun b => b = m + 1) (p := ⟨m + 1, 0, none⟩) (Keep.refl _ _) rfl _
    have hfin : Kt.Left (fun b => b = m + 1 ∨ b = m) Y (fun pre Y W => ∃ ao cv, W.heap[m + 1]? = some (.cells #[.slice ao pre.length cv] 22 (0, 0)) ∧ OwnS (fun b => b = m ∨ Y b) 21 1 (.slice ao pre.length cv) pre.length (i32s (ptL s pre)) W) (pre ++ [(at', r0)]) W2 w5 := by
      refine ⟨fun b => Y b ∨ (b = g ∧ b ≠ m), ?_, ?_, some ⟨g, 0, none⟩, cap, ?_, ?_⟩
      · have h1 : Keep (fun b => (b = m + 1 ∨ b = m) ∨ Y b) W2 W3 := (Keep.of_all hb3)
        have h2 : Keep (fun b => (b = m + 1 ∨ b = m) ∨ Y b) W3 w4 := hk4.weaken (fun b _ h => by rcases hvY b h with h | h; exact .inl (.inr h); exact .inr h)
        exact (h1.trans h2).trans (hk5.weaken fun b _ h => .inl (.inl h))
      · rintro b (hb | ⟨hb, hbm⟩)
        · exact .inl hb
        · subst hb
          rcases hg4 with h | h
          · rcases hvY b h with h | h
            · exact absurd h hbm
            · exact .inl h
          · exact .inr (by omega)
      · rw [← hw5]
        have e1 : (pre ++ [(at', r0)]).length = pre.length + 1 := by simp
        rw [e1]
        exact set_at hv4
      · have := (hown4.keep hk5 (fun b hb hy => hgn (by rw [← hy, hb]))).weaken (Z := fun b => b = m ∨ (Y b ∨ (b = g ∧ b ≠ m))) (fun b h => by
          by_cases hm : b = m
          · exact .inl hm
          · exact .inr (.inr ⟨h, hm⟩))
        have e1 : (pre ++ [(at', r0)]).length = pre.length + 1 := by simp
        rw [e1, hsn]
        simpa [i32s] using this
    subst hvv
    obtain ⟨ag, hag⟩ : ∃ ag, (some ⟨g, 0, none⟩ : Option Addr) = ag := ⟨_, rfl⟩
    rw [hag] at hrun hw5
    have HF := Lib.hid hfin
    have H3 := Lib.hid hrun
    clear hag hfin hrun hown4 hk4 hk5 hg4 hvY hv hv3 hv4 hown3' hsn
    gi_wp2_with (refine wpListIn_append_eq (o := ⟨some 23, _, _, _, _, _⟩) (by rfl) (by rfl) (by rfl) (by rfl) H3.out ?_)
    exact HF.out
  case done =>
    rintro D Y W hD hDd ⟨ao, cv, hv, hown⟩ hY hkW
    have hbW : Below n w W := hbw3.trans (hkW.below (by omega) (fun b hb => by omega))
    have k0 := cell_one hv
    have hz := hkW.size
    rw [HR.out] at hv hown k0
    have HO := Lib.hid (And.intro hown hbW)
    clear hown hbW hv
    gi_wp2_with fail
    refine leaves_marks (Ds := [D]) (by simp) (fun D' h => by simp at h; subst h; exact hDd) (fun W' hk' => ⟨_, results_tmp rfl _ _ _, ?_⟩)
    have e1 : pts s = ptL s R := by unfold pts; rw [HR.out]
    refine ⟨ao, cv, by rw [e1, ptL_len]; rfl, ?_, HO.out.2.trans (hk'.below (by omega) (fun b hb => by simp at hb; omega))⟩
    rw [e1, ptL_len]
    refine (HO.out.1.keep hk' ?_).weaken ?_
    · intro b hb hy
      simp at hb
      subst hb
      rcases hy with h | h
      · omega
      · exact (hY b h).2 rfl
    · rintro b (h | h)
      · omega
      · have := (hY b h).1; omega
end Go.Proofs.YtcfhblbmpbfoaaaGreatDoor
namespace Go.Proofs.YtcfhblbmpbfoaaaGreatDoor
open Go Go.RowKit Go.Kt Go.Shelf

theorem ptU_cases (s : ByteArray) (i : Nat) (h : i < s.size) :
    (Utf8.decode s i = (65533, 1) ∧ ptU s i = (1114112 + B s i, 1) ∧ 128 ≤ B s i) ∨
    (∃ w : Nat, 1 ≤ w ∧ w ≤ 4 ∧ i + w ≤ s.size ∧ wideI s i = w ∧ Utf8.decode s i ≠ (65533, 1) ∧ ptU s i = Utf8.decode s i ∧ (Utf8.decode s i).2 = w ∧ charB (Utf8.decode s i).1 = true ∧ bytesP (Utf8.decode s i).1 = seg s i (i + w)) := by
  by_cases hd : Utf8.decode s i = (65533, 1)
  · refine .inl ⟨hd, by unfold ptU; rw [if_pos hd], ?_⟩
    rcases Nat.lt_or_ge (B s i) 128 with hb | hb
    · have := decode_B s i
      rw [hd] at this
      unfold Lib.decodeN at this
      rw [if_pos hb] at this
      injection this with h1 _
      omega
    · exact hb
  · refine .inr ?_
    rcases unit_at s i h with ⟨_, e⟩ | ⟨w, h1, h4, hw, he, e2, _⟩
    · exact absurd e hd
    · obtain ⟨q1, q2⟩ := encode_decode s i w h h1 h4 he
      have hc : charB ((Utf8.decode s i).1 : Int) = true := by rw [← valid_char2]; exact q2
      exact ⟨w, h1, h4, hw, he, hd, by unfold ptU; rw [if_neg hd], e2, hc, by rw [bytesP_char _ hc]; exact q1⟩

theorem ptU_point (s : ByteArray) (i : Nat) (h : i < s.size) : pointB (ptU s i).1 = true := by
  rcases ptU_cases s i h with ⟨_, e, hb⟩ | ⟨w, _, _, _, _, _, e, _, hc, _⟩
  · have := B_lt s i
    rw [e, pointB_iff]
    right
    simp
    omega
  · rw [e]
    unfold pointB
    rw [hc]
    rfl
theorem pts_points (s : ByteArray) : ∀ x ∈ pts s, pointB x = true := by
  intro x hx
  obtain ⟨p, hp, rfl⟩ := List.mem_map.1 hx
  exact ptU_point s p.1 (units_dec s s.size 0 p hp).2
theorem pts_bd (s : ByteArray) : ∀ x ∈ pts s, -2147483648 ≤ x ∧ x ≤ 2147483647 := by
  intro x hx
  have := (pointB_iff x).1 (pts_points s x hx)
  omega

end Go.Proofs.YtcfhblbmpbfoaaaGreatDoor
namespace Go.Proofs.YtcfhblbmpbfoaaaGreatDoor
open Go.Lib Go.Shelf
set_option maxRecDepth 100000

noncomputable abbrev theLaidC : List (String × DataW Unit) := theLaidP
noncomputable abbrev worldC (os : Os) : World := worldP os
theorem worldC_os (os : Os) : (worldC os).os = os := worldP_os os
theorem laid_metC (os : Os) (args : Array Value) : laidMetH Tryz.prog theLaidC ((worldC os).forCall (fun _ _ => 0) ⟨#[], args, []⟩).memory := laid_metP os args
theorem of_laidC {W : World} (h : laidMetH Tryz.prog theLaidP W) (hsh : W.ShapedOpen Tryz.prog) : PEnv W ∧ Lib.Utf8Tabs 3 4 W := by
  refine ⟨of_laidP h hsh, ?_⟩
  have h' : laidMet Tryz.prog theLaidP W := by rw [MakeChecks.laidMetH_plain _ _ _ (by kernel_rfl)] at h; exact h
  exact tabs_of_reads (accept_eq ▸ laidMet.reads h' (.tail _ (.tail _ (.tail _ (.head _))))) (Pinned.utf8First_eq ▸ laidMet.reads h' (.tail _ (.tail _ (.tail _ (.tail _ (.tail _ (.tail _ (.tail _ (.head _)))))))))
end Go.Proofs.YtcfhblbmpbfoaaaGreatDoor
