/- The text of points: points.Text. -/
import Derived.Test.YtgjhingjheplfaaDoorPe
import Derived.Test.YtgjhingjheplfaaDoorSb
import Derived.Test.YtgjhingjheplfaaDoorEd
namespace Go.Proofs.YtgjhingjheplfaaDoor
open Go Go.RowKit Go.Kt Go.Shelf

set_option maxRecDepth 100000 in
theorem writeByte_x (b : Nat) (Y : Nat → Prop) (l : List UInt8) (c : Int) (W : World) (h : Bld b Y l W) (h0 : 0 ≤ c) (h1 : c < 256) (hlen : l.length + 1 ≤ 140737488355328) :
    Calls Tryd.prog 76 #[.pointer (some ⟨b, 0, none⟩), .int .u8 c] W fun e w' => e = .returned .nilIface ∧
      ∃ Y', Bld b Y' (l ++ [UInt8.ofNat c.toNat]) w' ∧ Keep (fun c => c = b ∨ Y c) W w' ∧ (∀ c, Y' c → Y c ∨ W.heap.size ≤ c) := by
  have hc := Lib.hid (copyCheck_x b Y l W h)
  have hcc := Lib.hid (ofNat_toNat c h0 h1)
  clear h
  go_enter Tryd.func76, Tryd.ntmps76
  go_wp2_with fail
  refine hc.out.mono ?_
  rintro e w1 ⟨rfl, v, hh, ho, hne, hy, hk, hsz⟩
  obtain ⟨a0, k0, p0, rfl⟩ : ∃ ao n' cap, v = .slice ao n' cap := by
    rcases ho.2 with ⟨hv, _⟩ | ⟨g, cap, cur, fz, hv, _⟩
    · exact ⟨_, _, _, hv⟩
    · exact ⟨_, _, _, hv⟩
  obtain ⟨g, cap, w2, hrun, ho2, hk2, hfr, hz2⟩ := append_b (P := Tryd.prog) w1 72 5 Tryd.underlying72 tinfo5 ho (.int .u8 c) rfl hlen
  have c1 : w1.cell? ⟨b, 1, none⟩ = some (.slice a0 k0 p0) := by rw [Lib.cell_of_heap hh]; rfl
  have hb2 : w2.heap[b]? = some (.cells #[.pointer (some ⟨b, 0, none⟩), .slice a0 k0 p0] 74 (0, 0)) := hk2.heap hh hne
  have c2 : w2.cell? ⟨b, 1, none⟩ = some (.slice a0 k0 p0) := by rw [Lib.cell_of_heap hb2]; rfl
  have f2 : w2.frozen? ⟨b, 1, none⟩ = false := Lib.frozen_of_heap hb2 1
  have hfacts := Lib.hid (And.intro hh (And.intro ho (And.intro hne (And.intro hy (And.intro hb2 (And.intro hsz hfr))))))
  clear hh hb2 hsz hfr hy
  have HO2 := Lib.hid ho2
  clear ho2 hne ho
  have HR := Lib.hid hrun
  clear hrun
  go_wp2_with (at_builtin; refine wpList_append_eq rfl rfl rfl rfl HR.out ?_)
  go_ret
  obtain ⟨hh, ho, hne, hy, hb2, hsz, hfr⟩ := hfacts.out
  have hk3 : Keep (fun c => c = b) w2 (w2.setCell ⟨b, 1, none⟩ (.slice (some ⟨g, 0, none⟩) (l.length + 1) cap)) := (Keep.refl (fun c => c = b) w2).setCell (p := ⟨b, 1, none⟩) rfl _
  have hbs : b < w1.heap.size := (Array.getElem?_eq_some_iff.1 hh).1
  have hgb : g ≠ b := fun e => by
    subst e
    rcases hfr with h | h
    · exact hne h
    · omega
  refine ⟨rfl, fun c => g = c, ⟨_, .slice (some ⟨g, 0, none⟩) (l.length + 1) cap, .inr rfl, ?_, ?_, fun e => hgb (by simpa [Value.ownBlock] using e), fun c hc => by simpa [Value.ownBlock] using hc⟩, ?_, ?_⟩
  · simp [World.setCell, Array.getElem?_modify, hb2]
  · have := ownsF_keep HO2.out hk3 (fun g' hg e => hgb (by
      have : g = g' := by simpa [Value.ownBlock] using hg
      rw [this, e]))
    have e1 : (l ++ [UInt8.ofNat c.toNat]).length = l.length + 1 := by simp
    rw [e1, show Lib.byteCells (l ++ [UInt8.ofNat c.toNat]) = Lib.byteCells l ++ [.int .u8 c] by simp only [Lib.byteCells, List.map_append, List.map_cons, List.map_nil, hcc.out]]
    exact this
  · exact ((hk.weaken (fun _ _ h => .inl h)).trans (hk2.weaken (fun _ _ h => .inr (hy _ h)))).trans (hk3.weaken (fun _ _ h => .inl h))
  · intro c hc
    subst hc
    rcases hfr with h | h
    · exact .inl (hy g h)
    · exact .inr (by omega)

theorem valid_char (x : Int) : Lib.validRune x = charB x := by
  rw [Bool.eq_iff_iff, charB_iff]; simp [Lib.validRune]
theorem valid_char2 (x : Int) : Utf8.valid x = charB x := by
  rw [Bool.eq_iff_iff, charB_iff]; simp [Utf8.valid]; omega
theorem bytesP_char (x : Int) (h : charB x = true) : bytesP x = (Utf8.encode x).data.toList := by
  have := (charB_iff x).1 h
  unfold bytesP
  rw [if_neg (by omega), encode_C, valid_char2, h]
  rfl

theorem ptsIll_any (x : Int) (w : World) :
    Calls Tryd.prog 75 #[.int .i32 x] w fun e w' => e = .returned (.bool (decide (1114240 ≤ x ∧ x ≤ 1114367))) ∧ w = w' := by
  by_cases h1 : 1114240 ≤ x
  · by_cases h2 : x ≤ 1114367
    · have hd : decide (1114240 ≤ x ∧ x ≤ 1114367) = true := by simp; omega
      rw [hd]; clear hd
      go_enter Tryd.func75, Tryd.ntmps75
      go_wp2
      go_ret
      exact ⟨rfl, rfl⟩
    · have hd : decide (1114240 ≤ x ∧ x ≤ 1114367) = false := by simp; omega
      rw [hd]; clear hd
      go_enter Tryd.func75, Tryd.ntmps75
      go_wp2
      go_ret
      exact ⟨rfl, rfl⟩
  · have hd : decide (1114240 ≤ x ∧ x ≤ 1114367) = false := by simp; omega
    rw [hd]; clear hd
    go_enter Tryd.func75, Tryd.ntmps75
    go_wp2
    go_ret
    exact ⟨rfl, rfl⟩

/-- What points.Text answers. -/
def PTextAns (l : List Int) (K : Nat) (w : World) (e : Ending) (w' : World) : Prop :=
  (K = l.length ∧ e = .returned (.tuple #[.string ⟨(textP l).toArray⟩, .nilIface]) ∨ K < l.length ∧ e = .returned (.tuple #[.string ⟨#[]⟩, .iface 85 (fv 8 0 K)])) ∧ Below w.heap.size w w'

set_option maxRecDepth 100000 in
set_option maxHeartbeats 1000000 in
theorem ptsText_any (v : Value) (l : List Int) (K : Nat) (w : World) (h : Slg .i32 w v l) (hw : ∀ x ∈ l, -2147483648 ≤ x ∧ x ≤ 2147483647) (hl : l.length ≤ 35184372087808) (hK : FirstBad l K) :
    Calls Tryd.prog 39 #[v] w (PTextAns l K w) := by
  obtain ⟨av, cv, rfl, h⟩ := h
  have H := Lib.hid h
  have HW := Lib.hid hw
  have HK := Lib.hid hK
  have hKl := hK.le
  clear h hw hK
  obtain ⟨W, hW⟩ : ∃ W, w.alloc (.cells #[.pointer none, .slice none 0 0] 74 (0, 0)) = W := ⟨_, rfl⟩
  have hbW : Below w.heap.size w W := by rw [← hW]; exact (Below.refl _ w).alloc (Nat.le_refl _) _
  have hgW : W.heap[w.heap.size]? = some (.cells #[.pointer none, .slice none 0 0] 74 (0, 0)) := by rw [← hW]; exact World.alloc_heap_new w _
  have hzW : W.heap.size = w.heap.size + 1 := by rw [← hW]; simp
  have CG := Lib.hid (Tryd.Builder_Grow_fresh w.heap.size w.heap.size l.length W (Nat.le_refl _) hgW (by omega) (by omega))
  have hWe := Lib.hid hW
  clear hgW hW
  go_enter Tryd.func39, Tryd.ntmps39
  go_wp2_with fail
  rw [hWe.out]
  refine CG.out.mono ?_
  rintro e w1 ⟨rfl, hB1, hb1⟩
  have hbld1 : Bld w.heap.size (fun c => w.heap.size ≤ c) [] w1 := by
    obtain ⟨_, v, hh, ho, hne⟩ := hB1
    refine ⟨_, v, .inr rfl, hh, World.ownsRowF_of ?_, hne, fun g hg => (ho.lt g hg).1⟩
    refine ⟨ho.1, ?_⟩
    rcases ho.2 with h | ⟨g, cap, cur, rfl, hb, rest⟩
    · exact .inl h
    · exact .inr ⟨g, cap, cur, rfl, Nat.zero_le _, rest⟩
  have HB := Lib.hid (And.intro hbld1 (hbW.trans hb1))
  clear hB1 hb1 hbW hbld1
  go_wp2
  go_loopw [12] (fun i wr => ∃ (k : Nat) (acc : List UInt8), k ≤ K ∧ i = .int .i64 k ∧ acc = textP (l.take k) ∧ Bld w.heap.size (fun c => w.heap.size ≤ c) acc wr ∧ Below w.heap.size w wr)
    (fun i _ => l.length - (RowKit.intOf i).toNat)
  case atStart => exact ⟨0, [], by omega, rfl, rfl, HB.out.1, HB.out.2⟩
  case round =>
    clear HB
    obtain ⟨k, acc, hk, rfl, hacc, hbld, hb⟩ := hrel
    by_cases hlt : k < l.length
    · obtain ⟨a, rfl, ha⟩ : ∃ a : Addr, av = some a ∧ ∀ i x, l[i]? = some x → w.cell? (a.add i) = some (.int .i32 x) := by
        rcases H.out with h | h
        · subst h; simp at hlt
        · exact h
      obtain ⟨x, hx⟩ : ∃ x, l[k]? = some x := ⟨l[k], List.getElem?_eq_getElem hlt⟩
      have q := ha k x hx
      have p1 := (hb.cell (lt_of_cell q)).trans q
      have hxr := HW.out x (List.mem_of_getElem? hx)
      have hsz : acc.length ≤ 4 * k := by
        rw [hacc]
        have := textP_len (l.take k)
        rw [List.length_take] at this
        omega
      have hnext : textP (l.take (k + 1)) = acc ++ bytesP x := by
        rw [List.take_add_one, hx]
        show textP (l.take k ++ [x]) = _
        rw [textP_snoc, hacc]
      have cV := Tryd.utf8_ValidRune x
      rw [valid_char] at cV
      have hbl := bytesP_len x
      by_cases hkK : k < K
      · have hxp := HK.out.good k x hkK hx
        cases hch : charB x
        · have hil : 1114240 ≤ x ∧ x ≤ 1114367 := by
            unfold pointB at hxp
            rw [hch] at hxp
            simpa using hxp
          have hil1 := hil.1
          have hil2 := hil.2
          have hd : decide (1114240 ≤ x ∧ x ≤ 1114367) = true := by simpa using hil
          have cI := ptsIll_any x
          rw [hd] at cI
          rw [hch] at cV
          have CI := Lib.hid cI
          have CV := Lib.hid cV
          have CW := Lib.hid (writeByte_x w.heap.size _ acc (x - 1114112) wr hbld (by omega) (by omega) (by omega))
          have hbp : bytesP x = [UInt8.ofNat (x - 1114112).toNat] := by unfold bytesP; rw [if_pos (by omega)]
          rw [hbp] at hnext
          have HN := Lib.hid (And.intro hnext hb)
          clear hnext hacc hbld q ha hx hxp hb cV cI hd hil hch hbp hbl
          go_wp2_with (first | (go_at_call 74; refine (CV.out _).mono ?_; rintro e w' ⟨rfl, rfl⟩) | (go_at_call 75; refine (CI.out _).mono ?_; rintro e w' ⟨rfl, rfl⟩))
          refine CW.out.mono ?_
          rintro e w2 ⟨rfl, Y2, hb2, hk2, hY2⟩
          go_wp2
          go_roundw
          case rel =>
            refine ⟨k + 1, _, by omega, by go_num, HN.out.1.symm, ?_, HN.out.2.trans (hk2.below HN.out.2.size (fun b h => by omega))⟩
            obtain ⟨p, v, hp, hh, ho, hne, hy⟩ := hb2
            exact ⟨p, v, hp, hh, ho, hne, fun g hg => by have := HN.out.2.size; have := hY2 g (hy g hg); omega⟩
          case measure => simp [RowKit.intOf]; omega
        · rw [hch] at cV
          have CV := Lib.hid cV
          have hbp := bytesP_char x hch
          have hes : (Utf8.encode x).size = (bytesP x).length := by rw [hbp, Lib.size_eq]
          have CW := Lib.hid (writeString_x w.heap.size _ acc (Utf8.encode x) wr hbld (by omega))
          rw [hbp] at hnext
          have CE := Lib.hid (fun W => utfEncode_any x W)
          have HN := Lib.hid (And.intro hnext hb)
          clear hnext hacc hbld q ha hx hxp hb cV hch hbp hbl hes
          generalize Utf8.encode x = ex at *
          go_wp2_with (first | (go_at_call 74; refine (CV.out _).mono ?_; rintro e w' ⟨rfl, rfl⟩) | (go_at_call 56; refine (CE.out _).mono ?_; rintro e w' ⟨rfl, rfl⟩))
          refine CW.out.mono ?_
          rintro e w2 ⟨rfl, Y2, hb2, hk2, hY2⟩
          go_wp2
          go_roundw
          case rel =>
            refine ⟨k + 1, _, by omega, by go_num, HN.out.1.symm, ?_, HN.out.2.trans (hk2.below HN.out.2.size (fun b h => by omega))⟩
            obtain ⟨p, v, hp, hh, ho, hne, hy⟩ := hb2
            exact ⟨p, v, hp, hh, ho, hne, fun g hg => by have := HN.out.2.size; have := hY2 g (hy g hg); omega⟩
          case measure => simp [RowKit.intOf]; omega
      · obtain rfl : k = K := by omega
        have hxp := HK.out.bad x hx
        have hch : charB x = false := by
          unfold pointB at hxp
          cases h : charB x
          · rfl
          · rw [h] at hxp; simp at hxp
        have hd : decide (1114240 ≤ x ∧ x ≤ 1114367) = false := by
          unfold pointB at hxp
          rw [hch] at hxp
          simpa using hxp
        have cI := ptsIll_any x
        rw [hd] at cI
        rw [hch] at cV
        have CI := Lib.hid cI
        have CV := Lib.hid cV
        have HO : Hid (PTextAns l k w (.returned (.tuple #[.string ⟨#[]⟩, .iface 85 (fv 8 0 k)])) wr) := Lib.hid ⟨.inr ⟨hlt, rfl⟩, hb⟩
        clear hnext hacc hbld q ha hx hxp hb cV cI hd hch hbl hkK
        go_wp2_with (first | (go_at_call 74; refine (CV.out _).mono ?_; rintro e w' ⟨rfl, rfl⟩) | (go_at_call 75; refine (CI.out _).mono ?_; rintro e w' ⟨rfl, rfl⟩))
        go_ret2
        exact HO.out
    · have hke : k = l.length := by omega
      have hKe : K = l.length := by omega
      rw [hke, List.take_length] at hacc
      have CS := Lib.hid (string_x w.heap.size _ acc wr hbld w.heap.size hb.size (Nat.le_refl _) (fun g h => h))
      rw [hacc] at CS
      have HO : Hid (∀ w', Below w.heap.size wr w' → PTextAns l K w (.returned (.tuple #[.string ⟨(textP l).toArray⟩, .nilIface])) w') := Lib.hid fun w' h => ⟨.inl ⟨hKe, rfl⟩, hb.trans h⟩
      clear hke hKe hacc hbld hk hb
      go_wp2_with fail
      refine CS.out.mono ?_
      rintro e w2 ⟨rfl, hb2, _⟩
      go_wp2
      go_ret2
      exact HO.out _ hb2
end Go.Proofs.YtgjhingjheplfaaDoor
