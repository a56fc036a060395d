/- ScanKnown's edged: every byte in seventeen texts, then a list of texts (written by gen_ge.py). -/
import Derived.Test.YtbnnhbmnddaafaaGreatDoorGa
import Derived.Test.YtbnnhbmnddaafaaGreatDoorGf
import Derived.Test.YtbnnhbmnddaafaaGreatDoorTr
import Derived.Test.YtbnnhbmnddaafaaGreatDoorSr
import Derived.Test.YtbnnhbmnddaafaaGreatDoorSa
import Derived.Test.YtbnnhbmnddaafaaGreatDoorSi
import Derived.Test.YtbnnhbmnddaafaaGreatDoorSp
import Derived.Test.YtbnnhbmnddaafaaGreatDoorK9
namespace Go.Proofs.YtbnnhbmnddaafaaGreatDoor
open Go Go.RowKit Go.Kt Go.Shelf Go.Lib
attribute [local go_sem] Oper.semAt_some

def S34 : List ByteArray := [⟨#[92, 117, 123, 49, 48, 102, 102, 102, 102, 125]⟩, ⟨#[92, 117, 123, 49, 49, 48, 48, 48, 48, 125]⟩, ⟨#[92, 117, 123, 100, 102, 102, 102, 125]⟩, ⟨#[92, 117, 123, 101, 48, 48, 48, 125]⟩, ⟨#[92, 117, 123, 100, 55, 102, 102, 125]⟩, ⟨#[92, 117, 123, 48, 48, 48, 48, 48, 52, 49, 125]⟩, ⟨#[92, 117, 123, 48, 48, 48, 48, 52, 49, 125]⟩, ⟨#[92, 117, 123, 49]⟩, ⟨#[92, 117, 123]⟩, ⟨#[92, 117]⟩, ⟨#[92, 120]⟩, ⟨#[92, 120, 56]⟩, ⟨#[92, 195, 169]⟩, ⟨#[92, 195]⟩, ⟨#[195, 92, 120, 97, 57]⟩, ⟨#[92, 120, 99, 51, 92, 120, 97, 57]⟩, ⟨#[39, 39, 39, 39]⟩, ⟨#[39, 39, 39]⟩, ⟨#[39, 97, 39, 39]⟩, ⟨#[91, 91, 97, 93, 93]⟩, ⟨#[91, 35, 10, 93]⟩, ⟨#[91, 13, 10, 9, 32, 97, 32, 9, 32, 98, 93]⟩, ⟨#[91, 93]⟩, ⟨#[97, 39, 98, 39, 99, 92, 100]⟩, ⟨#[45, 42]⟩, ⟨#[47, 42]⟩, ⟨#[38, 42]⟩, ⟨#[61, 42, 42]⟩, ⟨#[60, 60, 60, 60, 42]⟩, ⟨#[35, 97, 13, 98, 10, 99]⟩, ⟨#[35, 13, 42]⟩, ⟨#[239, 191, 189]⟩, ⟨#[239, 191, 189, 255, 239, 191, 189]⟩, ⟨#[226, 128, 141, 244, 143, 191, 191]⟩]
theorem S34_bd : ∀ s ∈ S34, s.size ≤ 100 := by decide
def L17 (b : ByteArray) : List ByteArray := [b, ⟨#[97]⟩ ++ b ++ ⟨#[98]⟩, ⟨#[92]⟩ ++ b, ⟨#[39]⟩ ++ b ++ ⟨#[39]⟩, ⟨#[39]⟩ ++ b, ⟨#[91]⟩ ++ b ++ ⟨#[32]⟩ ++ b ++ ⟨#[93]⟩, ⟨#[60]⟩ ++ b, ⟨#[60, 60]⟩ ++ b, ⟨#[60, 60, 60]⟩ ++ b, ⟨#[61]⟩ ++ b, ⟨#[35]⟩ ++ b ++ ⟨#[10, 97]⟩, ⟨#[92, 117, 123, 52]⟩ ++ b ++ ⟨#[125]⟩, ⟨#[92, 120, 56]⟩ ++ b, ⟨#[92, 120]⟩ ++ b ++ ⟨#[102]⟩, ⟨#[92, 117]⟩ ++ b ++ ⟨#[52, 49, 125]⟩, ⟨#[195, 169, 10]⟩ ++ b ++ ⟨#[10, 93]⟩, ⟨#[39, 39]⟩ ++ b ++ ⟨#[39, 39]⟩]
theorem L17_bd (b : ByteArray) (hb : b.size = 1) : ∀ s ∈ L17 b, s.size ≤ 100 := by
  intro s hs
  simp only [L17, List.mem_cons, List.not_mem_nil, or_false] at hs
  rcases hs with rfl | rfl | rfl | rfl | rfl | rfl | rfl | rfl | rfl | rfl | rfl | rfl | rfl | rfl | rfl | rfl | rfl <;> simp only [ByteArray.size_append, hb] <;> decide
theorem kcat (X : World) (x y : Operand) (a b : ByteArray) (h : a.size + b.size ≤ 1000) : (do eqGuard .add 9 x y (.string a) (.string b); binOp .add 9 (.string a) (.string b) : Sem Value).run Tryz.prog X = .ok (.string (a ++ b)) X := by
  have h2 : ¬ a.size + b.size > 9223372036854775807 := by omega
  go_simp
theorem newT1 {c : UInt8} {w : World} : OwnB (fun b => w.heap.size ≤ b) (.slice (some ⟨w.heap.size, 0, none⟩) 1 1) [c] (w.alloc (.cells #[.int .u8 (c.toNat : Int)] 5)) := by
  refine ⟨⟨by simp [Lib.byteCells], .inr ⟨w.heap.size, 1, #[.int .u8 (c.toNat : Int)], (0, 0), rfl, Nat.zero_le _, World.alloc_heap_new w _, Nat.zero_le _, Nat.le_refl _, by unfold maxLen; omega, by simp, by simp [Lib.byteCells]⟩⟩, fun g hg => ?_⟩
  have : w.heap.size = g := by simpa [Value.ownBlock] using hg
  omega
def pE15 (j g : Nat) (s s0 : ByteArray) (jx : Nat) (v : Value) (_W : World) : Prop := match jx with
  | 0 => v = .slice (some ⟨g, 0, none⟩) 34 34
  | 1 => v = .int .i64 (j : Nat)
  | 2 => v = .pointer (some ⟨g, j, none⟩)
  | 3 => v = .string s
  | 4 => v = .slice (some ⟨g, 0, none⟩) 34 34
  | 5 => v = .pointer (some ⟨g, 0, none⟩)
  | 6 => v = .string s0
  | 7 => v = .bool true
  | 8 => v = .bool false
  | 9 => v = .bool false
  | 10 => v = .slice (some ⟨g, 0, none⟩) 34 34
  | 11 => v = .int .i64 (j : Nat)
  | 12 => v = .pointer (some ⟨g, j, none⟩)
  | 13 => v = .string s
  | 14 => v = .bool true
  | 15 => v = .bool false
  | 16 => v = .bool false
  | 17 => v = .bool false
  | 18 => v = .slice (some ⟨g, 0, none⟩) 34 34
  | 19 => v = .int .i64 (j : Nat)
  | 20 => v = .pointer (some ⟨g, j, none⟩)
  | 21 => v = .string s
  | 22 => v = .bool true
  | 23 => v = .bool false
  | 24 => v = .bool false
  | 25 => v = .bool false
  | 26 => v = .slice (some ⟨g, 0, none⟩) 34 34
  | 27 => v = .int .i64 (j : Nat)
  | 28 => v = .pointer (some ⟨g, j, none⟩)
  | 29 => v = .string s
  | 30 => v = .string (⟨#[195, 169, 10]⟩ ++ s)
  | 31 => v = .string (⟨#[195, 169, 10]⟩ ++ s ++ ⟨#[32, 120]⟩)
  | 32 => v = .bool true
  | 33 => v = .bool false
  | 34 => v = .bool false
  | 35 => v = .bool false
  | 36 => v = .slice (some ⟨g, 0, none⟩) 34 34
  | 37 => v = .int .i64 (j : Nat)
  | 38 => v = .pointer (some ⟨g, j, none⟩)
  | 39 => v = .string s
  | 40 => v = .bool true
  | 41 => v = .bool false
  | 42 => v = .bool false
  | 43 => v = .bool false
  | 44 => v = .slice (some ⟨g, 0, none⟩) 34 34
  | 45 => v = .int .i64 (j : Nat)
  | 46 => v = .pointer (some ⟨g, j, none⟩)
  | 47 => v = .string s
  | 48 => v = .bool true
  | 49 => v = .bool false
  | 50 => v = .bool false
  | _ => True
set_option maxRecDepth 100000 in
set_option maxHeartbeats 8000000 in
theorem kedged_any (w : World) (hE : KEnv w) : Calls Tryz.prog 6 #[] w fun e w' => e = .returned (.bool true) ∧ Below w.heap.size w w' := by
  have HE := Lib.hid (fun X (hX : Below w.heap.size w X) => hE.below hX)
  have CS := Lib.hid (fun X s t (hX : Below w.heap.size w X) (hs : s.size ≤ 1000) (ht : t.size ≤ 1000) => scanScan_c s t X (hE.below hX).1 (hE.below hX).2.1 (hE.below hX).2.2 (by omega) (by omega))
  have CQ := Lib.hid (fun X s (hX : Below w.heap.size w X) (hs : s.size ≤ 1000) => scanQuote_c s X (hE.below hX).1 (hE.below hX).2.1 (hE.below hX).2.2 (by omega))
  have CB := Lib.hid (fun X s (hX : Below w.heap.size w X) (hs : s.size ≤ 1000) => scanBack_c s X (hE.below hX).1 (hE.below hX).2.1 (hE.below hX).2.2 (by omega))
  have CN := Lib.hid (fun X s (hX : Below w.heap.size w X) (hs : s.size ≤ 1000) => scanNoted_c s 0 X (hE.below hX).1 (hE.below hX).2.1 (hE.below hX).2.2 (by omega) (by decide))
  have CP := Lib.hid (fun X s (hX : Below w.heap.size w X) (hs : s.size ≤ 1000) => scanPlaces_c s X (hE.below hX).1 (hE.below hX).2.1 (hE.below hX).2.2 (by omega))
  clear hE
  go_enter Tryz.func6, Tryz.ntmps6
  go_wp2_with fail
  go_loopw [1] (fun iv X => ∃ c : Nat, c ≤ 256 ∧ iv = .int .i64 c ∧ Below w.heap.size w X) (fun iv _ => 256 - (RowKit.intOf iv).toNat)
  case atStart => exact ⟨0, by omega, rfl, Below.refl _ _⟩
  case round =>
    obtain ⟨c, hc, rfl, hb⟩ := hrel
    have HB := Lib.hid hb
    clear hb
    by_cases hlt : c < 256
    · have hlt' : (c : Int) < 256 := by omega
      have hcv : IntKind.u8.wrap (c : Int) = ((UInt8.ofNat c).toNat : Int) := by
        rw [show (UInt8.ofNat c).toNat = c by simp [UInt8.toNat_ofNat']; omega]
        exact IntWalk.u8_in _ (by omega)
      obtain ⟨d, hd⟩ : ∃ d, UInt8.ofNat c = d := ⟨_, rfl⟩
      rw [hd] at hcv
      have ht := (newT1 (c := d) (w := wr)).text
      have hbl : Below wr.heap.size wr (wr.alloc (.cells #[.int .u8 (d.toNat : Int)] 5)) := (Below.refl _ _).alloc (Nat.le_refl _) _
      obtain ⟨b, hb1⟩ : ∃ b : ByteArray, (⟨[d].toArray⟩ : ByteArray) = b := ⟨_, rfl⟩
      have zb : b.size = 1 := by rw [← hb1]; rfl
      rw [hb1] at ht
      obtain ⟨V0, hV0⟩ : ∃ W, wr.alloc (.cells #[.int .u8 (d.toNat : Int)] 5) = W := ⟨_, rfl⟩
      rw [hV0] at ht hbl
      have HV0 := Lib.hid (And.intro hV0 (HB.out.trans (hbl.mono HB.out.size)))
      obtain ⟨V1, hV1⟩ : ∃ W, V0.alloc (.cells #[.string (b), .string (⟨#[97]⟩ ++ b ++ ⟨#[98]⟩), .string (⟨#[92]⟩ ++ b), .string (⟨#[39]⟩ ++ b ++ ⟨#[39]⟩), .string (⟨#[39]⟩ ++ b), .string (⟨#[91]⟩ ++ b ++ ⟨#[32]⟩ ++ b ++ ⟨#[93]⟩), .string (⟨#[60]⟩ ++ b), .string (⟨#[60, 60]⟩ ++ b), .string (⟨#[60, 60, 60]⟩ ++ b), .string (⟨#[61]⟩ ++ b), .string (⟨#[35]⟩ ++ b ++ ⟨#[10, 97]⟩), .string (⟨#[92, 117, 123, 52]⟩ ++ b ++ ⟨#[125]⟩), .string (⟨#[92, 120, 56]⟩ ++ b), .string (⟨#[92, 120]⟩ ++ b ++ ⟨#[102]⟩), .string (⟨#[92, 117]⟩ ++ b ++ ⟨#[52, 49, 125]⟩), .string (⟨#[195, 169, 10]⟩ ++ b ++ ⟨#[10, 93]⟩), .string (⟨#[39, 39]⟩ ++ b ++ ⟨#[39, 39]⟩)] 9) = W := ⟨_, rfl⟩
      have hb2 : Below V0.heap.size V0 V1 := by rw [← hV1]; exact (Below.refl _ _).alloc (Nat.le_refl _) _
      have hg1 : V1.heap[V0.heap.size]? = some (.cells ((L17 b).map Value.string).toArray 9 (0, 0)) := by rw [← hV1]; exact alloc_at rfl
      have hz1 : V0.heap.size < V1.heap.size := by rw [← hV1]; simp
      have HV1 := Lib.hid (HV0.out.2.trans (hb2.mono HV0.out.2.size))
      obtain ⟨g, hg⟩ : ∃ n, V0.heap.size = n := ⟨_, rfl⟩
      rw [hg] at hg1 hz1
      have HC : Hid (∀ X, Below V1.heap.size V1 X → ∀ (j : Nat) s, (L17 b)[j]? = some s → X.cell? ⟨g, j, none⟩ = some (.string s)) := Lib.hid fun X hX j x hx => by
        rw [Lib.cell_of_heap ((hX.block _ hz1).trans hg1)]
        simp [hx]
      have HL := Lib.hid (L17_bd b zb)
      have HZ := Lib.hid zb
      have HA := Lib.hid (And.intro hV1 hg)
      have HX1 : Hid (∀ X, Below V1.heap.size V1 X → Below w.heap.size w X) := Lib.hid fun X hX => HV1.out.trans (hX.mono HV1.out.size)
      have hcat : ∀ (a e : ByteArray), a.size + e.size ≤ 1000 → ¬ a.size + e.size > 9223372036854775807 := by omega
      clear hb1 hbl hV0 hV1 hb2 hg1 hz1 hg hd
      go_wp2_with (first | simp only [hcv] | (rw [HV0.out.1]; simp only [ht]))
      try rw [HV0.out.1]
      rw [HA.out.1]
      try rw [HA.out.2]
      obtain ⟨Wo, hWo⟩ : ∃ Wo, Wo = wr := ⟨_, rfl⟩
      subst hWo
      go_loopw [4] (fun iv X => ∃ j : Nat, j ≤ 17 ∧ iv = .int .i64 j ∧ Below V1.heap.size V1 X) (fun iv _ => 17 - (RowKit.intOf iv).toNat)
      case atStart => exact ⟨0, by omega, rfl, Below.refl _ _⟩
      case round =>
        obtain ⟨j, hj, rfl, hb⟩ := hrel
        have HY0 := Lib.hid hb
        clear hb
        by_cases hjt : j < 17
        · have hjt' : (j : Int) < 17 := by omega
          obtain ⟨s, hs⟩ : ∃ s, (L17 b)[j]? = some s := ⟨_, List.getElem?_eq_getElem (by simpa [L17] using hjt)⟩
          have hsz := HL.out s (List.mem_of_getElem? hs)
          have HS := Lib.hid hs
          have HSZ := Lib.hid (show s.size ≤ 1000 by omega)
          have q := HC.out wr HY0.out j s hs
          have C1 := Lib.hid (CS.out wr s ⟨#[38, 32, 97]⟩ (HX1.out _ HY0.out) HSZ.out (by decide))
          clear hs hsz
          go_wp2_with fail
          refine C1.out.mono ?_
          rintro e y1 ⟨rfl, hb1⟩
          have HY1 := Lib.hid (HY0.out.trans (hb1.mono HY0.out.size))
          have q1 := HC.out y1 HY1.out j s HS.out
          have C2 := Lib.hid (CQ.out y1 s (HX1.out _ HY1.out) HSZ.out)
          clear hb1 C1 q
          go_wp2_with fail
          refine C2.out.mono ?_
          rintro e y2 ⟨rfl, hb1⟩
          have HY2 := Lib.hid (HY1.out.trans (hb1.mono HY1.out.size))
          have q := HC.out y2 HY2.out j s HS.out
          have C3 := Lib.hid (CB.out y2 s (HX1.out _ HY2.out) HSZ.out)
          clear hb1 C2 q1
          go_wp2_with fail
          refine C3.out.mono ?_
          rintro e y3 ⟨rfl, hb1⟩
          have HY3 := Lib.hid (HY2.out.trans (hb1.mono HY2.out.size))
          clear hb1 C3 q
          go_wp2_with fail
          go_roundw
          case rel => exact ⟨j + 1, by omega, by go_num, HY3.out⟩
          case measure => simp [RowKit.intOf]; omega
        · obtain rfl : j = 17 := by omega
          go_wp2_with fail
          go_roundw
          case rel => exact ⟨c + 1, by omega, by go_num, HX1.out _ HY0.out⟩
          case measure => simp [RowKit.intOf]; omega
    · obtain rfl : c = 256 := by omega
      obtain ⟨V1, hV1⟩ : ∃ W, wr.alloc (.cells #[.string ⟨#[92, 117, 123, 49, 48, 102, 102, 102, 102, 125]⟩, .string ⟨#[92, 117, 123, 49, 49, 48, 48, 48, 48, 125]⟩, .string ⟨#[92, 117, 123, 100, 102, 102, 102, 125]⟩, .string ⟨#[92, 117, 123, 101, 48, 48, 48, 125]⟩, .string ⟨#[92, 117, 123, 100, 55, 102, 102, 125]⟩, .string ⟨#[92, 117, 123, 48, 48, 48, 48, 48, 52, 49, 125]⟩, .string ⟨#[92, 117, 123, 48, 48, 48, 48, 52, 49, 125]⟩, .string ⟨#[92, 117, 123, 49]⟩, .string ⟨#[92, 117, 123]⟩, .string ⟨#[92, 117]⟩, .string ⟨#[92, 120]⟩, .string ⟨#[92, 120, 56]⟩, .string ⟨#[92, 195, 169]⟩, .string ⟨#[92, 195]⟩, .string ⟨#[195, 92, 120, 97, 57]⟩, .string ⟨#[92, 120, 99, 51, 92, 120, 97, 57]⟩, .string ⟨#[39, 39, 39, 39]⟩, .string ⟨#[39, 39, 39]⟩, .string ⟨#[39, 97, 39, 39]⟩, .string ⟨#[91, 91, 97, 93, 93]⟩, .string ⟨#[91, 35, 10, 93]⟩, .string ⟨#[91, 13, 10, 9, 32, 97, 32, 9, 32, 98, 93]⟩, .string ⟨#[91, 93]⟩, .string ⟨#[97, 39, 98, 39, 99, 92, 100]⟩, .string ⟨#[45, 42]⟩, .string ⟨#[47, 42]⟩, .string ⟨#[38, 42]⟩, .string ⟨#[61, 42, 42]⟩, .string ⟨#[60, 60, 60, 60, 42]⟩, .string ⟨#[35, 97, 13, 98, 10, 99]⟩, .string ⟨#[35, 13, 42]⟩, .string ⟨#[239, 191, 189]⟩, .string ⟨#[239, 191, 189, 255, 239, 191, 189]⟩, .string ⟨#[226, 128, 141, 244, 143, 191, 191]⟩] 9) = W := ⟨_, rfl⟩
      have hb2 : Below wr.heap.size wr V1 := by rw [← hV1]; exact (Below.refl _ _).alloc (Nat.le_refl _) _
      have hg1 : V1.heap[wr.heap.size]? = some (.cells (S34.map Value.string).toArray 9 (0, 0)) := by rw [← hV1]; exact alloc_at rfl
      have hz1 : wr.heap.size < V1.heap.size := by rw [← hV1]; simp
      have HV1 := Lib.hid (HB.out.trans (hb2.mono HB.out.size))
      obtain ⟨g, hg⟩ : ∃ n, wr.heap.size = n := ⟨_, rfl⟩
      rw [hg] at hg1 hz1
      have HC : Hid (∀ X, Below V1.heap.size V1 X → ∀ (j : Nat) s, S34[j]? = some s → X.cell? ⟨g, j, none⟩ = some (.string s)) := Lib.hid fun X hX j x hx => by
        rw [Lib.cell_of_heap ((hX.block _ hz1).trans hg1)]
        simp [hx]
      have HA := Lib.hid (And.intro hV1 hg)
      have HX1 : Hid (∀ X, Below V1.heap.size V1 X → Below w.heap.size w X) := Lib.hid fun X hX => HV1.out.trans (hX.mono HV1.out.size)
      clear hV1 hb2 hg1 hz1 hg hlt
      go_wp2_with fail
      rw [HA.out.1]
      try rw [HA.out.2]
      obtain ⟨Wo, hWo⟩ : ∃ Wo, Wo = wr := ⟨_, rfl⟩
      subst hWo
      go_loopw [6] (fun iv X => ∃ j : Nat, j ≤ 34 ∧ iv = .int .i64 j ∧ Below V1.heap.size V1 X) (fun iv _ => 34 - (RowKit.intOf iv).toNat)
      case atStart => exact ⟨0, by omega, rfl, Below.refl _ _⟩
      case round =>
        obtain ⟨j, hj, rfl, hb⟩ := hrel
        have HY0 := Lib.hid hb
        clear hb
        by_cases hjt : j < 34
        · have hjt' : (j : Int) < 34 := by omega
          obtain ⟨s, hs⟩ : ∃ s, S34[j]? = some s := ⟨_, List.getElem?_eq_getElem hjt⟩
          obtain ⟨s0, hs0⟩ : ∃ s, S34[0]? = some s := ⟨_, rfl⟩
          have hsz := S34_bd s (List.mem_of_getElem? hs)
          have hsz0 := S34_bd s0 (List.mem_of_getElem? hs0)
          have hix : ∀ X : World, (Instr.indexAt 32 (.slice (some ⟨g, 0, none⟩) 34 34) (.int .i64 (j : Nat))).run Tryz.prog X = .ok (.pointer (some ⟨g, j, none⟩)) X := fun X => by go_simp
          have hix0 : ∀ X : World, (Instr.indexAt 32 (.slice (some ⟨g, 0, none⟩) 34 34) (.int .i64 0)).run Tryz.prog X = .ok (.pointer (some ⟨g, 0, none⟩)) X := fun X => by go_simp
          have SNX : Hid (∀ X Y, Below wr.heap.size wr X → Below X.heap.size X Y → Below wr.heap.size wr Y) := Lib.hid fun X Y h k => h.trans (k.mono h.size)
          have HWR : Hid (∀ X, Below wr.heap.size wr X → Below V1.heap.size V1 X) := Lib.hid fun X hX => HY0.out.trans (hX.mono HY0.out.size)
          have hl : ∀ X, Below wr.heap.size wr X → (Instr.loadAt 9 (.pointer (some ⟨g, j, none⟩))).run Tryz.prog X = .ok (.string s) X := fun X hX => by
            have q := HC.out X (HWR.out X hX) j s hs
            go_simp
          have hl0 : ∀ X, Below wr.heap.size wr X → (Instr.loadAt 9 (.pointer (some ⟨g, 0, none⟩))).run Tryz.prog X = .ok (.string s0) X := fun X hX => by
            have q := HC.out X (HWR.out X hX) 0 s0 hs0
            go_simp
          have hz3 : ((⟨#[195, 169, 10]⟩ : ByteArray) ++ s).size ≤ 200 := by rw [ByteArray.size_append]; have : (⟨#[195, 169, 10]⟩ : ByteArray).size = 3 := rfl; omega
          have hp1 := fun X x y => kcat X x y ⟨#[195, 169, 10]⟩ s (by have : (⟨#[195, 169, 10]⟩ : ByteArray).size = 3 := rfl; omega)
          have hp2 := fun X x y => kcat X x y (⟨#[195, 169, 10]⟩ ++ s) ⟨#[32, 120]⟩ (by have : (⟨#[32, 120]⟩ : ByteArray).size = 2 := rfl; omega)
          have hz5 : ((⟨#[195, 169, 10]⟩ : ByteArray) ++ s ++ ⟨#[32, 120]⟩).size ≤ 1000 := by rw [ByteArray.size_append]; have : (⟨#[32, 120]⟩ : ByteArray).size = 2 := rfl; omega
          have C1 := Lib.hid (fun X (hX : Below wr.heap.size wr X) => CS.out X s s0 (HX1.out _ (HWR.out X hX)) (by omega) (by omega))
          have C2 := Lib.hid (fun X (hX : Below wr.heap.size wr X) => CQ.out X s (HX1.out _ (HWR.out X hX)) (by omega))
          have C3 := Lib.hid (fun X (hX : Below wr.heap.size wr X) => CB.out X s (HX1.out _ (HWR.out X hX)) (by omega))
          have C4 := Lib.hid (fun X (hX : Below wr.heap.size wr X) => CS.out X (⟨#[195, 169, 10]⟩ ++ s ++ ⟨#[32, 120]⟩) ⟨#[]⟩ (HX1.out _ (HWR.out X hX)) hz5 (by decide))
          have C5 := Lib.hid (fun X (hX : Below wr.heap.size wr X) => CN.out X s (HX1.out _ (HWR.out X hX)) (by omega))
          have C6 := Lib.hid (fun X (hX : Below wr.heap.size wr X) => CP.out X s (HX1.out _ (HWR.out X hX)) (by omega))
          have S15 : Below wr.heap.size wr wr.drew := below_drewN (Below.refl _ _) 1
          clear hs hs0 hsz hsz0 hz3 hz5
          go_wp2_with fail
          refine wp_region_guarded (fun X => Below wr.heap.size wr X) (fun U W => Below U.heap.size U W) (pE15 j g s s0) (by kernel_rfl) (by kernel_rfl) (by kernel_rfl) S15 ?hp ?hs ?hd
          case hp =>
            intro i v U V _ _ hk hv
            unfold pE15 at hv ⊢
            split at hv <;> exact hv
          case hs =>
            refine GSteps.cons ?_ (GSteps.cons ?_ (GSteps.cons ?_ (GSteps.cons ?_ (GSteps.cons ?_ (GSteps.cons ?_ (GSteps.cons ?_ (GSteps.cons ?_ (GSteps.cons ?_ (GSteps.cons ?_ (GSteps.cons ?_ (GSteps.cons ?_ (GSteps.cons ?_ (GSteps.cons ?_ (GSteps.cons ?_ (GSteps.cons ?_ (GSteps.cons ?_ (GSteps.cons ?_ (GSteps.cons ?_ (GSteps.cons ?_ (GSteps.cons ?_ (GSteps.cons ?_ (GSteps.cons ?_ (GSteps.cons ?_ (GSteps.cons ?_ (GSteps.cons ?_ (GSteps.cons ?_ (GSteps.cons ?_ (GSteps.cons ?_ (GSteps.cons ?_ (GSteps.cons ?_ (GSteps.cons ?_ (GSteps.cons ?_ (GSteps.cons ?_ (GSteps.cons ?_ (GSteps.cons ?_ (GSteps.cons ?_ (GSteps.cons ?_ (GSteps.cons ?_ (GSteps.cons ?_ (GSteps.cons ?_ (GSteps.cons ?_ (GSteps.cons ?_ (GSteps.cons ?_ (GSteps.cons ?_ (GSteps.cons ?_ (GSteps.cons ?_ (GSteps.cons ?_ (GSteps.cons ?_ (GSteps.cons ?_ (GSteps.cons ?_ (GSteps.nil)))))))))))))))))))))))))))))))))))))))))))))))))))
            · intro a X hX hL hd
              refine .inl ⟨rfl, ?_⟩
              have e0 : a.eval (.tmp 5) = .slice (some ⟨g, 0, none⟩) 34 34 := hL.far 5 (by kernel_rfl)
              exact wp_value (exec_move rfl e0) ⟨_, rfl, hX, Below.refl _ _, rfl⟩
            · intro a X hX hL hd
              refine .inl ⟨rfl, ?_⟩
              have e0 : a.eval (.tmp 6) = .int .i64 (j : Nat) := hL.far 6 (by kernel_rfl)
              exact wp_value (exec_move rfl e0) ⟨_, rfl, hX, Below.refl _ _, rfl⟩
            · intro a X hX hL hd
              refine .inl ⟨rfl, ?_⟩
              have e0 : a.eval (.tmp 96) = .slice (some ⟨g, 0, none⟩) 34 34 := hd 0 96 (by kernel_rfl) (by kernel_rfl)
              have e1 : a.eval (.tmp 97) = .int .i64 (j : Nat) := hd 1 97 (by kernel_rfl) (by kernel_rfl)
              exact wp_value (exec_indexAddr rfl e0 e1 (hix X)) ⟨_, rfl, hX, Below.refl _ _, rfl⟩
            · intro a X hX hL hd
              refine .inl ⟨rfl, ?_⟩
              have e0 : a.eval (.tmp 98) = .pointer (some ⟨g, j, none⟩) := hd 2 98 (by kernel_rfl) (by kernel_rfl)
              exact wp_value (exec_load rfl e0 (hl X hX)) ⟨_, rfl, hX, Below.refl _ _, rfl⟩
            · intro a X hX hL hd
              refine .inl ⟨rfl, ?_⟩
              have e0 : a.eval (.tmp 5) = .slice (some ⟨g, 0, none⟩) 34 34 := hL.far 5 (by kernel_rfl)
              exact wp_value (exec_move rfl e0) ⟨_, rfl, hX, Below.refl _ _, rfl⟩
            · intro a X hX hL hd
              refine .inl ⟨rfl, ?_⟩
              have e0 : a.eval (.tmp 100) = .slice (some ⟨g, 0, none⟩) 34 34 := hd 4 100 (by kernel_rfl) (by kernel_rfl)
              exact wp_value (exec_indexAddr rfl e0 rfl (hix0 X)) ⟨_, rfl, hX, Below.refl _ _, rfl⟩
            · intro a X hX hL hd
              refine .inl ⟨rfl, ?_⟩
              have e0 : a.eval (.tmp 101) = .pointer (some ⟨g, 0, none⟩) := hd 5 101 (by kernel_rfl) (by kernel_rfl)
              exact wp_value (exec_load rfl e0 (hl0 X hX)) ⟨_, rfl, hX, Below.refl _ _, rfl⟩
            · intro a X hX hL hd
              refine .inl ⟨rfl, ?_⟩
              have e0 : a.eval (.tmp 99) = .string s := hd 3 99 (by kernel_rfl) (by kernel_rfl)
              have e1 : a.eval (.tmp 102) = .string s0 := hd 6 102 (by kernel_rfl) (by kernel_rfl)
              refine wp_enter (exec_call (vs := #[.string s, .string s0]) rfl (by simp only [List.map_toArray, List.map_cons, List.map_nil, e0, e1]) Tryz.func11 rfl rfl) ?_
              refine (C1.out X hX).mono ?_
              rintro e w' ⟨rfl, hb⟩
              exact ⟨_, rfl, _, rfl, SNX.out _ _ hX hb, hb, rfl⟩
            · intro a X hX hL hd
              refine .inl ⟨rfl, ?_⟩
              have e0 : a.eval (.tmp 103) = .bool true := hd 7 103 (by kernel_rfl) (by kernel_rfl)
              exact wp_value (exec_unop rfl e0 rfl) ⟨_, rfl, hX, Below.refl _ _, rfl⟩
            · intro a X hX hL hd
              refine .inl ⟨rfl, ?_⟩
              have e0 : a.eval (.tmp 104) = .bool false := hd 8 104 (by kernel_rfl) (by kernel_rfl)
              exact wp_value (exec_move rfl e0) ⟨_, rfl, hX, Below.refl _ _, rfl⟩
            · intro a X hX hL hd
              refine .inl ⟨wanted_true 105 rfl (by kernel_rfl) (hd 9 105 (by kernel_rfl) (by kernel_rfl)), ?_⟩
              have e0 : a.eval (.tmp 5) = .slice (some ⟨g, 0, none⟩) 34 34 := hL.far 5 (by kernel_rfl)
              exact wp_value (exec_move rfl e0) ⟨_, rfl, hX, Below.refl _ _, rfl⟩
            · intro a X hX hL hd
              refine .inl ⟨wanted_true 105 rfl (by kernel_rfl) (hd 9 105 (by kernel_rfl) (by kernel_rfl)), ?_⟩
              have e0 : a.eval (.tmp 6) = .int .i64 (j : Nat) := hL.far 6 (by kernel_rfl)
              exact wp_value (exec_move rfl e0) ⟨_, rfl, hX, Below.refl _ _, rfl⟩
            · intro a X hX hL hd
              refine .inl ⟨wanted_true 105 rfl (by kernel_rfl) (hd 9 105 (by kernel_rfl) (by kernel_rfl)), ?_⟩
              have e0 : a.eval (.tmp 106) = .slice (some ⟨g, 0, none⟩) 34 34 := hd 10 106 (by kernel_rfl) (by kernel_rfl)
              have e1 : a.eval (.tmp 107) = .int .i64 (j : Nat) := hd 11 107 (by kernel_rfl) (by kernel_rfl)
              exact wp_value (exec_indexAddr rfl e0 e1 (hix X)) ⟨_, rfl, hX, Below.refl _ _, rfl⟩
            · intro a X hX hL hd
              refine .inl ⟨wanted_true 105 rfl (by kernel_rfl) (hd 9 105 (by kernel_rfl) (by kernel_rfl)), ?_⟩
              have e0 : a.eval (.tmp 108) = .pointer (some ⟨g, j, none⟩) := hd 12 108 (by kernel_rfl) (by kernel_rfl)
              exact wp_value (exec_load rfl e0 (hl X hX)) ⟨_, rfl, hX, Below.refl _ _, rfl⟩
            · intro a X hX hL hd
              refine .inl ⟨wanted_true 105 rfl (by kernel_rfl) (hd 9 105 (by kernel_rfl) (by kernel_rfl)), ?_⟩
              have e0 : a.eval (.tmp 109) = .string s := hd 13 109 (by kernel_rfl) (by kernel_rfl)
              refine wp_enter (exec_call (vs := #[.string s]) rfl (by simp only [List.map_toArray, List.map_cons, List.map_nil, e0]) Tryz.func12 rfl rfl) ?_
              refine (C2.out X hX).mono ?_
              rintro e w' ⟨rfl, hb⟩
              exact ⟨_, rfl, _, rfl, SNX.out _ _ hX hb, hb, rfl⟩
            · intro a X hX hL hd
              refine .inl ⟨wanted_true 105 rfl (by kernel_rfl) (hd 9 105 (by kernel_rfl) (by kernel_rfl)), ?_⟩
              have e0 : a.eval (.tmp 110) = .bool true := hd 14 110 (by kernel_rfl) (by kernel_rfl)
              exact wp_value (exec_unop rfl e0 rfl) ⟨_, rfl, hX, Below.refl _ _, rfl⟩
            · intro a X hX hL hd
              refine .inl ⟨rfl, ?_⟩
              have e0 : a.eval (.tmp 105) = .bool false := hd 9 105 (by kernel_rfl) (by kernel_rfl)
              have e1 : a.eval (.tmp 111) = .bool false := hd 15 111 (by kernel_rfl) (by kernel_rfl)
              exact wp_value (exec_pick rfl e0 rfl e1) ⟨_, rfl, hX, Below.refl _ _, rfl⟩
            · intro a X hX hL hd
              refine .inl ⟨rfl, ?_⟩
              have e0 : a.eval (.tmp 112) = .bool false := hd 16 112 (by kernel_rfl) (by kernel_rfl)
              exact wp_value (exec_move rfl e0) ⟨_, rfl, hX, Below.refl _ _, rfl⟩
            · intro a X hX hL hd
              refine .inl ⟨wanted_true 113 rfl (by kernel_rfl) (hd 17 113 (by kernel_rfl) (by kernel_rfl)), ?_⟩
              have e0 : a.eval (.tmp 5) = .slice (some ⟨g, 0, none⟩) 34 34 := hL.far 5 (by kernel_rfl)
              exact wp_value (exec_move rfl e0) ⟨_, rfl, hX, Below.refl _ _, rfl⟩
            · intro a X hX hL hd
              refine .inl ⟨wanted_true 113 rfl (by kernel_rfl) (hd 17 113 (by kernel_rfl) (by kernel_rfl)), ?_⟩
              have e0 : a.eval (.tmp 6) = .int .i64 (j : Nat) := hL.far 6 (by kernel_rfl)
              exact wp_value (exec_move rfl e0) ⟨_, rfl, hX, Below.refl _ _, rfl⟩
            · intro a X hX hL hd
              refine .inl ⟨wanted_true 113 rfl (by kernel_rfl) (hd 17 113 (by kernel_rfl) (by kernel_rfl)), ?_⟩
              have e0 : a.eval (.tmp 114) = .slice (some ⟨g, 0, none⟩) 34 34 := hd 18 114 (by kernel_rfl) (by kernel_rfl)
              have e1 : a.eval (.tmp 115) = .int .i64 (j : Nat) := hd 19 115 (by kernel_rfl) (by kernel_rfl)
              exact wp_value (exec_indexAddr rfl e0 e1 (hix X)) ⟨_, rfl, hX, Below.refl _ _, rfl⟩
            · intro a X hX hL hd
              refine .inl ⟨wanted_true 113 rfl (by kernel_rfl) (hd 17 113 (by kernel_rfl) (by kernel_rfl)), ?_⟩
              have e0 : a.eval (.tmp 116) = .pointer (some ⟨g, j, none⟩) := hd 20 116 (by kernel_rfl) (by kernel_rfl)
              exact wp_value (exec_load rfl e0 (hl X hX)) ⟨_, rfl, hX, Below.refl _ _, rfl⟩
            · intro a X hX hL hd
              refine .inl ⟨wanted_true 113 rfl (by kernel_rfl) (hd 17 113 (by kernel_rfl) (by kernel_rfl)), ?_⟩
              have e0 : a.eval (.tmp 117) = .string s := hd 21 117 (by kernel_rfl) (by kernel_rfl)
              refine wp_enter (exec_call (vs := #[.string s]) rfl (by simp only [List.map_toArray, List.map_cons, List.map_nil, e0]) Tryz.func13 rfl rfl) ?_
              refine (C3.out X hX).mono ?_
              rintro e w' ⟨rfl, hb⟩
              exact ⟨_, rfl, _, rfl, SNX.out _ _ hX hb, hb, rfl⟩
            · intro a X hX hL hd
              refine .inl ⟨wanted_true 113 rfl (by kernel_rfl) (hd 17 113 (by kernel_rfl) (by kernel_rfl)), ?_⟩
              have e0 : a.eval (.tmp 118) = .bool true := hd 22 118 (by kernel_rfl) (by kernel_rfl)
              exact wp_value (exec_unop rfl e0 rfl) ⟨_, rfl, hX, Below.refl _ _, rfl⟩
            · intro a X hX hL hd
              refine .inl ⟨rfl, ?_⟩
              have e0 : a.eval (.tmp 113) = .bool false := hd 17 113 (by kernel_rfl) (by kernel_rfl)
              have e1 : a.eval (.tmp 119) = .bool false := hd 23 119 (by kernel_rfl) (by kernel_rfl)
              exact wp_value (exec_pick rfl e0 rfl e1) ⟨_, rfl, hX, Below.refl _ _, rfl⟩
            · intro a X hX hL hd
              refine .inl ⟨rfl, ?_⟩
              have e0 : a.eval (.tmp 120) = .bool false := hd 24 120 (by kernel_rfl) (by kernel_rfl)
              exact wp_value (exec_move rfl e0) ⟨_, rfl, hX, Below.refl _ _, rfl⟩
            · intro a X hX hL hd
              refine .inl ⟨wanted_true 121 rfl (by kernel_rfl) (hd 25 121 (by kernel_rfl) (by kernel_rfl)), ?_⟩
              have e0 : a.eval (.tmp 5) = .slice (some ⟨g, 0, none⟩) 34 34 := hL.far 5 (by kernel_rfl)
              exact wp_value (exec_move rfl e0) ⟨_, rfl, hX, Below.refl _ _, rfl⟩
            · intro a X hX hL hd
              refine .inl ⟨wanted_true 121 rfl (by kernel_rfl) (hd 25 121 (by kernel_rfl) (by kernel_rfl)), ?_⟩
              have e0 : a.eval (.tmp 6) = .int .i64 (j : Nat) := hL.far 6 (by kernel_rfl)
              exact wp_value (exec_move rfl e0) ⟨_, rfl, hX, Below.refl _ _, rfl⟩
            · intro a X hX hL hd
              refine .inl ⟨wanted_true 121 rfl (by kernel_rfl) (hd 25 121 (by kernel_rfl) (by kernel_rfl)), ?_⟩
              have e0 : a.eval (.tmp 122) = .slice (some ⟨g, 0, none⟩) 34 34 := hd 26 122 (by kernel_rfl) (by kernel_rfl)
              have e1 : a.eval (.tmp 123) = .int .i64 (j : Nat) := hd 27 123 (by kernel_rfl) (by kernel_rfl)
              exact wp_value (exec_indexAddr rfl e0 e1 (hix X)) ⟨_, rfl, hX, Below.refl _ _, rfl⟩
            · intro a X hX hL hd
              refine .inl ⟨wanted_true 121 rfl (by kernel_rfl) (hd 25 121 (by kernel_rfl) (by kernel_rfl)), ?_⟩
              have e0 : a.eval (.tmp 124) = .pointer (some ⟨g, j, none⟩) := hd 28 124 (by kernel_rfl) (by kernel_rfl)
              exact wp_value (exec_load rfl e0 (hl X hX)) ⟨_, rfl, hX, Below.refl _ _, rfl⟩
            · intro a X hX hL hd
              refine .inl ⟨wanted_true 121 rfl (by kernel_rfl) (hd 25 121 (by kernel_rfl) (by kernel_rfl)), ?_⟩
              have e0 : a.eval (.tmp 125) = .string s := hd 29 125 (by kernel_rfl) (by kernel_rfl)
              exact wp_value (exec_binop rfl rfl e0 (hp1 X _ _)) ⟨_, rfl, hX, Below.refl _ _, rfl⟩
            · intro a X hX hL hd
              refine .inl ⟨wanted_true 121 rfl (by kernel_rfl) (hd 25 121 (by kernel_rfl) (by kernel_rfl)), ?_⟩
              have e0 : a.eval (.tmp 126) = .string (⟨#[195, 169, 10]⟩ ++ s) := hd 30 126 (by kernel_rfl) (by kernel_rfl)
              exact wp_value (exec_binop rfl e0 rfl (hp2 X _ _)) ⟨_, rfl, hX, Below.refl _ _, rfl⟩
            · intro a X hX hL hd
              refine .inl ⟨wanted_true 121 rfl (by kernel_rfl) (hd 25 121 (by kernel_rfl) (by kernel_rfl)), ?_⟩
              have e0 : a.eval (.tmp 127) = .string (⟨#[195, 169, 10]⟩ ++ s ++ ⟨#[32, 120]⟩) := hd 31 127 (by kernel_rfl) (by kernel_rfl)
              refine wp_enter (exec_call (vs := #[.string (⟨#[195, 169, 10]⟩ ++ s ++ ⟨#[32, 120]⟩), Value.string { data := #[] }]) rfl (by simp only [List.map_toArray, List.map_cons, List.map_nil, e0]; rfl) Tryz.func11 rfl rfl) ?_
              refine (C4.out X hX).mono ?_
              rintro e w' ⟨rfl, hb⟩
              exact ⟨_, rfl, _, rfl, SNX.out _ _ hX hb, hb, rfl⟩
            · intro a X hX hL hd
              refine .inl ⟨wanted_true 121 rfl (by kernel_rfl) (hd 25 121 (by kernel_rfl) (by kernel_rfl)), ?_⟩
              have e0 : a.eval (.tmp 128) = .bool true := hd 32 128 (by kernel_rfl) (by kernel_rfl)
              exact wp_value (exec_unop rfl e0 rfl) ⟨_, rfl, hX, Below.refl _ _, rfl⟩
            · intro a X hX hL hd
              refine .inl ⟨rfl, ?_⟩
              have e0 : a.eval (.tmp 121) = .bool false := hd 25 121 (by kernel_rfl) (by kernel_rfl)
              have e1 : a.eval (.tmp 129) = .bool false := hd 33 129 (by kernel_rfl) (by kernel_rfl)
              exact wp_value (exec_pick rfl e0 rfl e1) ⟨_, rfl, hX, Below.refl _ _, rfl⟩
            · intro a X hX hL hd
              refine .inl ⟨rfl, ?_⟩
              have e0 : a.eval (.tmp 130) = .bool false := hd 34 130 (by kernel_rfl) (by kernel_rfl)
              exact wp_value (exec_move rfl e0) ⟨_, rfl, hX, Below.refl _ _, rfl⟩
            · intro a X hX hL hd
              refine .inl ⟨wanted_true 131 rfl (by kernel_rfl) (hd 35 131 (by kernel_rfl) (by kernel_rfl)), ?_⟩
              have e0 : a.eval (.tmp 5) = .slice (some ⟨g, 0, none⟩) 34 34 := hL.far 5 (by kernel_rfl)
              exact wp_value (exec_move rfl e0) ⟨_, rfl, hX, Below.refl _ _, rfl⟩
            · intro a X hX hL hd
              refine .inl ⟨wanted_true 131 rfl (by kernel_rfl) (hd 35 131 (by kernel_rfl) (by kernel_rfl)), ?_⟩
              have e0 : a.eval (.tmp 6) = .int .i64 (j : Nat) := hL.far 6 (by kernel_rfl)
              exact wp_value (exec_move rfl e0) ⟨_, rfl, hX, Below.refl _ _, rfl⟩
            · intro a X hX hL hd
              refine .inl ⟨wanted_true 131 rfl (by kernel_rfl) (hd 35 131 (by kernel_rfl) (by kernel_rfl)), ?_⟩
              have e0 : a.eval (.tmp 132) = .slice (some ⟨g, 0, none⟩) 34 34 := hd 36 132 (by kernel_rfl) (by kernel_rfl)
              have e1 : a.eval (.tmp 133) = .int .i64 (j : Nat) := hd 37 133 (by kernel_rfl) (by kernel_rfl)
              exact wp_value (exec_indexAddr rfl e0 e1 (hix X)) ⟨_, rfl, hX, Below.refl _ _, rfl⟩
            · intro a X hX hL hd
              refine .inl ⟨wanted_true 131 rfl (by kernel_rfl) (hd 35 131 (by kernel_rfl) (by kernel_rfl)), ?_⟩
              have e0 : a.eval (.tmp 134) = .pointer (some ⟨g, j, none⟩) := hd 38 134 (by kernel_rfl) (by kernel_rfl)
              exact wp_value (exec_load rfl e0 (hl X hX)) ⟨_, rfl, hX, Below.refl _ _, rfl⟩
            · intro a X hX hL hd
              refine .inl ⟨wanted_true 131 rfl (by kernel_rfl) (hd 35 131 (by kernel_rfl) (by kernel_rfl)), ?_⟩
              have e0 : a.eval (.tmp 135) = .string s := hd 39 135 (by kernel_rfl) (by kernel_rfl)
              refine wp_enter (exec_call (vs := #[.string s, .int .i64 0]) rfl (by simp only [List.map_toArray, List.map_cons, List.map_nil, e0]; rfl) Tryz.func14 rfl rfl) ?_
              refine (C5.out X hX).mono ?_
              rintro e w' ⟨rfl, hb⟩
              exact ⟨_, rfl, _, rfl, SNX.out _ _ hX hb, hb, rfl⟩
            · intro a X hX hL hd
              refine .inl ⟨wanted_true 131 rfl (by kernel_rfl) (hd 35 131 (by kernel_rfl) (by kernel_rfl)), ?_⟩
              have e0 : a.eval (.tmp 136) = .bool true := hd 40 136 (by kernel_rfl) (by kernel_rfl)
              exact wp_value (exec_unop rfl e0 rfl) ⟨_, rfl, hX, Below.refl _ _, rfl⟩
            · intro a X hX hL hd
              refine .inl ⟨rfl, ?_⟩
              have e0 : a.eval (.tmp 131) = .bool false := hd 35 131 (by kernel_rfl) (by kernel_rfl)
              have e1 : a.eval (.tmp 137) = .bool false := hd 41 137 (by kernel_rfl) (by kernel_rfl)
              exact wp_value (exec_pick rfl e0 rfl e1) ⟨_, rfl, hX, Below.refl _ _, rfl⟩
            · intro a X hX hL hd
              refine .inl ⟨rfl, ?_⟩
              have e0 : a.eval (.tmp 138) = .bool false := hd 42 138 (by kernel_rfl) (by kernel_rfl)
              exact wp_value (exec_move rfl e0) ⟨_, rfl, hX, Below.refl _ _, rfl⟩
            · intro a X hX hL hd
              refine .inl ⟨wanted_true 139 rfl (by kernel_rfl) (hd 43 139 (by kernel_rfl) (by kernel_rfl)), ?_⟩
              have e0 : a.eval (.tmp 5) = .slice (some ⟨g, 0, none⟩) 34 34 := hL.far 5 (by kernel_rfl)
              exact wp_value (exec_move rfl e0) ⟨_, rfl, hX, Below.refl _ _, rfl⟩
            · intro a X hX hL hd
              refine .inl ⟨wanted_true 139 rfl (by kernel_rfl) (hd 43 139 (by kernel_rfl) (by kernel_rfl)), ?_⟩
              have e0 : a.eval (.tmp 6) = .int .i64 (j : Nat) := hL.far 6 (by kernel_rfl)
              exact wp_value (exec_move rfl e0) ⟨_, rfl, hX, Below.refl _ _, rfl⟩
            · intro a X hX hL hd
              refine .inl ⟨wanted_true 139 rfl (by kernel_rfl) (hd 43 139 (by kernel_rfl) (by kernel_rfl)), ?_⟩
              have e0 : a.eval (.tmp 140) = .slice (some ⟨g, 0, none⟩) 34 34 := hd 44 140 (by kernel_rfl) (by kernel_rfl)
              have e1 : a.eval (.tmp 141) = .int .i64 (j : Nat) := hd 45 141 (by kernel_rfl) (by kernel_rfl)
              exact wp_value (exec_indexAddr rfl e0 e1 (hix X)) ⟨_, rfl, hX, Below.refl _ _, rfl⟩
            · intro a X hX hL hd
              refine .inl ⟨wanted_true 139 rfl (by kernel_rfl) (hd 43 139 (by kernel_rfl) (by kernel_rfl)), ?_⟩
              have e0 : a.eval (.tmp 142) = .pointer (some ⟨g, j, none⟩) := hd 46 142 (by kernel_rfl) (by kernel_rfl)
              exact wp_value (exec_load rfl e0 (hl X hX)) ⟨_, rfl, hX, Below.refl _ _, rfl⟩
            · intro a X hX hL hd
              refine .inl ⟨wanted_true 139 rfl (by kernel_rfl) (hd 43 139 (by kernel_rfl) (by kernel_rfl)), ?_⟩
              have e0 : a.eval (.tmp 143) = .string s := hd 47 143 (by kernel_rfl) (by kernel_rfl)
              refine wp_enter (exec_call (vs := #[.string s]) rfl (by simp only [List.map_toArray, List.map_cons, List.map_nil, e0]) Tryz.func15 rfl rfl) ?_
              refine (C6.out X hX).mono ?_
              rintro e w' ⟨rfl, hb⟩
              exact ⟨_, rfl, _, rfl, SNX.out _ _ hX hb, hb, rfl⟩
            · intro a X hX hL hd
              refine .inl ⟨wanted_true 139 rfl (by kernel_rfl) (hd 43 139 (by kernel_rfl) (by kernel_rfl)), ?_⟩
              have e0 : a.eval (.tmp 144) = .bool true := hd 48 144 (by kernel_rfl) (by kernel_rfl)
              exact wp_value (exec_unop rfl e0 rfl) ⟨_, rfl, hX, Below.refl _ _, rfl⟩
            · intro a X hX hL hd
              refine .inl ⟨rfl, ?_⟩
              have e0 : a.eval (.tmp 139) = .bool false := hd 43 139 (by kernel_rfl) (by kernel_rfl)
              have e1 : a.eval (.tmp 145) = .bool false := hd 49 145 (by kernel_rfl) (by kernel_rfl)
              exact wp_value (exec_pick rfl e0 rfl e1) ⟨_, rfl, hX, Below.refl _ _, rfl⟩
          case hd =>
            intro a2 X hX hL hd _
            have hl9 : a2.tmps.getD 146 undef = .bool false := hd 50 146 (by kernel_rfl)
            obtain ⟨f, ha, hf⟩ := hL.out [96, 97, 98, 99, 100, 101, 102, 103, 104, 105, 106, 107, 108, 109, 110, 111, 112, 113, 114, 115, 116, 117, 118, 119, 120, 121, 122, 123, 124, 125, 126, 127, 128, 129, 130, 131, 132, 133, 134, 135, 136, 137, 138, 139, 140, 141, 142, 143, 144, 145, 146] (by kernel_rfl)
            have hl9' : f 146 = .bool false := (hf 146).trans hl9
            simp only [List.foldl_cons, List.foldl_nil, List.setIfInBounds_toArray, List.set_cons_zero, List.set_cons_succ, hl9'] at ha
            have HX := Lib.hid (HWR.out X hX)
            clear hf hd hL hl9 S15 hl9' C1 C2 C3 C4 C5 C6 hX hl hl0 hix hix0 hp1 hp2 SNX HWR
            subst ha
            go_wp2_with fail
            go_roundw
            case rel => exact ⟨j + 1, by omega, by go_num, HX.out⟩
            case measure => simp [RowKit.intOf]; omega
        · obtain rfl : j = 34 := by omega
          have C := Lib.hid (kbounds_any wr (HE.out _ (HX1.out _ HY0.out)))
          go_wp2_with fail
          refine C.out.mono ?_
          rintro e y ⟨rfl, hb⟩
          have HY := Lib.hid ((HX1.out _ HY0.out).trans (hb.mono (HX1.out _ HY0.out).size))
          clear hb C
          go_wp2_with fail
          go_ret
          exact ⟨rfl, HY.out⟩
end Go.Proofs.YtbnnhbmnddaafaaGreatDoor
