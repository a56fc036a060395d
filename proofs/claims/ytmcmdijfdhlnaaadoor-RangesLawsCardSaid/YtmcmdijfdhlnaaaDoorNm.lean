/- strconv.FormatInt to the base 16, and the one form of a point. -/
import Derived.Test.YtmcmdijfdhlnaaaDoorZ1
import Derived.Test.YtmcmdijfdhlnaaaDoorZ2
import Derived.Laws.Rows
import Derived.BigRegion
namespace Go.Proofs.YtmcmdijfdhlnaaaDoor
open Go Go.RowKit Go.Kt Go.Kt.Bits

/-- The digits. -/
def hexD (d : Nat) : UInt8 := if d < 10 then UInt8.ofNat (48 + d) else UInt8.ofNat (87 + d)
def hexF : Nat → Nat → List UInt8
  | 0, u => [hexD (u % 16)]
  | f + 1, u => if u < 16 then [hexD u] else hexF f (u / 16) ++ [hexD (u % 16)]
def hexL (u : Nat) : List UInt8 := hexF 8 u
theorem digit_ix : ∀ (d : Nat), d < 16 → ∀ w : World, (Instr.index 9 (.string ⟨#[48, 49, 50, 51, 52, 53, 54, 55, 56, 57, 97, 98, 99, 100, 101, 102, 103, 104, 105, 106, 107, 108, 109, 110, 111, 112, 113, 114, 115, 116, 117, 118, 119, 120, 121, 122]⟩) (.int .u64 (d : Nat))).run Tryd.prog w = .ok (.int .u8 ((hexD d).toNat : Nat)) w
  | 0, _ => fun _ => by kernel_rfl
  | 1, _ => fun _ => by kernel_rfl
  | 2, _ => fun _ => by kernel_rfl
  | 3, _ => fun _ => by kernel_rfl
  | 4, _ => fun _ => by kernel_rfl
  | 5, _ => fun _ => by kernel_rfl
  | 6, _ => fun _ => by kernel_rfl
  | 7, _ => fun _ => by kernel_rfl
  | 8, _ => fun _ => by kernel_rfl
  | 9, _ => fun _ => by kernel_rfl
  | 10, _ => fun _ => by kernel_rfl
  | 11, _ => fun _ => by kernel_rfl
  | 12, _ => fun _ => by kernel_rfl
  | 13, _ => fun _ => by kernel_rfl
  | 14, _ => fun _ => by kernel_rfl
  | 15, _ => fun _ => by kernel_rfl
  | d + 16, h => by omega
theorem and_15 (u : Nat) (hu : u < 2 ^ 64) : bits .and .u64 (u : Int) 15 = ((u % 16 : Nat) : Int) := by
  have := bits_and u 15 hu (by decide)
  rw [show (15 : Int) = ((15 : Nat) : Int) from rfl, this]
  have e : u &&& 15 = u % 16 := Nat.and_two_pow_sub_one_eq_mod u 4
  rw [e]

set_option maxRecDepth 100000 in
theorem rtz_16 (w : World) (hT : BTab w) : Calls Tryd.prog 82 #[.int .u64 16] w fun e w' => e = .returned (.int .i64 4) ∧ w = w' := by
  have C := Lib.hid (tz_any 16 4 0 w hT (Lib.hid (by decide)))
  go_enter Tryd.func82, Tryd.ntmps82
  go_wp2_with fail
  refine C.out.mono ?_
  rintro e w' ⟨rfl, h⟩
  go_wp2
  go_ret
  exact ⟨rfl, h⟩
theorem rpow2_16 (w : World) : Calls Tryd.prog 81 #[.int .i64 16] w fun e w' => e = .returned (.bool true) ∧ w = w' := by
  go_enter Tryd.func81, Tryd.ntmps81
  go_wp2
  go_ret
  exact ⟨by kernel_rfl, rfl⟩
set_option maxRecDepth 100000 in
set_option maxHeartbeats 2000000 in
theorem rbits_any (u : Nat) (w : World) (hT : BTab w) (hu : u < 16 ^ 6) :
    Calls Tryd.prog 69 #[.slice none 0 0, .int .u64 u, .int .i64 16, .bool false, .bool false] w fun e w' => e = .returned (.tuple #[.slice none 0 0, .string ⟨(hexL u).toArray⟩]) ∧ Below w.heap.size w w' := by
  have CT := Lib.hid (fun V (h : BTab V) => rtz_16 V h)
  have CP := Lib.hid rpow2_16
  have HT := Lib.hid hT
  clear hT
  go_enter Tryd.func69, Tryd.ntmps69
  go_wp2_with (go_at_call 81; refine (CP.out _).mono ?_; rintro e w1 ⟨rfl, rfl⟩)
  refine (CT.out _ (fun j hj => (((Below.refl w.heap.size w).alloc (Nat.le_refl _) _).cell (lt_of_cell (HT.out j hj))).trans (HT.out j hj))).mono ?_
  rintro e w1 ⟨rfl, rfl⟩
  obtain ⟨W, hW⟩ : ∃ W, w.alloc (.cells Tryd.zeroCells129 129) = W := ⟨_, rfl⟩
  have hb : Below w.heap.size w W := by rw [← hW]; exact (Below.refl _ _).alloc (Nat.le_refl _) _
  have hh : W.heap[w.heap.size]? = some (.cells Tryd.zeroCells129 129 (0, 0)) := by rw [← hW]; exact World.alloc_heap_new w _
  have hzs : (Tryd.zeroCells129).size = 65 := by kernel_rfl
  have HW := Lib.hid (And.intro hb (And.intro hh hzs))
  rw [hW]
  clear hW hb hh hzs
  go_wp2_with fail
  go_loopw [1, 13] (fun x i wr => ∃ (k v : Nat) (suf : List UInt8) (cs : Array Value), x = .int .u64 (v : Nat) ∧ i = .int .i64 (65 - (k : Int)) ∧ k ≤ 5 ∧ v < 16 ^ (6 - k) ∧ hexF (8 - k) v ++ suf = hexL u ∧ suf.length = k ∧ wr.heap[w.heap.size]? = some (.cells cs 129 (0, 0)) ∧ cs.size = 65 ∧
      (∀ j b, suf[j]? = some b → cs[65 - k + j]? = some (.int .u8 (b.toNat : Nat))) ∧ Below w.heap.size w wr) (fun x _ _ => (RowKit.intOf x).toNat)
  case atStart => exact ⟨0, u, [], _, rfl, rfl, by omega, hu, by simp [hexL], rfl, HW.out.2.1, HW.out.2.2, fun j b h => by simp at h, HW.out.1⟩
  case round =>
    obtain ⟨k, v, suf, cs, rfl, rfl, hk, hv, hhex, hsl, hcs, hsz, hcell, hb⟩ := hrel
    have hv6 : v < 16777216 := Nat.lt_of_lt_of_le hv (Nat.le_trans (Nat.pow_le_pow_right (by decide) (show 6 - k ≤ 6 by omega)) (by decide))
    have HI := Lib.hid (And.intro hv (And.intro hhex (And.intro hsl (And.intro hcs (And.intro hsz (And.intro hcell hb))))))
    have c0 : ∀ i, i < 65 → ∃ y, wr.cell? ⟨w.heap.size, i, none⟩ = some y := fun i hi => ⟨cs[i]'(by omega), by rw [Lib.cell_of_heap hcs]; exact Array.getElem?_eq_getElem _⟩
    obtain ⟨q, hq⟩ : ∃ q, k + 1 + q = 65 := ⟨65 - k - 1, by omega⟩
    obtain ⟨y, c1⟩ := c0 q (by omega)
    have f1 : wr.frozen? ⟨w.heap.size, q, none⟩ = false := Lib.frozen_of_heap hcs _
    have e64 : (65 : Int) - (k : Int) - 1 = (q : Int) := by omega
    have hq65 : (q : Int) < 65 := by omega
    have SET : Hid (∀ d : UInt8, (wr.setCell ⟨w.heap.size, q, none⟩ (.int .u8 (d.toNat : Nat))).heap[w.heap.size]? = some (.cells (cs.setIfInBounds q (.int .u8 (d.toNat : Nat))) 129 (0, 0)) ∧ (cs.setIfInBounds q (.int .u8 (d.toNat : Nat))).size = 65 ∧
        (∀ j b, (d :: suf)[j]? = some b → (cs.setIfInBounds q (.int .u8 (d.toNat : Nat)))[q + j]? = some (.int .u8 (b.toNat : Nat))) ∧ Below w.heap.size w (wr.setCell ⟨w.heap.size, q, none⟩ (.int .u8 (d.toNat : Nat)))) := Lib.hid fun d => by
      refine ⟨heap_setCell_same wr _ q cs _ _ hcs, by simpa using hsz, fun j b hj => ?_, hb.setCell (Nat.le_refl _) _⟩
      cases j with
      | zero =>
        simp at hj; subst hj
        rw [Nat.add_zero, Array.getElem?_setIfInBounds, if_pos rfl, if_pos (by omega)]
      | succ j =>
        rw [Array.getElem?_setIfInBounds, if_neg (by omega)]
        have := hcell j b (by simpa using hj)
        rw [show 65 - k + j = q + (j + 1) by omega] at this
        exact this
    clear hv hhex hsl hcs hsz hcell hb c0
    by_cases h16 : 16 ≤ v
    · have h16' : (16 : Int) ≤ (v : Int) := by omega
      have hk4 : k < 5 := by
        rcases Nat.lt_or_ge k 5 with h | h
        · exact h
        · have := HI.out.1; rw [show 6 - k = 1 by omega] at this; omega
      obtain ⟨r, hr⟩ : ∃ r, v % 16 = r := ⟨_, rfl⟩
      obtain ⟨z, hz⟩ : ∃ z, v / 16 = z := ⟨_, rfl⟩
      have hz' : (v : Int) / 16 = (z : Int) := by omega
      have d1 := and_15 v (by omega)
      rw [hr] at d1
      have d2 := digit_ix r (by omega)
      have HZ : Hid (z < 16 ^ (6 - (k + 1)) ∧ hexF (8 - (k + 1)) z ++ (hexD r :: suf) = hexL u) := Lib.hid (by
        refine ⟨?_, ?_⟩
        · have := HI.out.1
          rw [show 6 - k = 6 - (k + 1) + 1 by omega, Nat.pow_succ] at this
          rw [← hz]; omega
        · have := HI.out.2.1
          rw [show 8 - k = 8 - (k + 1) + 1 by omega, hexF, if_neg (by omega), hr, hz, List.append_assoc] at this
          exact this)
      have hzv : z < v := by omega
      clear hr hz
      go_wp2_with fail
      go_roundw
      case rel =>
        obtain ⟨s1, s2, s3, s4⟩ := SET.out (hexD r)
        exact ⟨k + 1, z, hexD r :: suf, _, rfl, by congr 1; omega, by omega, HZ.out.1, HZ.out.2, by simp [HI.out.2.2.1], s1, s2, fun j b hj => by rw [show 65 - (k + 1) + j = q + j by omega]; exact s3 j b hj, s4⟩
      case measure => simp [RowKit.intOf]; omega
    · have h16' : ¬ (16 : Int) ≤ (v : Int) := by omega
      have d2 := digit_ix v (by omega)
      obtain ⟨s1, s2, s3, s4⟩ := SET.out (hexD v)
      have hal : Tryd.prog.arrayLen 129 = 65 := by kernel_rfl
      have hsl : ∀ W : World, (Instr.sliceAt 129 (.pointer (some ⟨w.heap.size, 0, none⟩)) (some (.int .i64 (q : Nat))) none none).run Tryd.prog W = .ok (.slice (some ⟨w.heap.size, q, none⟩) (k + 1) (k + 1)) W := fun W => by
        rw [run_sliceAt_array_l W 129 ⟨w.heap.size, 0, none⟩ (by kernel_rfl) .i64 (q : Nat) (by omega) (by rw [hal]; omega), hal]
        have e1 : Tryd.prog.elem 129 = 5 := by kernel_rfl
        rw [e1, Tryd.sizeOf5]
        simp only [Result.andThen_ok, slicedAt, Int.toNat_natCast]
        rw [if_neg (by omega), show 65 - q = k + 1 by omega, Addr.add_lit]
        simp
      have hcv := run_convert_bytes_back (P := Tryd.prog) (wr.setCell ⟨w.heap.size, q, none⟩ (.int .u8 ((hexD v).toNat : Nat))) 66 9 5 ⟨w.heap.size, q, none⟩ (k + 1) (hexD v :: suf) Tryd.underlying66 Tryd.underlying5 Tryd.underlying9 (fun j hj => by
        rw [Addr.add_lit, Lib.cell_of_heap s1]
        have := s3 j _ (List.getElem?_eq_getElem hj)
        rw [this])
      rw [List.length_cons, HI.out.2.2.1] at hcv
      have HL : Hid ((hexD v :: suf) = hexL u) := Lib.hid (by
        have := HI.out.2.1
        rw [show 8 - k = (7 - k) + 1 by omega, hexF, if_pos (by omega)] at this
        exact this)
      rw [HL.out] at hcv
      have HS := Lib.hid s4
      clear s1 s2 s3 s4 hal
      go_wp2_with fail
      go_ret2
      exact ⟨rfl, HS.out⟩

set_option maxRecDepth 100000 in
theorem rformat_any (u : Nat) (w : World) (hT : BTab w) (hu : u < 16 ^ 6) :
    Calls Tryd.prog 46 #[.int .i64 u, .int .i64 16] w fun e w' => e = .returned (.string ⟨(hexL u).toArray⟩) ∧ Below w.heap.size w w' := by
  have C := Lib.hid (rbits_any u w hT hu)
  have hu2 : u < 16777216 := hu
  have C2 : Hid (Calls Tryd.prog 52 #[.int .i64 u, .int .i64 16] w fun e w' => e = .returned (.string ⟨(hexL u).toArray⟩) ∧ Below w.heap.size w w') := Lib.hid (by
    clear hT
    go_enter Tryd.func52, Tryd.ntmps52
    go_wp2_with fail
    refine C.out.mono ?_
    rintro e w' ⟨rfl, hb⟩
    go_wp2
    go_ret
    exact ⟨rfl, hb⟩)
  clear hT
  go_enter Tryd.func46, Tryd.ntmps46
  go_wp2_with fail
  refine C2.out.mono ?_
  rintro e w' ⟨rfl, hb⟩
  go_wp2
  go_ret
  exact ⟨rfl, hb⟩

/-- The one form of a point. -/
def printP (r : Int) : List UInt8 := if 1114111 < r then [92, 120] ++ hexL (r - 1114112).toNat else [92, 117, 123] ++ hexL r.toNat ++ [125]
theorem hexF_len : ∀ (f u : Nat), (hexF f u).length ≤ f + 1
  | 0, _ => by simp [hexF]
  | f + 1, u => by
    have := hexF_len f (u / 16)
    unfold hexF
    split
    · simp
    · rw [List.length_append]; simp; omega
theorem bytes_add (a b : List UInt8) : (⟨a.toArray⟩ : ByteArray) ++ ⟨b.toArray⟩ = ⟨(a ++ b).toArray⟩ := by
  apply ByteArray.ext
  simp
set_option maxRecDepth 100000 in
theorem rprinted_any (r : Int) (w : World) (hT : BTab w) (hr : 0 ≤ r ∧ r ≤ 1114367) :
    Calls Tryd.prog 32 #[.int .i32 r] w fun e w' => e = .returned (.string ⟨(printP r).toArray⟩) ∧ Below w.heap.size w w' := by
  by_cases h : 1114111 < r
  · obtain ⟨u, hu⟩ : ∃ u : Nat, r - 1114112 = u := ⟨(r - 1114112).toNat, by omega⟩
    have hp : printP r = [92, 120] ++ hexL u := by unfold printP; rw [if_pos h, hu]; rfl
    have C := Lib.hid (rformat_any u w hT (by show u < 16777216; omega))
    have hl := hexF_len 8 u
    have HP : Hid ((⟨#[92, 120]⟩ : ByteArray) ++ ⟨(hexL u).toArray⟩ = ⟨(printP r).toArray⟩) := Lib.hid (by rw [hp]; exact bytes_add [92, 120] _)
    have hsz : (⟨(hexL u).toArray⟩ : ByteArray).size ≤ 9 := by show (hexL u).toArray.size ≤ 9; simpa [hexL] using hl
    generalize (⟨(hexL u).toArray⟩ : ByteArray) = L at *
    clear hp hT hl
    go_enter Tryd.func32, Tryd.ntmps32
    go_wp2_with fail
    refine C.out.mono ?_
    rintro e w' ⟨rfl, hb⟩
    go_wp2
    go_ret
    exact ⟨by rw [← HP.out]; rfl, hb⟩
  · obtain ⟨u, hu⟩ : ∃ u : Nat, r = u := ⟨r.toNat, by omega⟩
    subst hu
    have hp : printP (u : Int) = [92, 117, 123] ++ hexL u ++ [125] := by unfold printP; rw [if_neg h]; rfl
    have C := Lib.hid (rformat_any u w hT (by show u < 16777216; omega))
    have hl := hexF_len 8 u
    have HP : Hid ((⟨#[92, 117, 123]⟩ : ByteArray) ++ ⟨(hexL u).toArray⟩ ++ ⟨#[125]⟩ = ⟨(printP (u : Int)).toArray⟩) := Lib.hid (by rw [hp, bytes_add [92, 117, 123] (hexL u)]; exact bytes_add _ [125])
    have hsz : (⟨(hexL u).toArray⟩ : ByteArray).size ≤ 9 := by show (hexL u).toArray.size ≤ 9; simpa [hexL] using hl
    generalize (⟨(hexL u).toArray⟩ : ByteArray) = L at *
    have hsz2 : ((⟨#[92, 117, 123]⟩ : ByteArray) ++ L).size ≤ 12 := by rw [ByteArray.size_append]; show 3 + L.size ≤ 12; omega
    clear hp hT hl
    go_enter Tryd.func32, Tryd.ntmps32
    go_wp2_with fail
    refine C.out.mono ?_
    rintro e w' ⟨rfl, hb⟩
    go_wp2
    go_ret
    exact ⟨by rw [← HP.out]; rfl, hb⟩
end Go.Proofs.YtmcmdijfdhlnaaaDoor
