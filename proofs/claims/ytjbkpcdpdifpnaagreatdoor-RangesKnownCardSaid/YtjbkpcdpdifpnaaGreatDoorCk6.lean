/- Parts of the proof of what the last text says. -/
import Derived.Test.YtjbkpcdpdifpnaaGreatDoorCk3
import Derived.Test.YtjbkpcdpdifpnaaGreatDoorCk1
import Derived.Test.YtjbkpcdpdifpnaaGreatDoorCk4
import Derived.Laws.Rows
import Derived.BigRegion
import Derived.Test.YtjbkpcdpdifpnaaGreatDoorCk5
import Derived.Test.YtjbkpcdpdifpnaaGreatDoorCk2
import Derived.Shelf.SlGeneric
import Derived.Shelf.SlSortCmp.WholeK
import Derived.Shelf.SlicesG.Cmp
import Derived.Ground.SlsfProg
import Derived.Ground.SlgcProg
import Derived.Test.YtjbkpcdpdifpnaaGreatDoorProg
import Derived.Shelf.SlSortCmp.NoneTotal
import Derived.Laws.OwnMore
/- strconv.FormatInt to the base 16, and the one form of a point. -/
namespace Go.Proofs.YtjbkpcdpdifpnaaGreatDoor
open Go Go.RowKit Go.Kt Go.Kt.Bits

def hexD (d : Nat) : UInt8 := if d < 10 then UInt8.ofNat (48 + d) else UInt8.ofNat (87 + d)
def hexF : Nat → Nat → List UInt8
  | 0, u => [hexD (u % 16)]
  | f + 1, u => if u < 16 then [hexD u] else hexF f (u / 16) ++ [hexD (u % 16)]
def hexL (u : Nat) : List UInt8 := hexF 8 u
theorem digit_ix : ∀ (d : Nat), d < 16 → ∀ w : World, (Instr.index 9 (.string ⟨#[48, 49, 50, 51, 52, 53, 54, 55, 56, 57, 97, 98, 99, 100, 101, 102, 103, 104, 105, 106, 107, 108, 109, 110, 111, 112, 113, 114, 115, 116, 117, 118, 119, 120, 121, 122]⟩) (.int .u64 (d : Nat))).run Tryz.prog w = .ok (.int .u8 ((hexD d).toNat : Nat)) w
  | 0, _ => fun _ => by kernel_rfl
  | 1, _ => fun _ => by kernel_rfl
  | 2, _ => fun _ => by kernel_rfl
  | 3, _ => fun _ => by kernel_rfl
  | 4, _ => fun _ => by kernel_rfl
  | 5, _ => fun _ => by kernel_rfl
  | 6, _ => fun _ => by kernel_rfl
  | 7, _ => fun _ => by kernel_rfl
  | 8, _ => fun _ => by kernel_rfl
  | 9, _ => fun _ => by kernel_rfl
  | 10, _ => fun _ => by kernel_rfl
  | 11, _ => fun _ => by kernel_rfl
  | 12, _ => fun _ => by kernel_rfl
  | 13, _ => fun _ => by kernel_rfl
  | 14, _ => fun _ => by kernel_rfl
  | 15, _ => fun _ => by kernel_rfl
  | d + 16, h => by omega
theorem and_15 (u : Nat) (hu : u < 2 ^ 64) : bits .and .u64 (u : Int) 15 = ((u % 16 : Nat) : Int) := by
  have := bits_and u 15 hu (by decide)
  rw [show (15 : Int) = ((15 : Nat) : Int) from rfl, this]
  have e : u &&& 15 = u % 16 := Nat.and_two_pow_sub_one_eq_mod u 4
  rw [e]

set_option maxRecDepth 100000 in
theorem rtz_16 (w : World) (hT : BTab w) : Calls Tryz.prog 180 #[.int .u64 16] w fun e w' => e = .returned (.int .i64 4) ∧ w = w' := by
  have C := Lib.hid (tz_any 16 4 0 w hT (Lib.hid (by decide)))
  go_enter Tryz.func180, Tryz.ntmps180
  go_wp2_with fail
  refine C.out.mono ?_
  rintro e w' ⟨rfl, h⟩
  go_wp2
  go_ret
  exact ⟨rfl, h⟩
theorem rpow2_16 (w : World) : Calls Tryz.prog 179 #[.int .i64 16] w fun e w' => e = .returned (.bool true) ∧ w = w' := by
  go_enter Tryz.func179, Tryz.ntmps179
  go_wp2
  go_ret
  exact ⟨by kernel_rfl, rfl⟩
set_option maxRecDepth 100000 in
set_option maxHeartbeats 2000000 in
theorem rbits_any (u : Nat) (w : World) (hT : BTab w) (hu : u < 16 ^ 6) :
    Calls Tryz.prog 165 #[.slice none 0 0, .int .u64 u, .int .i64 16, .bool false, .bool false] w fun e w' => e = .returned (.tuple #[.slice none 0 0, .string ⟨(hexL u).toArray⟩]) ∧ Below w.heap.size w w' := by
  have CT := Lib.hid (fun V (h : BTab V) => rtz_16 V h)
  have CP := Lib.hid rpow2_16
  have HT := Lib.hid hT
  clear hT
  go_enter Tryz.func165, Tryz.ntmps165
  go_wp2_with (go_at_call 179; refine (CP.out _).mono ?_; rintro e w1 ⟨rfl, rfl⟩)
  refine (CT.out _ (fun j hj => (((Below.refl w.heap.size w).alloc (Nat.le_refl _) _).cell (lt_of_cell (HT.out j hj))).trans (HT.out j hj))).mono ?_
  rintro e w1 ⟨rfl, rfl⟩
  obtain ⟨W, hW⟩ : ∃ W, w.alloc (.cells Tryz.zeroCells319 319) = W := ⟨_, rfl⟩
  have hb : Below w.heap.size w W := by rw [← hW]; exact (Below.refl _ _).alloc (Nat.le_refl _) _
  have hh : W.heap[w.heap.size]? = some (.cells Tryz.zeroCells319 319 (0, 0)) := by rw [← hW]; exact World.alloc_heap_new w _
  have hzs : (Tryz.zeroCells319).size = 65 := by kernel_rfl
  have HW := Lib.hid (And.intro hb (And.intro hh hzs))
  rw [hW]
  clear hW hb hh hzs
  go_wp2_with fail
  go_loopw [1, 13] (fun x i wr => ∃ (k v : Nat) (suf : List UInt8) (cs : Array Value), x = .int .u64 (v : Nat) ∧ i = .int .i64 (65 - (k : Int)) ∧ k ≤ 5 ∧ v < 16 ^ (6 - k) ∧ hexF (8 - k) v ++ suf = hexL u ∧ suf.length = k ∧ wr.heap[w.heap.size]? = some (.cells cs 319 (0, 0)) ∧ cs.size = 65 ∧
      (∀ j b, suf[j]? = some b → cs[65 - k + j]? = some (.int .u8 (b.toNat : Nat))) ∧ Below w.heap.size w wr) (fun x _ _ => (RowKit.intOf x).toNat)
  case atStart => exact ⟨0, u, [], _, rfl, rfl, by omega, hu, by simp [hexL], rfl, HW.out.2.1, HW.out.2.2, fun j b h => by simp at h, HW.out.1⟩
  case round =>
    obtain ⟨k, v, suf, cs, rfl, rfl, hk, hv, hhex, hsl, hcs, hsz, hcell, hb⟩ := hrel
    have hv6 : v < 16777216 := Nat.lt_of_lt_of_le hv (Nat.le_trans (Nat.pow_le_pow_right (by decide) (show 6 - k ≤ 6 by omega)) (by decide))
    have HI := Lib.hid (And.intro hv (And.intro hhex (And.intro hsl (And.intro hcs (And.intro hsz (And.intro hcell hb))))))
    have c0 : ∀ i, i < 65 → ∃ y, wr.cell? ⟨w.heap.size, i, none⟩ = some y := fun i hi => ⟨cs[i]'(by omega), by rw [Lib.cell_of_heap hcs]; exact Array.getElem?_eq_getElem _⟩
    obtain ⟨q, hq⟩ : ∃ q, k + 1 + q = 65 := ⟨65 - k - 1, by omega⟩
    obtain ⟨y, c1⟩ := c0 q (by omega)
    have f1 : wr.frozen? ⟨w.heap.size, q, none⟩ = false := Lib.frozen_of_heap hcs _
    have e64 : (65 : Int) - (k : Int) - 1 = (q : Int) := by omega
    have hq65 : (q : Int) < 65 := by omega
    have SET : Hid (∀ d : UInt8, (wr.setCell ⟨w.heap.size, q, none⟩ (.int .u8 (d.toNat : Nat))).heap[w.heap.size]? = some (.cells (cs.setIfInBounds q (.int .u8 (d.toNat : Nat))) 319 (0, 0)) ∧ (cs.setIfInBounds q (.int .u8 (d.toNat : Nat))).size = 65 ∧
        (∀ j b, (d :: suf)[j]? = some b → (cs.setIfInBounds q (.int .u8 (d.toNat : Nat)))[q + j]? = some (.int .u8 (b.toNat : Nat))) ∧ Below w.heap.size w (wr.setCell ⟨w.heap.size, q, none⟩ (.int .u8 (d.toNat : Nat)))) := Lib.hid fun d => by
      refine ⟨heap_setCell_same wr _ q cs _ _ hcs, by simpa using hsz, fun j b hj => ?_, hb.setCell (Nat.le_refl _) _⟩
      cases j with
      | zero =>
        simp at hj; subst hj
        rw [Nat.add_zero, Array.getElem?_setIfInBounds, if_pos rfl, if_pos (by omega)]
      | succ j =>
        rw [Array.getElem?_setIfInBounds, if_neg (by omega)]
        have := hcell j b (by simpa using hj)
        rw [show 65 - k + j = q + (j + 1) by omega] at this
        exact this
    clear hv hhex hsl hcs hsz hcell hb c0
    by_cases h16 : 16 ≤ v
    · have h16' : (16 : Int) ≤ (v : Int) := by omega
      have hk4 : k < 5 := by
        rcases Nat.lt_or_ge k 5 with h | h
        · exact h
        · have := HI.out.1; rw [show 6 - k = 1 by omega] at this; omega
      obtain ⟨r, hr⟩ : ∃ r, v % 16 = r := ⟨_, rfl⟩
      obtain ⟨z, hz⟩ : ∃ z, v / 16 = z := ⟨_, rfl⟩
      have hz' : (v : Int) / 16 = (z : Int) := by omega
      have d1 := and_15 v (by omega)
      rw [hr] at d1
      have d2 := digit_ix r (by omega)
      have HZ : Hid (z < 16 ^ (6 - (k + 1)) ∧ hexF (8 - (k + 1)) z ++ (hexD r :: suf) = hexL u) := Lib.hid (by
        refine ⟨?_, ?_⟩
        · have := HI.out.1
          rw [show 6 - k = 6 - (k + 1) + 1 by omega, Nat.pow_succ] at this
          rw [← hz]; omega
        · have := HI.out.2.1
          rw [show 8 - k = 8 - (k + 1) + 1 by omega, hexF, if_neg (by omega), hr, hz, List.append_assoc] at this
          exact this)
      have hzv : z < v := by omega
      clear hr hz
      go_wp2_with fail
      go_roundw
      case rel =>
        obtain ⟨s1, s2, s3, s4⟩ := SET.out (hexD r)
        exact ⟨k + 1, z, hexD r :: suf, _, rfl, by congr 1; omega, by omega, HZ.out.1, HZ.out.2, by simp [HI.out.2.2.1], s1, s2, fun j b hj => by rw [show 65 - (k + 1) + j = q + j by omega]; exact s3 j b hj, s4⟩
      case measure => simp [RowKit.intOf]; omega
    · have h16' : ¬ (16 : Int) ≤ (v : Int) := by omega
      have d2 := digit_ix v (by omega)
      obtain ⟨s1, s2, s3, s4⟩ := SET.out (hexD v)
      have hal : Tryz.prog.arrayLen 319 = 65 := by kernel_rfl
      have hsl : ∀ W : World, (Instr.sliceAt 319 (.pointer (some ⟨w.heap.size, 0, none⟩)) (some (.int .i64 (q : Nat))) none none).run Tryz.prog W = .ok (.slice (some ⟨w.heap.size, q, none⟩) (k + 1) (k + 1)) W := fun W => by
        rw [run_sliceAt_array_l W 319 ⟨w.heap.size, 0, none⟩ (by kernel_rfl) .i64 (q : Nat) (by omega) (by rw [hal]; omega), hal]
        have e1 : Tryz.prog.elem 319 = 5 := by kernel_rfl
        rw [e1, Tryz.sizeOf5]
        simp only [Result.andThen_ok, slicedAt, Int.toNat_natCast]
        rw [if_neg (by omega), show 65 - q = k + 1 by omega, Addr.add_lit]
        simp
      have hcv := run_convert_bytes_back (P := Tryz.prog) (wr.setCell ⟨w.heap.size, q, none⟩ (.int .u8 ((hexD v).toNat : Nat))) 34 9 5 ⟨w.heap.size, q, none⟩ (k + 1) (hexD v :: suf) Tryz.underlying34 Tryz.underlying5 Tryz.underlying9 (fun j hj => by
        rw [Addr.add_lit, Lib.cell_of_heap s1]
        have := s3 j _ (List.getElem?_eq_getElem hj)
        rw [this])
      rw [List.length_cons, HI.out.2.2.1] at hcv
      have HL : Hid ((hexD v :: suf) = hexL u) := Lib.hid (by
        have := HI.out.2.1
        rw [show 8 - k = (7 - k) + 1 by omega, hexF, if_pos (by omega)] at this
        exact this)
      rw [HL.out] at hcv
      have HS := Lib.hid s4
      clear s1 s2 s3 s4 hal
      go_wp2_with fail
      go_ret2
      exact ⟨rfl, HS.out⟩

set_option maxRecDepth 100000 in
theorem rformat_any (u : Nat) (w : World) (hT : BTab w) (hu : u < 16 ^ 6) :
    Calls Tryz.prog 129 #[.int .i64 u, .int .i64 16] w fun e w' => e = .returned (.string ⟨(hexL u).toArray⟩) ∧ Below w.heap.size w w' := by
  have C := Lib.hid (rbits_any u w hT hu)
  have hu2 : u < 16777216 := hu
  have C2 : Hid (Calls Tryz.prog 142 #[.int .i64 u, .int .i64 16] w fun e w' => e = .returned (.string ⟨(hexL u).toArray⟩) ∧ Below w.heap.size w w') := Lib.hid (by
    clear hT
    go_enter Tryz.func142, Tryz.ntmps142
    go_wp2_with fail
    refine C.out.mono ?_
    rintro e w' ⟨rfl, hb⟩
    go_wp2
    go_ret
    exact ⟨rfl, hb⟩)
  clear hT
  go_enter Tryz.func129, Tryz.ntmps129
  go_wp2_with fail
  refine C2.out.mono ?_
  rintro e w' ⟨rfl, hb⟩
  go_wp2
  go_ret
  exact ⟨rfl, hb⟩

def printP (r : Int) : List UInt8 := if 1114111 < r then [92, 120] ++ hexL (r - 1114112).toNat else [92, 117, 123] ++ hexL r.toNat ++ [125]
theorem hexF_len : ∀ (f u : Nat), (hexF f u).length ≤ f + 1
  | 0, _ => by simp [hexF]
  | f + 1, u => by
    have := hexF_len f (u / 16)
    unfold hexF
    split
    · simp
    · rw [List.length_append]; simp; omega
theorem bytes_add (a b : List UInt8) : (⟨a.toArray⟩ : ByteArray) ++ ⟨b.toArray⟩ = ⟨(a ++ b).toArray⟩ := by
  apply ByteArray.ext
  simp
set_option maxRecDepth 100000 in
theorem rprinted_any (r : Int) (w : World) (hT : BTab w) (hr : 0 ≤ r ∧ r ≤ 1114367) :
    Calls Tryz.prog 84 #[.int .i32 r] w fun e w' => e = .returned (.string ⟨(printP r).toArray⟩) ∧ Below w.heap.size w w' := by
  by_cases h : 1114111 < r
  · obtain ⟨u, hu⟩ : ∃ u : Nat, r - 1114112 = u := ⟨(r - 1114112).toNat, by omega⟩
    have hp : printP r = [92, 120] ++ hexL u := by unfold printP; rw [if_pos h, hu]; rfl
    have C := Lib.hid (rformat_any u w hT (by show u < 16777216; omega))
    have hl := hexF_len 8 u
    have HP : Hid ((⟨#[92, 120]⟩ : ByteArray) ++ ⟨(hexL u).toArray⟩ = ⟨(printP r).toArray⟩) := Lib.hid (by rw [hp]; exact bytes_add [92, 120] _)
    have hsz : (⟨(hexL u).toArray⟩ : ByteArray).size ≤ 9 := by show (hexL u).toArray.size ≤ 9; simpa [hexL] using hl
    generalize (⟨(hexL u).toArray⟩ : ByteArray) = L at *
    clear hp hT hl
    go_enter Tryz.func84, Tryz.ntmps84
    go_wp2_with fail
    refine C.out.mono ?_
    rintro e w' ⟨rfl, hb⟩
    go_wp2
    go_ret
    exact ⟨by rw [← HP.out]; rfl, hb⟩
  · obtain ⟨u, hu⟩ : ∃ u : Nat, r = u := ⟨r.toNat, by omega⟩
    subst hu
    have hp : printP (u : Int) = [92, 117, 123] ++ hexL u ++ [125] := by unfold printP; rw [if_neg h]; rfl
    have C := Lib.hid (rformat_any u w hT (by show u < 16777216; omega))
    have hl := hexF_len 8 u
    have HP : Hid ((⟨#[92, 117, 123]⟩ : ByteArray) ++ ⟨(hexL u).toArray⟩ ++ ⟨#[125]⟩ = ⟨(printP (u : Int)).toArray⟩) := Lib.hid (by rw [hp, bytes_add [92, 117, 123] (hexL u)]; exact bytes_add _ [125])
    have hsz : (⟨(hexL u).toArray⟩ : ByteArray).size ≤ 9 := by show (hexL u).toArray.size ≤ 9; simpa [hexL] using hl
    generalize (⟨(hexL u).toArray⟩ : ByteArray) = L at *
    have hsz2 : ((⟨#[92, 117, 123]⟩ : ByteArray) ++ L).size ≤ 12 := by rw [ByteArray.size_append]; show 3 + L.size ≤ 12; omega
    clear hp hT hl
    go_enter Tryz.func84, Tryz.ntmps84
    go_wp2_with fail
    refine C.out.mono ?_
    rintro e w' ⟨rfl, hb⟩
    go_wp2
    go_ret
    exact ⟨by rw [← HP.out]; rfl, hb⟩
end Go.Proofs.YtjbkpcdpdifpnaaGreatDoor
/- The print of a set. -/
namespace Go.Proofs.YtjbkpcdpdifpnaaGreatDoor
open Go Go.RowKit Go.Kt Go.Kt.Rg
attribute [local go_sem] Oper.semAt_some

def printS (x : Int × Int) : List UInt8 := printP x.1 ++ (if x.2 = x.1 then [] else 45 :: printP x.2)
def printL (L : List (Int × Int)) : List UInt8 := L.flatMap printS
theorem printP_len (r : Int) : (printP r).length ≤ 13 := by
  have h := fun u => hexF_len 8 u
  unfold printP hexL
  split
  · have := h (r - 1114112).toNat; simp only [List.length_append, List.length_cons, List.length_nil]; omega
  · have := h r.toNat; simp only [List.length_append, List.length_cons, List.length_nil]; omega
theorem printS_len (x : Int × Int) : (printS x).length ≤ 27 := by
  have h1 := printP_len x.1
  have h2 := printP_len x.2
  unfold printS
  split <;> simp only [List.length_append, List.length_cons, List.length_nil] <;> omega
theorem printL_len (L : List (Int × Int)) : (printL L).length ≤ 27 * L.length := by
  induction L with
  | nil => simp [printL]
  | cons x t ih => have := printS_len x; simp only [printL, List.flatMap_cons, List.length_append, List.length_cons] at ih ⊢; omega
theorem printL_snoc (L : List (Int × Int)) (x : Int × Int) : printL (L ++ [x]) = printL L ++ printS x := by simp [printL]

def St (n : Nat) (Yb : Nat → Prop) (A : World) (acc : List UInt8) (V : World) : Prop :=
  Bld n (fun x => Yb x ∨ A.heap.size ≤ x) acc V ∧ Keep (fun x => x = n ∨ Yb x) A V
theorem St.next {n : Nat} {Yb : Nat → Prop} {A V V' : World} {acc acc' : List UInt8} {Y' : Nat → Prop} (h : St n Yb A acc V) (hb : Bld n Y' acc' V') (hk : Keep (fun c => c = n ∨ (Yb c ∨ A.heap.size ≤ c)) V V') (hY : ∀ c, Y' c → (Yb c ∨ A.heap.size ≤ c) ∨ V.heap.size ≤ c) : St n Yb A acc' V' := by
  have hs := h.2.size
  obtain ⟨p, v, hp, hh, ho, hne, hy⟩ := hb
  refine ⟨⟨p, v, hp, hh, ho, hne, fun g hg => ?_⟩, h.2.plus hk fun b hb hx => ?_⟩
  · rcases hY g (hy g hg) with hx | hx
    · exact hx
    · exact .inr (by omega)
  · rcases hx with hx | hx | hx
    · exact .inl hx
    · exact .inr hx
    · omega
theorem St.ws {n : Nat} {Yb : Nat → Prop} {A V : World} {acc : List UInt8} (h : St n Yb A acc V) (s : List UInt8) (hlen : acc.length + s.length ≤ 140737488355328) :
    Calls Tryz.prog 83 #[.pointer (some ⟨n, 0, none⟩), .string ⟨s.toArray⟩] V fun e V' => e = .returned (.tuple #[.int .i64 s.length, .nilIface]) ∧ St n Yb A (acc ++ s) V' := by
  have hs : (⟨s.toArray⟩ : ByteArray).size = s.length := by simp [ByteArray.size]
  refine (writeString_x n _ acc ⟨s.toArray⟩ V h.1 (by omega)).mono ?_
  rintro e V' ⟨rfl, Y', hb, hk, hY⟩
  exact ⟨by rw [hs], h.next (by simpa using hb) hk hY⟩
theorem St.wb {n : Nat} {Yb : Nat → Prop} {A V : World} {acc : List UInt8} (h : St n Yb A acc V) (c : Nat) (hc : c < 256) (hlen : acc.length + 1 ≤ 140737488355328) :
    Calls Tryz.prog 82 #[.pointer (some ⟨n, 0, none⟩), .int .u8 c] V fun e V' => e = .returned .nilIface ∧ St n Yb A (acc ++ [UInt8.ofNat c]) V' := by
  refine (writeByte_x n _ acc c V h.1 (by omega) (by omega) hlen).mono ?_
  rintro e V' ⟨rfl, Y', hb, hk, hY⟩
  exact ⟨rfl, h.next (by simpa using hb) hk hY⟩
theorem Bld.lt {b : Nat} {Y : Nat → Prop} {l : List UInt8} {W : World} (h : Bld b Y l W) : Bld b (fun x => Y x ∧ x < W.heap.size) l W := by
  obtain ⟨p, v, hp, hh, ho, hne, hy⟩ := h
  refine ⟨p, v, hp, hh, ho, hne, fun g hg => ⟨hy g hg, ?_⟩⟩
  rcases ho.2 with ⟨hv, _⟩ | ⟨g', cap, cur, fz, rfl, _, hg', _⟩
  · rw [hv] at hg; cases hg
  · cases hg; exact (Array.getElem?_eq_some_iff.1 hg').1
theorem Bld.weaken {b : Nat} {Y Y' : Nat → Prop} {l : List UInt8} {W : World} (h : Bld b Y l W) (hY : ∀ x, Y x → Y' x) : Bld b Y' l W := by
  obtain ⟨p, v, hp, hh, ho, hne, hy⟩ := h
  exact ⟨p, v, hp, hh, ho, hne, fun g hg => hY _ (hy g hg)⟩
theorem Bld.at {b : Nat} {l : List UInt8} {W : World} (h : ∃ Y, Bld b Y l W) : b < W.heap.size := by
  obtain ⟨Y, p, v, hp, hh, _⟩ := h
  exact (Array.getElem?_eq_some_iff.1 hh).1
theorem St.below {n : Nat} {Yb : Nat → Prop} {A V V' : World} {acc : List UInt8} (h : St n Yb A acc V) (hb : Below V.heap.size V V') : St n Yb A acc V' := by
  have hk : Keep (fun _ => False) V V' := .of_all hb
  exact ⟨h.1.keep hk (fun h => h) (fun _ _ h => h), h.2.plus hk (fun _ _ h => h.elim)⟩
theorem St.start {n : Nat} {Yb : Nat → Prop} {A : World} {acc : List UInt8} (h : Bld n Yb acc A) : St n Yb A acc A := by
  obtain ⟨p, v, hp, hh, ho, hne, hy⟩ := h
  exact ⟨⟨p, v, hp, hh, ho, hne, fun g hg => .inl (hy g hg)⟩, Keep.refl _ _⟩

set_option maxRecDepth 100000 in
set_option maxHeartbeats 2000000 in
theorem rPrint_any (l : List Run) (b : Nat) (w : World) (h : SetAt l b w) (hc : Canon l) (hT : PTab w) (hB : BTab w) (hbt : 7 < w.heap.size) :
    Calls Tryz.prog 25 #[ptrV b] w fun e w' => e = .returned (.string ⟨(91 :: printL (spansL l) ++ [93]).toArray⟩) ∧ Below w.heap.size w w' := by
  have hlen := canon_len hc (Int.le_refl _)
  have hl : l.length ≤ 1112192 := by unfold allN at hlen; omega
  obtain ⟨hbl, g, hg, ao, cap, hrow⟩ := set_row h
  have hpt := hT.lt
  obtain ⟨n, hn⟩ : ∃ n, w.heap.size = n := ⟨_, rfl⟩
  obtain ⟨W0, hW0⟩ : ∃ W0, w.alloc (.cells #[.pointer none, .slice none 0 0] 143 (0, 0)) = W0 := ⟨_, rfl⟩
  have hz0 : W0.heap.size = n + 1 := by rw [← hW0]; simp [hn]
  have hb0 : Below n w W0 := by rw [← hW0]; exact (Below.refl _ _).alloc (by omega) _
  have b0 : W0.heap[n]? = some (.cells #[.pointer none, .slice none 0 0] 143 (0, 0)) := by rw [← hW0]; exact alloc_at hn.symm
  have st0 : St n (fun _ => False) W0 [] W0 := St.start ⟨_, _, .inl rfl, b0, ⟨rfl, .inl ⟨rfl, rfl⟩⟩, by simp [Value.ownBlock], by simp [Value.ownBlock]⟩
  have C0 := Lib.hid (st0.wb 91 (by decide) (by simp))
  have HW0 := Lib.hid hW0
  have HROW := Lib.hid hrow
  have HC := Lib.hid hc
  have HT := Lib.hid hT
  have HB := Lib.hid hB
  have HN := Lib.hid hn
  have HB0 := Lib.hid hb0
  have hfn : ∀ k, Fence.wide.fn k := fun _ => trivial
  have hdep : Fence.wide.depth = none := rfl
  clear h hlen hrow hc hT hB hW0 hb0 b0 st0
  rw [hn] at hbl hg hpt hbt
  rw [hn]
  clear hn
  refine (callsIn_wide (n := 0)).1 ?_
  refine callsIn_of_wp_marks Tryz.func25 rfl trivial ?_ rfl
  simp only [Tryz.ntmps25, List.size_toArray, List.length_cons, List.length_nil, Nat.reduceAdd, Nat.reduceSub, Array.replicate_succ, Array.replicate_zero, List.push_toArray, List.append_toArray, List.nil_append, List.cons_append]
  gi_wp2_with fail
  rw [HW0.out, HN.out]
  refine (callsIn_wide.2 C0.out).mono ?_
  rintro e w2 ⟨rfl, st2⟩
  have ST2 := Lib.hid st2
  clear st2
  gi_wp2_with fail
  refine (callsIn_wide.2 (rspans_call b w2)).mono ?_
  rintro e w3 ⟨rfl, hw3⟩
  obtain ⟨bs, hbs⟩ : ∃ bs, w2.heap.size = bs := ⟨_, rfl⟩
  rw [hbs]
  have hz3 : w3.heap.size = bs + 1 := by rw [← hw3]; simp [hbs]
  have hb3 : Below bs w2 w3 := by rw [← hw3]; exact (Below.refl _ _).alloc (by omega) _
  have c3 : w3.cell? ⟨bs, 0, none⟩ = some (ptrV b) := by rw [← hw3, Lib.cell_of_heap (alloc_at hbs.symm)]; rfl
  have st3 : St n (fun _ => False) W0 [91] w3 := ST2.out.below (by rw [hbs]; exact hb3)
  have hk23 := ST2.out.2.size
  have hbw3 : Below n w w3 := HB0.out.trans ((ST2.out.2.below (by omega) (fun x hx => by rcases hx with hx | hx; omega; exact hx.elim)).trans (hb3.mono (by omega)))
  have hTb : PTab w3 := HT.out.below hpt hbw3
  have hit := spans_iter l bs b g w3 c3 ⟨ao, cap, HROW.out w3 (by rw [HN.out]; exact hbw3)⟩ HC.out hTb
  obtain ⟨Y2, hY2⟩ : ∃ Y2 : Nat → Prop, Y2 = fun x => (n + 1 ≤ x ∧ x < bs) := ⟨_, rfl⟩
  have bld3 : Bld n Y2 [91] w3 := by
    have h1 := ST2.out.1.lt
    have h2 : Bld n Y2 [91] w2 := by
      obtain ⟨p, v, hp, hh, ho, hne, hy⟩ := h1
      exact ⟨p, v, hp, hh, ho, hne, fun g hg => by have := hy g hg; rw [hY2]; rcases this with ⟨hx | hx, hx2⟩; exact hx.elim; exact ⟨by omega, by omega⟩⟩
    exact h2.keep (X := fun _ => False) (.of_all (by rw [hbs]; exact hb3)) (fun h => h) (fun _ _ h => h)
  have HIT := Lib.hid hit
  have HB3 := Lib.hid hbw3
  have BLD3 := Lib.hid bld3
  clear hw3 hb3 c3 st3 hbw3 hTb hit bld3
  have hY2r : ∀ x, Y2 x → n + 1 ≤ x ∧ x < bs := fun x hx => by rw [hY2] at hx; exact hx
  clear hY2
  gi_wp2_with fail
  refine loop_out (gf := 104) (lb := #[.pointer (some ⟨bs, 0, none⟩)]) (encs := encS) rfl enters_spans
    HIT.out (fun _ => rfl) (X := fun x => x = n ∨ Y2 x)
    (fun x hx => by rcases hx with hx | hx; omega; have := hY2r x hx; omega) (fun x hx => ?nd) (fun _ _ => rfl) (Nat.le_refl _)
    (fun pre Y W => Bld n (fun x => Y2 x ∨ Y x) (91 :: printL pre) W)
    (fun _ _ _ _ => False)
    (fun pre Y W W' hk h' => h'.keep hk (fun hx => by have := hx.1; omega) (fun x hx hy => by rcases hx with hx | hx; have := hY2r x hx; have := hy.1; omega; exact hy.2 hx))
    (fun _ _ _ _ _ _ h => h) (BLD3.out.weaken fun x hx => .inl hx) ?round ?done ?stop
  case stop => intro D c pre Y W _ _ _ h; exact h.elim
  case nd =>
    rcases hx with rfl | rfl | rfl | rfl
    · exact ⟨fun hx => by rcases hx with hx | hx; omega; have := hY2r _ hx; omega, by omega⟩
    · exact ⟨fun hx => by rcases hx with hx | hx; omega; have := hY2r _ hx; omega, by omega⟩
    · exact ⟨fun hx => by rcases hx with hx | hx; omega; have := hY2r _ hx; omega, by omega⟩
    · exact ⟨fun hx => by rcases hx with hx | hx; omega; have := hY2r _ hx; omega, by omega⟩
  case round =>
    rintro l' hl' pre ⟨lo, hi⟩ Y W hpre hi' hk hY hlt hr
    have hbd : Bld n (fun x => Y2 x ∨ Y x) (91 :: printL pre) W := hi'
    have hW := hk.size
    obtain ⟨a, ha⟩ : ∃ a, W.heap.size = a := ⟨_, rfl⟩
    have hrange : (0 ≤ lo ∧ lo ≤ 1114367) ∧ (0 ≤ hi ∧ hi ≤ 1114367) := by
      obtain ⟨rest, hrest⟩ := hpre
      have hm : (lo, hi) ∈ spansL l := by rw [← hrest]; simp
      obtain ⟨r, hr1, hr2⟩ := List.mem_map.1 hm
      have hf := Canon.fit HC.out r hr1
      unfold spanP at hr2
      cases hr2
      exact ⟨pntI_bd (by omega), pntI_bd (by omega)⟩
    have hlenP : (91 :: printL pre).length ≤ 27 * 1112192 + 1 := by
      obtain ⟨rest, hrest⟩ := hpre
      have h1 := printL_len pre
      have h2 : (spansL l).length = l.length := by simp [spansL]
      have h3 : pre.length ≤ l.length := by rw [← h2, ← hrest]; simp
      simp only [List.length_cons]; omega
    have hp1 := printP_len lo
    have hp2 := printP_len hi
    have HY := Lib.hid hY
    have HBD := Lib.hid hbd
    have HR := Lib.hid hr
    have HK := Lib.hid hk
    clear hi' hk hpre hY hr hbd
    simp only [encS]
    gi_wp2
    (try rw [ha])
    refine ⟨(Keep.refl _ _).alloc _, ?_⟩
    rintro W2 hk1 hk2 _ hr2
    have hsz := hk1.size
    simp at hsz
    have c5 : W2.cell? ⟨a, 0, none⟩ = some (.int .i32 lo) := hk1.cell (by rw [Lib.cell_of_heap (alloc_at ha.symm)]; rfl) (fun h => by have h : a = l' := h; omega)
    have c6 : W2.cell? ⟨a, 1, none⟩ = some (.int .i32 hi) := hk1.cell (by rw [Lib.cell_of_heap (alloc_at ha.symm)]; rfl) (fun h => by have h : a = l' := h; omega)
    have hkl : Keep (fun b => b = l') W W2 := ((Keep.refl (fun b => b = l') W).alloc _).trans hk1
    have hb2 : Below n w W2 := HB3.out.trans (hk2.below (by omega) (fun x hx => by rcases hx with hx | hx; omega; have := hY2r x hx; omega))
    have hbt2 : BTab W2 := fun k hk => (hb2.cell (p := ⟨7, k, none⟩) hbt).trans (HB.out k hk)
    have stA : St n (fun x => (Y2 x ∨ Y x) ∧ x < a) W2 (91 :: printL pre) W2 := by
      have h1 := HBD.out.lt
      rw [ha] at h1
      exact St.start (h1.keep hkl (fun h => by have h : n = l' := h; omega) (fun x hx hy => by
        have hy : x = l' := hy
        rcases hx.1 with hz | hz
        · have := hY2r x hz; omega
        · exact (HY.out x hz).2 hy))
    have CC : Hid (∀ (acc : List UInt8) (V : World), St n (fun x => (Y2 x ∨ Y x) ∧ x < a) W2 acc V → V.cell? ⟨a, 0, none⟩ = some (.int .i32 lo) ∧ V.cell? ⟨a, 1, none⟩ = some (.int .i32 hi) ∧ BTab V) := Lib.hid fun acc V hS => by
      have hx : ¬ (a = n ∨ ((Y2 a ∨ Y a) ∧ a < a)) := fun h => by rcases h with h | h; omega; exact absurd h.2 (Nat.lt_irrefl _)
      refine ⟨hS.2.cell (p := ⟨a, 0, none⟩) c5 hx, hS.2.cell (p := ⟨a, 1, none⟩) c6 hx, fun k hk => ((hS.2.below (n := n) (by omega) (fun x hx => ?_)).cell (p := ⟨7, k, none⟩) hbt).trans (hbt2 k hk)⟩
      rcases hx with hx | ⟨hx | hx, _⟩
      · omega
      · have := hY2r x hx; omega
      · have := (HY.out x hx).1; omega
    have FIN : Hid (∀ (V : World), St n (fun x => (Y2 x ∨ Y x) ∧ x < a) W2 (91 :: printL pre ++ printS (lo, hi)) V → Kt.Left (fun x => x = n ∨ Y2 x) Y (fun pre Y W => Bld n (fun x => Y2 x ∨ Y x) (91 :: printL pre) W) (pre ++ [(lo, hi)]) W2 V) := Lib.hid fun V hS => by
      refine ⟨fun x => Y x ∨ W2.heap.size ≤ x, hS.2.weaken (fun x _ hx => ?_), fun x hx => hx, ?_⟩
      · rcases hx with hx | ⟨hx | hx, _⟩
        · exact .inl (.inl hx)
        · exact .inl (.inr hx)
        · exact .inr hx
      · show Bld n (fun x => Y2 x ∨ (Y x ∨ W2.heap.size ≤ x)) (91 :: printL (pre ++ [(lo, hi)])) V
        rw [printL_snoc]
        exact hS.1.weaken fun x hx => by
          rcases hx with ⟨hx | hx, _⟩ | hx
          · exact .inl hx
          · exact .inr (.inl hx)
          · exact .inr (.inr hx)
    have STA := Lib.hid stA
    have HB2 := Lib.hid hbt2
    clear stA hbt2 hb2 hkl hk1 hk2 hr2 hsz
    gi_wp2_with fail
    refine (CallsIn.inRound l' (callsIn_wide.2 (rprinted_any lo W2 HB2.out hrange.1))).mono ?_
    rintro e V1 ⟨rfl, hb1⟩
    have st1 := STA.out.below hb1
    obtain ⟨d5, d6, _⟩ := CC.out _ _ st1
    have C1 := Lib.hid (st1.ws (printP lo) (by omega))
    clear st1 hb1 c5 c6
    gi_wp2_with fail
    refine (CallsIn.inRound l' (callsIn_wide.2 C1.out)).mono ?_
    rintro e V2 ⟨rfl, st2⟩
    obtain ⟨c5, c6, _⟩ := CC.out _ _ st2
    clear d5 d6
    by_cases hh : hi = lo
    · have e1 : (hi != lo) = false := by simp [hh]
      have hps : printS (lo, hi) = printP lo := by unfold printS; rw [if_pos hh, List.append_nil]
      have HF := Lib.hid (FIN.out V2 (by rw [hps]; exact st2))
      clear st2 hh hps
      gi_wp2_with fail
      exact HF.out
    · have e1 : (hi != lo) = true := by simp [hh]
      have hps : printS (lo, hi) = printP lo ++ [UInt8.ofNat 45] ++ printP hi := by unfold printS; rw [if_neg hh]; simp
      have HPS := Lib.hid hps
      have C2 := Lib.hid (st2.wb 45 (by decide) (by simp only [List.length_append]; omega))
      clear st2 hh hps
      gi_wp2_with fail
      refine (CallsIn.inRound l' (callsIn_wide.2 C2.out)).mono ?_
      rintro e V3 ⟨rfl, st3⟩
      obtain ⟨d5, d6, hbt3⟩ := CC.out _ _ st3
      have HB3' := Lib.hid hbt3
      have ST3 := Lib.hid st3
      clear hbt3 st3 c5 c6
      gi_wp2_with fail
      refine (CallsIn.inRound l' (callsIn_wide.2 (rprinted_any hi V3 HB3'.out hrange.2))).mono ?_
      rintro e V4 ⟨rfl, hb4⟩
      have C4 := Lib.hid ((ST3.out.below hb4).ws (printP hi) (by simp only [List.length_append, List.length_cons, List.length_nil] at hlenP ⊢; omega))
      clear hb4 d5 d6
      gi_wp2_with fail
      refine (CallsIn.inRound l' (callsIn_wide.2 C4.out)).mono ?_
      rintro e V5 ⟨rfl, st5⟩
      have HF := Lib.hid (FIN.out V5 (by rw [HPS.out]; simpa using st5))
      clear st5
      gi_wp2_with fail
      exact HF.out
  case done =>
    rintro D Y W hD hDd hbd hY hkW
    have hlenP : (91 :: printL (spansL l)).length ≤ 27 * 1112192 + 1 := by
      have h1 := printL_len (spansL l)
      have h2 : (spansL l).length = l.length := by simp [spansL]
      simp only [List.length_cons]; omega
    have hsW := hkW.size
    have hYn : ∀ x, (Y2 x ∨ Y x) → n ≤ x ∧ x ≠ D ∧ x ≠ n := fun x hx => by
      rcases hx with hx | hx
      · have := hY2r x hx; exact ⟨by omega, by omega, by omega⟩
      · have := hY x hx; exact ⟨by omega, this.2, by omega⟩
    have hbW : Below n w W := HB3.out.trans (hkW.below (by omega) (fun x hx => by rcases hx with hx | hx; omega; have := hY2r x hx; omega))
    have stD : St n (fun x => Y2 x ∨ Y x) W (91 :: printL (spansL l)) W := St.start hbd
    have C1 := Lib.hid (stD.wb 93 (by decide) (by omega))
    have HD := Lib.hid (And.intro hDd (And.intro hYn hbW))
    clear stD hbd hDd hYn hbW hkW hY
    gi_wp2_with fail
    refine (callsIn_wide.2 C1.out).mono ?_
    rintro e V1 ⟨rfl, st1⟩
    obtain ⟨hDd, hYn, hbW⟩ := HD.out
    have hs1 := st1.2.size
    have hD1 : V1.heap[D]? = some (.deferred (some [])) := st1.2.heap hDd (fun h => by rcases h with h | h; omega; exact (hYn D h).2.1 rfl)
    have hb1 : Below n w V1 := hbW.trans (st1.2.below (by omega) (fun x hx => by rcases hx with hx | hx; omega; exact (hYn x hx).1))
    have C2 := Lib.hid (string_x n _ _ V1 st1.1 n (by omega) (Nat.le_refl _) (fun x hx => by rcases hx with hx | hx; exact (hYn x hx).1; omega))
    have HH := Lib.hid (And.intro hD1 hb1)
    clear hDd hYn hbW st1 hD1 hb1
    gi_wp2_with fail
    refine (callsIn_wide.2 C2.out).mono ?_
    rintro e V2 ⟨rfl, hb2, ho2⟩
    have hD2 : V2.heap[D]? = some (.deferred (some [])) := ho2 D _ HH.out.1 (by simp; omega) (by intro c fz h; cases h)
    have hs2 := hb2.size
    have HF := Lib.hid (And.intro hD2 (HH.out.2.trans hb2))
    clear hb2 ho2 hD2
    gi_wp2_with fail
    refine leaves_marks (Ds := [D]) (by simp) (fun D' h => by simp at h; subst h; exact HF.out.1) (fun W' hk' => ⟨_, results_tmp rfl _ _ _, ?_, ?_⟩)
    · rfl
    · exact HF.out.2.trans (hk'.below (by omega) (fun x hx => by have hx : x = D := by simpa using hx
                                                                 omega))
end Go.Proofs.YtjbkpcdpdifpnaaGreatDoor
/- The contracts of slices.SortFunc at runs and of cmp.Compare at int, laid over this translation (in plain words). -/
namespace Go.Proofs
open Go.Shelf
def Tryz.laysSort_ren : Go.Shelf.Ren := ⟨fun | 6 => 96 | 15 => 135 | 14 => 134 | 28 => 151 | 29 => 152 | 20 => 143 | 21 => 144 | 22 => 145 | 23 => 146 | 24 => 147 | 25 => 148 | 26 => 149 | 27 => 150 | 46 => 166 | 47 => 167 | 48 => 168 | 49 => 169 | 50 => 170 | 57 => 181 | n => n, fun | 22 => 91 | 24 => 98 | 25 => 161 | 3 => 3 | 39 => 246 | 0 => 0 | 53 => 192 | 55 => 173 | 4 => 4 | 46 => 263 | 45 => 262 | 50 => 92 | 5 => 5 | 9 => 9 | 66 => 293 | 70 => 297 | 76 => 320 | 77 => 154 | n => n, fun | n => n⟩
theorem Tryz.laysSort : Go.Proofs.SlLaysF0.n6 Tryz.prog Tryz.laysSort_ren := {
  mixed := by kernel_rfl
  f6 := ⟨Tryz.f96.name, by decide, Tryz.func96.trans (congrArg some (by kernel_rfl))⟩
  f14 := ⟨Tryz.f134.name, by decide, Tryz.func134.trans (congrArg some (by kernel_rfl))⟩
  f15 := Tryz.func135.trans (congrArg some (by kernel_rfl))
  f20 := ⟨Tryz.f143.name, by decide, Tryz.func143.trans (congrArg some (by kernel_rfl))⟩
  f21 := ⟨Tryz.f144.name, by decide, Tryz.func144.trans (congrArg some (by kernel_rfl))⟩
  f22 := ⟨Tryz.f145.name, by decide, Tryz.func145.trans (congrArg some (by kernel_rfl))⟩
  f23 := ⟨Tryz.f146.name, by decide, Tryz.func146.trans (congrArg some (by kernel_rfl))⟩
  f24 := ⟨Tryz.f147.name, by decide, Tryz.func147.trans (congrArg some (by kernel_rfl))⟩
  f25 := ⟨Tryz.f148.name, by decide, Tryz.func148.trans (congrArg some (by kernel_rfl))⟩
  f26 := ⟨Tryz.f149.name, by decide, Tryz.func149.trans (congrArg some (by kernel_rfl))⟩
  f27 := ⟨Tryz.f150.name, by decide, Tryz.func150.trans (congrArg some (by kernel_rfl))⟩
  f28 := Tryz.func151.trans (congrArg some (by kernel_rfl))
  f29 := Tryz.func152.trans (congrArg some (by kernel_rfl))
  f46 := ⟨Tryz.f166.name, by decide, Tryz.func166.trans (congrArg some (by kernel_rfl))⟩
  f47 := Tryz.func167.trans (congrArg some (by kernel_rfl))
  f48 := Tryz.func168.trans (congrArg some (by kernel_rfl))
  f49 := ⟨Tryz.f169.name, by decide, Tryz.func169.trans (congrArg some (by kernel_rfl))⟩
  f50 := ⟨Tryz.f170.name, by decide, Tryz.func170.trans (congrArg some (by kernel_rfl))⟩
  f57 := ⟨Tryz.f181.name, by decide, Tryz.func181.trans (congrArg some (by kernel_rfl))⟩
  t0 := Tryz.underlying0
  a0 := Tryz.isAgg0
  z0 := Tryz.sizeOf0
  v0 := Tryz.zeroValue0
  t3 := Tryz.underlying3
  a3 := Tryz.isAgg3
  z3 := Tryz.sizeOf3
  v3 := Tryz.zeroValue3
  t4 := Tryz.underlying4
  a4 := Tryz.isAgg4
  z4 := Tryz.sizeOf4
  v4 := Tryz.zeroValue4
  t5 := Tryz.underlying5
  a5 := Tryz.isAgg5
  z5 := Tryz.sizeOf5
  v5 := Tryz.zeroValue5
  t9 := Tryz.underlying9
  a9 := Tryz.isAgg9
  z9 := Tryz.sizeOf9
  v9 := Tryz.zeroValue9
  t22 := Tryz.underlying91
  a22 := Tryz.isAgg91
  z22 := Tryz.sizeOf91
  v22 := Tryz.zeroValue91
  t25 := Tryz.underlying161
  a25 := Tryz.isAgg161
  z25 := Tryz.sizeOf161
  v25 := Tryz.zeroValue161
  t39 := Tryz.underlying246
  a39 := Tryz.isAgg246
  z39 := Tryz.sizeOf246
  v39 := Tryz.zeroValue246
  t45 := Tryz.underlying262
  a45 := Tryz.isAgg262
  z45 := Tryz.sizeOf262
  v45 := Tryz.zeroValue262
  t46 := Tryz.underlying263
  a46 := Tryz.isAgg263
  z46 := Tryz.sizeOf263
  v46 := Tryz.zeroValue263
  t50 := Tryz.underlying92
  a50 := Tryz.isAgg92
  z50 := Tryz.sizeOf92
  v50 := Tryz.zeroValue92
  t53 := Tryz.underlying192
  a53 := Tryz.isAgg192
  z53 := Tryz.sizeOf192
  v53 := Tryz.zeroValue192
  t55 := Tryz.underlying173
  a55 := Tryz.isAgg173
  z55 := Tryz.sizeOf173
  v55 := Tryz.zeroValue173
  t66 := Tryz.underlying293
  a66 := Tryz.isAgg293
  z66 := Tryz.sizeOf293
  v66 := Tryz.zeroValue293
  t70 := Tryz.underlying297
  a70 := Tryz.isAgg297
  z70 := Tryz.sizeOf297
  v70 := Tryz.zeroValue297
  t76 := Tryz.underlying320
  a76 := Tryz.isAgg320
  z76 := Tryz.sizeOf320
  v76 := Tryz.zeroValue320
  t77 := Tryz.underlying154
  a77 := Tryz.isAgg154
  z77 := Tryz.sizeOf154
  v77 := Tryz.zeroValue154 }
def Tryz.laysCmp_ren : Go.Shelf.Ren := ⟨fun | 5 => 98 | 7 => 136 | n => n, fun | 22 => 3 | 3 => 3 | 4 => 4 | n => n, fun | n => n⟩
theorem Tryz.laysCmp : Go.Proofs.SlLaysC2.n5 Tryz.prog Tryz.laysCmp_ren := {
  mixed := by kernel_rfl
  f5 := ⟨Tryz.f98.name, by decide, Tryz.func98.trans (congrArg some (by kernel_rfl))⟩
  f7 := ⟨Tryz.f136.name, by decide, Tryz.func136.trans (congrArg some (by kernel_rfl))⟩
  t3 := Tryz.underlying3
  a3 := Tryz.isAgg3
  z3 := Tryz.sizeOf3
  v3 := Tryz.zeroValue3
  t4 := Tryz.underlying4
  a4 := Tryz.isAgg4
  z4 := Tryz.sizeOf4
  v4 := Tryz.zeroValue4
  t22 := Tryz.underlying3
  a22 := Tryz.isAgg3
  z22 := Tryz.sizeOf3
  v22 := Tryz.zeroValue3 }
theorem Tryz.cmp_Compare_int (x y : Int) (w : World) :
    Calls Tryz.prog 98 #[.int .i64 x, .int .i64 y] w fun e w' => e = .returned (.int .i64 (Lib.compareInt x y)) ∧ w' = w := AnyG.cmp_Compare_int Tryz.laysCmp x y w
end Go.Proofs
/- Runs sorted and melted. -/
namespace Go.Proofs.YtjbkpcdpdifpnaaGreatDoor
open Go Go.RowKit Go.Kt Go.Kt.Rg Go.Shelf Go.Lib Go.Sort

def encI (x : Run) : List Value := [.int .i64 x.1, .int .i64 x.2]
abbrev cmpR (x y : Run) : Int := Lib.compareInt x.1 y.1
theorem ltR (x y : Run) : ltOf cmpR x y = decide (x.1 < y.1) := by
  unfold ltOf cmpR Lib.compareInt
  by_cases h1 : x.1 < y.1
  · simp [h1]
  · by_cases h2 : y.1 < x.1 <;> simp [h1, h2]
theorem swoR : SWO (ltOf cmpR) where
  irrefl x := by rw [ltR]; simp
  trans x y z h1 h2 := by rw [ltR] at *; simp at *; omega
  ntrans x y z h1 h2 := by rw [ltR] at *; simp at *; omega

set_option maxHeartbeats 1000000 in
theorem rmelt1_any (x y : Run) (W : World) : Calls Tryz.prog 97 #[.agg #[.int .i64 x.1, .int .i64 x.2], .agg #[.int .i64 y.1, .int .i64 y.2]] W fun e w' => e = .returned (.int .i64 (cmpR x y)) ∧ ∃ q os', w' = grow (W.drewN q) os' := by
  have hcon := fun W' => Tryz.cmp_Compare_int x.1 y.1 W'
  unfold cmpR
  generalize Lib.compareInt x.1 y.1 = r at hcon ⊢
  go_enter Tryz.func97, Tryz.ntmps97
  go_wp2_with (go_at_call 98; refine (hcon _).mono ?_; rintro e w' ⟨rfl, rfl⟩)
  go_ret
  exact ⟨rfl, 0, _, by rw [alloc_eq_grow, alloc_eq_grow, grow_grow]; rfl⟩

theorem holds_of_own {Y : Nat → Prop} {g n cap : Nat} {l : List Run} {W : World} (h : OwnS Y 98 2 (.slice (some ⟨g, 0, none⟩) n cap) n (encR l) W) : HoldsK encI 2 W g 0 l.toArray := by
  intro j hj
  rw [size_flatK] at hj
  have hj' : j < l.length * 2 := by simpa using hj
  rw [get_flatK _ _ _ _ hj, Nat.zero_add]
  obtain ⟨x, hx⟩ : ∃ x, l[j / 2]? = some x := ⟨_, List.getElem?_eq_getElem (by omega)⟩
  have e0 : l.toArray[j / 2]! = x := by
    obtain ⟨h1, rfl⟩ := List.getElem?_eq_some_iff.1 hx
    rw [getElem!_pos _ _ (by simpa using h1)]
    simp
  rw [e0]
  have e := encR_get l (j / 2) x hx
  refine ⟨?_, ?_⟩
  · rcases (by omega : j % 2 = 0 ∨ j % 2 = 1) with k | k
    · have c1 := h.1.cells (g := g) rfl _ _ e.1
      rw [Addr.add_lit, Nat.zero_add, show j / 2 * 2 = j by omega] at c1
      rw [k]; exact c1
    · have c1 := h.1.cells (g := g) rfl _ _ e.2
      rw [Addr.add_lit, Nat.zero_add, show j / 2 * 2 + 1 = j by omega] at c1
      rw [k]; exact c1
  · rcases h.1.2 with ⟨h1, _⟩ | ⟨g', cap', cur, h1, _, hg, _⟩
    · cases h1
    · injection h1 with e1 _ _
      injection e1 with e1
      injection e1 with e1
      subst e1
      exact Lib.frozen_of_heap hg j

theorem keep_sorted {w : World} {g m : Nat} {d : Array Run} {os : Array Obj} : Keep (fun b => b = g) w (sortWorldK encI 2 w g 0 m d os) := by
  refine ⟨rfl, rfl, rfl, size_sortWorldK_c _ _ _ _ _ _ _ _, fun b hb hne => ?_⟩
  unfold sortWorldK putRowK
  rw [heap_grow_old _ _ (by rw [size_putRow]; exact hb)]
  show (w.heap.modify g _)[b]? = _
  rw [Array.getElem?_modify, if_neg (fun e => hne e.symm)]

theorem sort_any (l : List Run) (g cap : Nat) {Y : Nat → Prop} (w : World) (h : OwnS Y 98 2 (.slice (some ⟨g, 0, none⟩) l.length cap) l.length (encR l) w) (hl : l.length ≤ 2199023255552) :
    Calls Tryz.prog 96 #[.slice (some ⟨g, 0, none⟩) l.length cap, .func (.func 97) #[] #[]] w fun e w' => e = .returned (.tuple #[]) ∧
      ∃ s : List Run, s.Perm l ∧ Rises s ∧ SlR w' (.slice (some ⟨g, 0, none⟩) l.length cap) s ∧ Keep (fun b => b = g) w w' := by
  have hH := holds_of_own h
  have hg := own_ne h rfl
  have hcon := AnyQ.slices_SortFunc Tryz.laysSort 2 Tryz.isAgg98 Tryz.sizeOf98 encI (fun _ => rfl) (fun x v hv => by simp [encI] at hv; rcases hv with rfl | rfl <;> rfl) cmpR swoR 97 #[] g 0 cap l.toArray w
    (enters_of Tryz.func97 (by kernel_rfl) rfl) (fun _ _ _ _ x y => rmelt1_any x y _) hH hg (by simp; omega)
  have hsz : l.toArray.size = l.length := by simp
  rw [hsz] at hcon
  refine Calls.mono hcon ?_
  rintro e w' ⟨rfl, d', m, os, hp, hs, rfl⟩
  refine ⟨rfl, d'.toList, ?_, ?_, ?_, keep_sorted⟩
  · have := hp.2.2
    have e1 : d'.extract 0 l.length = d' := by rw [← hsz, ← hp.1]; simp
    have e2 : l.toArray.extract 0 l.length = l.toArray := by rw [← hsz]; simp
    rw [e1, e2] at this
    simpa using this
  · refine List.pairwise_iff_getElem.2 fun i j hi hj hij => ?_
    have hz : d'.size = l.length := hp.1.trans hsz
    have := hs i j (Nat.zero_le _) hij (by simp at hj; omega)
    rw [ltR, getElem!_pos _ _ (by simpa using hj), getElem!_pos _ _ (by simpa using hi)] at this
    simp at this
    simpa using this
  · have hz : d'.size = l.length := hp.1.trans hsz
    have hHd := holdsK_sortWorldK_c encI 2 w g 0 l.toArray d' m os hH hg hp.1
    refine ⟨some ⟨g, 0, none⟩, cap, by simp [hz], .inr ⟨g, rfl, fun i x hx => ?_⟩⟩
    obtain ⟨hi, rfl⟩ := List.getElem?_eq_some_iff.1 hx
    have hi' : i < d'.size := by simpa using hi
    have c0 := (hHd.cell hi' (c := 0) (by omega)).1
    have c1 := (hHd.cell hi' (c := 1) (by omega)).1
    rw [getElem!_pos d' i hi', Nat.zero_add] at c0 c1
    exact ⟨by simpa [encI] using c0, by simpa [encI] using c1⟩
theorem sort_none (p : Option Addr) (cap : Nat) (w : World) :
    Calls Tryz.prog 96 #[.slice p 0 cap, .func (.func 97) #[] #[]] w fun e w' => e = .returned (.tuple #[]) ∧ w' = w :=
  AnyF.slices_SortFunc_none Tryz.laysSort p cap _ w
end Go.Proofs.YtjbkpcdpdifpnaaGreatDoor
/- ranges.melted. -/
namespace Go.Proofs.YtjbkpcdpdifpnaaGreatDoor
open Go Go.RowKit Go.Kt Go.Kt.Rg

theorem encR_set (l : List Run) (c : Run) (u : Int) : (encR (l ++ [c])).set (l.length * 2 + 1) (.int .i64 u) = encR (l ++ [(c.1, u)]) := by
  rw [encR_snoc, encR_snoc, List.set_append_right _ _ (by rw [encR_len]; omega), encR_len]
  rw [show l.length * 2 + 1 - l.length * 2 = 1 by omega]
  rfl
theorem own_empty {Y : Nat → Prop} {e : TypeId} {size n : Nat} {ao : Option Addr} {cap : Nat} {xs : List Value} {W : World} (h : OwnS Y e size (.slice ao n cap) n xs W) : (ao = none ∧ n = 0 ∧ cap = 0) ∨ ∃ g, ao = some ⟨g, 0, none⟩ ∧ g < W.heap.size ∧ Y g := by
  rcases h.shape with ⟨h1, h2⟩ | ⟨g, cp, h1, h2, h3⟩
  · injection h1 with e1 e2 e3
    exact .inl ⟨e1, h2, e3⟩
  · injection h1 with e1 _ _
    exact .inr ⟨g, e1, h3, h2⟩

def MadeR (l : List Run) (Z : Nat → Prop) (w : World) (e : Ending) (w' : World) : Prop :=
  ∃ ao m cap, e = .returned (.slice ao m cap) ∧ m = l.length ∧ OwnS (fun b => w.heap.size ≤ b) 98 2 (.slice ao m cap) m (encR l) w' ∧ Keep Z w w'

set_option maxRecDepth 100000 in
set_option maxHeartbeats 2000000 in
theorem melted_loop (l : List Run) (ao : Option Addr) (n cap : Nat) (Z : Nat → Prop) (w : World) (hn : l.length = n) (hl : n ≤ 2199023255552) (hF : Fit l)
    (C : Calls Tryz.prog 96 #[.slice ao n cap, .func (.func 97) #[] #[]] w fun e w' => e = .returned (.tuple #[]) ∧ ∃ s : List Run, s.Perm l ∧ Rises s ∧ SlR w' (.slice ao n cap) s ∧ Keep Z w w') :
    Calls Tryz.prog 42 #[.slice ao n cap] w (MadeR (canonOf l) Z w) := by
  have HC := Lib.hid C
  have HF := Lib.hid hF
  clear C hF
  go_enter Tryz.func42, Tryz.ntmps42
  go_wp2_with fail
  refine HC.out.mono ?_
  rintro e w' ⟨rfl, s, hp, hr, hS, hK⟩
  have HN : Hid (s.length = n) := Lib.hid (hp.length_eq.trans hn)
  have hme := melt_any HF.out hp hr
  have HE := Lib.hid hme
  have hfs := HF.out.perm hp
  have HS := Lib.hid hS
  have HK := Lib.hid (And.intro hK hfs)
  clear hp hr hS hK hme hn hfs
  go_wp2_with fail
  go_loopw [3, 11] (fun o x wr => ∃ (k m cp : Nat) (ap : Option Addr) (M : List Run), x = .int .i64 k ∧ k ≤ n ∧ o = .slice ap m cp ∧ m = M.length ∧ m ≤ k ∧ OwnS (fun b => w'.heap.size ≤ b) 98 2 (.slice ap m cp) m (encR M) wr ∧ Below w'.heap.size w' wr ∧
      ((k = 0 ∧ M = []) ∨ ∃ done c, M = done ++ [c] ∧ 0 < k ∧ done ++ meltF c (s.drop k) = melt s)) (fun _ x _ => n - (RowKit.intOf x).toNat)
  case atStart => exact ⟨0, 0, 0, none, [], rfl, by omega, rfl, rfl, by omega, own_nil _ _ _ _, Below.refl _ _, .inl ⟨rfl, rfl⟩⟩
  case round =>
    obtain ⟨k, m, cp, ap, M, rfl, hk, rfl, hm, hmk, hown, hb, hM⟩ := hrel
    have hbs := hb.size
    have HM := Lib.hid hm
    have HI := Lib.hid (And.intro hown (And.intro hb hM))
    clear hm hown hb hM
    by_cases hlt : k < n
    · have hlt' : (k : Int) < n := by omega
      obtain ⟨x, hx⟩ : ∃ x, s[k]? = some x := ⟨_, List.getElem?_eq_getElem (by rw [HN.out]; exact hlt)⟩
      obtain ⟨g, rfl, r1, r2⟩ := (HS.out.below HI.out.2.1).at_ hx
      have hdr : s.drop k = x :: s.drop (k + 1) := by
        obtain ⟨hkl, rfl⟩ := List.getElem?_eq_some_iff.1 hx
        exact List.drop_eq_getElem_cons hkl
      have HD := Lib.hid hdr
      have HX := Lib.hid hx
      clear hx hdr
      obtain ⟨x1, x2⟩ := x
      simp only at r1 r2
      have WF : Hid (∀ q, ∃ V, (wr.alloc (.cells #[.int .i64 x1, .int .i64 x2] 98)).drewN q = V ∧ V.heap.size = wr.heap.size + 1 ∧ Below w'.heap.size w' V ∧ V.cell? ⟨wr.heap.size, 0, none⟩ = some (.int .i64 x1) ∧ V.cell? ⟨wr.heap.size, 1, none⟩ = some (.int .i64 x2) ∧
          OwnS (fun b => w'.heap.size ≤ b) 98 2 (.slice ap m cp) m (encR M) V) := Lib.hid fun q => by
        refine ⟨_, rfl, by show (wr.alloc _).heap.size = _; simp, below_drewN (HI.out.2.1.alloc hbs _) _, ?_, ?_, ?_⟩
        · show (wr.alloc _).cell? _ = _; rw [Lib.cell_of_heap (World.alloc_heap_new wr _)]; rfl
        · show (wr.alloc _).cell? _ = _; rw [Lib.cell_of_heap (World.alloc_heap_new wr _)]; rfl
        · have h1 : OwnS (fun b => w'.heap.size ≤ b) 98 2 (.slice ap m cp) m (encR M) (wr.alloc (.cells #[.int .i64 x1, .int .i64 x2] 98)) := ⟨HI.out.1.1.alloc _, HI.out.1.2⟩
          exact h1.keep (X := fun _ => False) (.of_all (below_drewN (Below.refl _ _) _)) (fun _ h => h.elim)
      rcases HI.out.2.2 with ⟨hk0, hM0⟩ | ⟨done, c, hMd, hk0, hd⟩
      · subst hM0
        subst hk0
        have hm0 : m = 0 := HM.out
        subst hm0
        have hd : meltF (x1, x2) (s.drop 1) = melt s := by
          have : s = (x1, x2) :: s.drop 1 := by have := HD.out; simpa using this
          conv => rhs; rw [this, melt]
        have HG := Lib.hid hd
        clear hd
        go_wp2_with fail
        go_quiet (fail)
        obtain ⟨V, hV, hzV, hbV, u1, u2, hownV⟩ := WF.out nq
        obtain ⟨g2, cap2, w2, hrun2, hown2, hb2, hz2, hk2⟩ := append_run hownV hbV (by rw [hzV]; omega) (x1, x2) (by omega)
        rw [hzV, ← hV] at hrun2
        have HRun2 := Lib.hid hrun2
        have HO := Lib.hid (And.intro hown2 hb2)
        clear hrun2 hown2 hb2 hz2 hk2 hownV hbV hV hzV u1 u2
        go_wp2_with (at_builtin; refine wpList_append_eq rfl rfl rfl rfl HRun2.out ?_)
        go_roundw
        case rel => exact ⟨1, 1, cap2, some ⟨g2, 0, none⟩, [(x1, x2)], rfl, by omega, rfl, rfl, by omega, HO.out.1, HO.out.2, .inr ⟨[], (x1, x2), rfl, by omega, HG.out⟩⟩
        case measure => simp [RowKit.intOf]; omega
      · subst hMd
        obtain ⟨p, rfl⟩ : ∃ p, m = p + 1 := ⟨done.length, by have := HM.out; simp at this; exact this⟩
        have hpl : p = done.length := by have := HM.out; simp at this; exact this
        have HPL := Lib.hid hpl
        obtain ⟨g2, rfl, r3, r4⟩ := (slr_of_own HI.out.1 HM.out).at_ (i := p) (x := c) (by rw [hpl]; simp)
        have l2 : g2 < wr.heap.size := lt_of_cell r3
        have hfz : wr.frozen? ⟨g2, p * 2 + 1, none⟩ = false := HI.out.1.1.frozenAt _
        obtain ⟨c1, c2⟩ := c
        simp only at r3 r4
        rw [HD.out, meltF] at hd
        simp only at hd
        clear hpl
        by_cases hle : x1 ≤ c2
        · rw [if_pos hle] at hd
          have hdec : decide (x1 ≤ c2) = true := decide_eq_true hle
          have HG := Lib.hid hd
          clear hd
          go_wp2_with fail
          go_quiet (fail)
          go_wp2_with fail
          go_region
          obtain ⟨V, hV, hzV, hbV, u1, u2, hownV⟩ := WF.out (nq + 1)
          rw [hV]
          have hst := (hownV.1.stored (p * 2 + 1) (.int .i64 (max c2 x2))).1
          rw [HPL.out, encR_set, ← HPL.out] at hst
          have hown3 : OwnS (fun b => w'.heap.size ≤ b) 98 2 (.slice (some ⟨g2, 0, none⟩) (p + 1) cp) (p + 1) (encR (done ++ [(c1, max c2 x2)])) (V.setCell ⟨g2, p * 2 + 1, none⟩ (.int .i64 (max c2 x2))) := ⟨hst, hownV.2⟩
          have hb3 : Below w'.heap.size w' (V.setCell ⟨g2, p * 2 + 1, none⟩ (.int .i64 (max c2 x2))) := hbV.setCell (HI.out.1.2 g2 rfl) _
          have HO := Lib.hid (And.intro hown3 hb3)
          clear hst hown3 hb3 hownV hbV hV hzV u1 u2
          go_wp2_with fail
          go_roundw
          case rel => exact ⟨k + 1, p + 1, cp, some ⟨g2, 0, none⟩, done ++ [(c1, max c2 x2)], by go_num, by omega, rfl, by simp [HPL.out], by omega, HO.out.1, HO.out.2, .inr ⟨done, (c1, max c2 x2), rfl, by omega, HG.out⟩⟩
          case measure => simp [RowKit.intOf]; omega
        · rw [if_neg hle] at hd
          have hdec : decide (x1 ≤ c2) = false := decide_eq_false hle
          have HG := Lib.hid hd
          clear hd
          go_wp2_with fail
          go_quiet (fail)
          obtain ⟨V, hV, hzV, hbV, u1, u2, hownV⟩ := WF.out nq
          obtain ⟨g3, cap2, w2, hrun2, hown2, hb2, hz2, hk2⟩ := append_run hownV hbV (by rw [hzV]; omega) (x1, x2) (by omega)
          rw [hzV, ← hV] at hrun2
          have HRun2 := Lib.hid hrun2
          have HO := Lib.hid (And.intro hown2 hb2)
          clear hrun2 hown2 hb2 hz2 hk2 hownV hbV hV hzV u1 u2
          go_wp2_with (at_builtin; refine wpList_append_eq rfl rfl rfl rfl HRun2.out ?_)
          go_roundw
          case rel => exact ⟨k + 1, p + 1 + 1, cap2, some ⟨g3, 0, none⟩, done ++ [(c1, c2)] ++ [(x1, x2)], by go_num, by omega, rfl, by simp [HPL.out], by omega, HO.out.1, HO.out.2, .inr ⟨done ++ [(c1, c2)], (x1, x2), rfl, by omega, by have := HG.out; simpa using this⟩⟩
          case measure => simp [RowKit.intOf]; omega
    · have hlt' : ¬ (k : Int) < n := by omega
      obtain rfl : k = n := by omega
      have hMm : M = melt s := by
        rcases HI.out.2.2 with ⟨hk0, hM0⟩ | ⟨done, c, hMd, hk0, hd⟩
        · have : s = [] := List.eq_nil_of_length_eq_zero (by rw [HN.out, hk0])
          rw [hM0, this]; rfl
        · have hdr : s.drop k = [] := by rw [← HN.out]; exact List.drop_length
          rw [hdr, meltF] at hd
          rw [hMd]; exact hd
      have HMm := Lib.hid (hMm.trans HE.out)
      clear hMm
      go_wp2_with fail
      go_ret
      have e := HMm.out
      refine ⟨ap, m, cp, rfl, by rw [← e]; exact HM.out, ?_, HK.out.1.trans (Keep.of_all HI.out.2.1)⟩
      rw [← e]
      exact HI.out.1.weaken (fun b h => Nat.le_trans HK.out.1.size h)

theorem rmelted_any (l : List Run) (ao : Option Addr) (n cap : Nat) {Y : Nat → Prop} (w : World) (h : OwnS Y 98 2 (.slice ao n cap) n (encR l) w) (hn : n = l.length) (hl : n ≤ 2199023255552) (hF : Fit l) :
    Calls Tryz.prog 42 #[.slice ao n cap] w (MadeR (canonOf l) (fun b => (Value.slice ao n cap).ownBlock = some b) w) := by
  subst hn
  by_cases h0 : l = []
  · subst h0
    exact melted_loop [] ao 0 cap _ w rfl (by omega) hF ((sort_none ao cap w).mono fun e w' ⟨h1, h2⟩ => ⟨h1, [], List.Perm.refl _, List.Pairwise.nil, ⟨ao, cap, rfl, .inl rfl⟩, by rw [h2]; exact Keep.refl _ _⟩)
  · rcases own_empty h with ⟨_, hn, _⟩ | ⟨g, rfl, _, _⟩
    · exact absurd (List.eq_nil_of_length_eq_zero hn) h0
    · refine melted_loop l (some ⟨g, 0, none⟩) l.length cap _ w rfl hl hF ((sort_any l g cap w h hl).mono ?_)
      rintro e w' ⟨h1, s, h2, h3, h4, h5⟩
      exact ⟨h1, s, h2, h3, h4, h5.weaken fun b _ hb => by rw [hb]; rfl⟩
end Go.Proofs.YtjbkpcdpdifpnaaGreatDoor
