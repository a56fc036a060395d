/- Parts of the proof of what the last text says. -/
import Derived.Test.YtbnnhbmnddaafaaGreatDoorGz3
import Derived.Test.YtbnnhbmnddaafaaGreatDoorGz1
import Derived.Test.YtbnnhbmnddaafaaGreatDoorGz2
import Derived.Laws.Rows
import Derived.BigRegion
import Derived.Test.YtbnnhbmnddaafaaGreatDoorGz4
import Derived.Lib.FrozenHead2
import Derived.Shelf.LaysM
import Derived.Shelf.LaysC
import Derived.Shelf.Small.Wraps
import Derived.Shelf.Strconv.ToError
import Derived.Shelf.Strconv.ToErrorRange
import Derived.Shelf.Strconv.Lower
import Derived.Shelf.Strings.Search2
import Derived.Shelf.Strings.Prefix
import Derived.Test.YtbnnhbmnddaafaaGreatDoorProg
import Derived.Lib.AtoiErrMem
import Derived.Laws.Strings3
import Derived.Laws.Closers25
import Derived.Laws.Closers25b
import Derived.BigCall
import Derived.BigGuard
import Derived.Lib.PathFns
import Derived.RegionTactic
import Derived.ChangeAlike
import Derived.Deep.QuietTactic
import Derived.BigQuiet
import Derived.WalkLawsBesides
/- strconv.FormatInt to the base 16, and the one form of a point. -/
namespace Go.Proofs.YtbnnhbmnddaafaaGreatDoor
open Go Go.RowKit Go.Kt Go.Kt.Bits

def hexD (d : Nat) : UInt8 := if d < 10 then UInt8.ofNat (48 + d) else UInt8.ofNat (87 + d)
def hexF : Nat → Nat → List UInt8
  | 0, u => [hexD (u % 16)]
  | f + 1, u => if u < 16 then [hexD u] else hexF f (u / 16) ++ [hexD (u % 16)]
def hexL (u : Nat) : List UInt8 := hexF 8 u
theorem digit_ix : ∀ (d : Nat), d < 16 → ∀ w : World, (Instr.index 9 (.string ⟨#[48, 49, 50, 51, 52, 53, 54, 55, 56, 57, 97, 98, 99, 100, 101, 102, 103, 104, 105, 106, 107, 108, 109, 110, 111, 112, 113, 114, 115, 116, 117, 118, 119, 120, 121, 122]⟩) (.int .u64 (d : Nat))).run Tryz.prog w = .ok (.int .u8 ((hexD d).toNat : Nat)) w
  | 0, _ => fun _ => by kernel_rfl
  | 1, _ => fun _ => by kernel_rfl
  | 2, _ => fun _ => by kernel_rfl
  | 3, _ => fun _ => by kernel_rfl
  | 4, _ => fun _ => by kernel_rfl
  | 5, _ => fun _ => by kernel_rfl
  | 6, _ => fun _ => by kernel_rfl
  | 7, _ => fun _ => by kernel_rfl
  | 8, _ => fun _ => by kernel_rfl
  | 9, _ => fun _ => by kernel_rfl
  | 10, _ => fun _ => by kernel_rfl
  | 11, _ => fun _ => by kernel_rfl
  | 12, _ => fun _ => by kernel_rfl
  | 13, _ => fun _ => by kernel_rfl
  | 14, _ => fun _ => by kernel_rfl
  | 15, _ => fun _ => by kernel_rfl
  | d + 16, h => by omega
theorem and_15 (u : Nat) (hu : u < 2 ^ 64) : bits .and .u64 (u : Int) 15 = ((u % 16 : Nat) : Int) := by
  have := bits_and u 15 hu (by decide)
  rw [show (15 : Int) = ((15 : Nat) : Int) from rfl, this]
  have e : u &&& 15 = u % 16 := Nat.and_two_pow_sub_one_eq_mod u 4
  rw [e]

set_option maxRecDepth 100000 in
theorem rtz_16 (w : World) (hT : BTab w) : Calls Tryz.prog 114 #[.int .u64 16] w fun e w' => e = .returned (.int .i64 4) ∧ w = w' := by
  have C := Lib.hid (tz_any 16 4 0 w hT (Lib.hid (by decide)))
  go_enter Tryz.func114, Tryz.ntmps114
  go_wp2_with fail
  refine C.out.mono ?_
  rintro e w' ⟨rfl, h⟩
  go_wp2
  go_ret
  exact ⟨rfl, h⟩
theorem rpow2_16 (w : World) : Calls Tryz.prog 113 #[.int .i64 16] w fun e w' => e = .returned (.bool true) ∧ w = w' := by
  go_enter Tryz.func113, Tryz.ntmps113
  go_wp2
  go_ret
  exact ⟨by kernel_rfl, rfl⟩
set_option maxRecDepth 100000 in
set_option maxHeartbeats 2000000 in
theorem rbits_any (u : Nat) (w : World) (hT : BTab w) (hu : u < 16 ^ 6) :
    Calls Tryz.prog 93 #[.slice none 0 0, .int .u64 u, .int .i64 16, .bool false, .bool false] w fun e w' => e = .returned (.tuple #[.slice none 0 0, .string ⟨(hexL u).toArray⟩]) ∧ Below w.heap.size w w' := by
  have CT := Lib.hid (fun V (h : BTab V) => rtz_16 V h)
  have CP := Lib.hid rpow2_16
  have HT := Lib.hid hT
  clear hT
  go_enter Tryz.func93, Tryz.ntmps93
  go_wp2_with (go_at_call 113; refine (CP.out _).mono ?_; rintro e w1 ⟨rfl, rfl⟩)
  refine (CT.out _ (fun j hj => (((Below.refl w.heap.size w).alloc (Nat.le_refl _) _).cell (lt_of_cell (HT.out j hj))).trans (HT.out j hj))).mono ?_
  rintro e w1 ⟨rfl, rfl⟩
  obtain ⟨W, hW⟩ : ∃ W, w.alloc (.cells Tryz.zeroCells161 161) = W := ⟨_, rfl⟩
  have hb : Below w.heap.size w W := by rw [← hW]; exact (Below.refl _ _).alloc (Nat.le_refl _) _
  have hh : W.heap[w.heap.size]? = some (.cells Tryz.zeroCells161 161 (0, 0)) := by rw [← hW]; exact World.alloc_heap_new w _
  have hzs : (Tryz.zeroCells161).size = 65 := by kernel_rfl
  have HW := Lib.hid (And.intro hb (And.intro hh hzs))
  rw [hW]
  clear hW hb hh hzs
  go_wp2_with fail
  go_loopw [1, 13] (fun x i wr => ∃ (k v : Nat) (suf : List UInt8) (cs : Array Value), x = .int .u64 (v : Nat) ∧ i = .int .i64 (65 - (k : Int)) ∧ k ≤ 5 ∧ v < 16 ^ (6 - k) ∧ hexF (8 - k) v ++ suf = hexL u ∧ suf.length = k ∧ wr.heap[w.heap.size]? = some (.cells cs 161 (0, 0)) ∧ cs.size = 65 ∧
      (∀ j b, suf[j]? = some b → cs[65 - k + j]? = some (.int .u8 (b.toNat : Nat))) ∧ Below w.heap.size w wr) (fun x _ _ => (RowKit.intOf x).toNat)
  case atStart => exact ⟨0, u, [], _, rfl, rfl, by omega, hu, by simp [hexL], rfl, HW.out.2.1, HW.out.2.2, fun j b h => by simp at h, HW.out.1⟩
  case round =>
    obtain ⟨k, v, suf, cs, rfl, rfl, hk, hv, hhex, hsl, hcs, hsz, hcell, hb⟩ := hrel
    have hv6 : v < 16777216 := Nat.lt_of_lt_of_le hv (Nat.le_trans (Nat.pow_le_pow_right (by decide) (show 6 - k ≤ 6 by omega)) (by decide))
    have HI := Lib.hid (And.intro hv (And.intro hhex (And.intro hsl (And.intro hcs (And.intro hsz (And.intro hcell hb))))))
    have c0 : ∀ i, i < 65 → ∃ y, wr.cell? ⟨w.heap.size, i, none⟩ = some y := fun i hi => ⟨cs[i]'(by omega), by rw [Lib.cell_of_heap hcs]; exact Array.getElem?_eq_getElem _⟩
    obtain ⟨q, hq⟩ : ∃ q, k + 1 + q = 65 := ⟨65 - k - 1, by omega⟩
    obtain ⟨y, c1⟩ := c0 q (by omega)
    have f1 : wr.frozen? ⟨w.heap.size, q, none⟩ = false := Lib.frozen_of_heap hcs _
    have e64 : (65 : Int) - (k : Int) - 1 = (q : Int) := by omega
    have hq65 : (q : Int) < 65 := by omega
    have SET : Hid (∀ d : UInt8, (wr.setCell ⟨w.heap.size, q, none⟩ (.int .u8 (d.toNat : Nat))).heap[w.heap.size]? = some (.cells (cs.setIfInBounds q (.int .u8 (d.toNat : Nat))) 161 (0, 0)) ∧ (cs.setIfInBounds q (.int .u8 (d.toNat : Nat))).size = 65 ∧
        (∀ j b, (d :: suf)[j]? = some b → (cs.setIfInBounds q (.int .u8 (d.toNat : Nat)))[q + j]? = some (.int .u8 (b.toNat : Nat))) ∧ Below w.heap.size w (wr.setCell ⟨w.heap.size, q, none⟩ (.int .u8 (d.toNat : Nat)))) := Lib.hid fun d => by
      refine ⟨heap_setCell_same wr _ q cs _ _ hcs, by simpa using hsz, fun j b hj => ?_, hb.setCell (Nat.le_refl _) _⟩
      cases j with
      | zero =>
        simp at hj; subst hj
        rw [Nat.add_zero, Array.getElem?_setIfInBounds, if_pos rfl, if_pos (by omega)]
      | succ j =>
        rw [Array.getElem?_setIfInBounds, if_neg (by omega)]
        have := hcell j b (by simpa using hj)
        rw [show 65 - k + j = q + (j + 1) by omega] at this
        exact this
    clear hv hhex hsl hcs hsz hcell hb c0
    by_cases h16 : 16 ≤ v
    · have h16' : (16 : Int) ≤ (v : Int) := by omega
      have hk4 : k < 5 := by
        rcases Nat.lt_or_ge k 5 with h | h
        · exact h
        · have := HI.out.1; rw [show 6 - k = 1 by omega] at this; omega
      obtain ⟨r, hr⟩ : ∃ r, v % 16 = r := ⟨_, rfl⟩
      obtain ⟨z, hz⟩ : ∃ z, v / 16 = z := ⟨_, rfl⟩
      have hz' : (v : Int) / 16 = (z : Int) := by omega
      have d1 := and_15 v (by omega)
      rw [hr] at d1
      have d2 := digit_ix r (by omega)
      have HZ : Hid (z < 16 ^ (6 - (k + 1)) ∧ hexF (8 - (k + 1)) z ++ (hexD r :: suf) = hexL u) := Lib.hid (by
        refine ⟨?_, ?_⟩
        · have := HI.out.1
          rw [show 6 - k = 6 - (k + 1) + 1 by omega, Nat.pow_succ] at this
          rw [← hz]; omega
        · have := HI.out.2.1
          rw [show 8 - k = 8 - (k + 1) + 1 by omega, hexF, if_neg (by omega), hr, hz, List.append_assoc] at this
          exact this)
      have hzv : z < v := by omega
      clear hr hz
      go_wp2_with fail
      go_roundw
      case rel =>
        obtain ⟨s1, s2, s3, s4⟩ := SET.out (hexD r)
        exact ⟨k + 1, z, hexD r :: suf, _, rfl, by congr 1; omega, by omega, HZ.out.1, HZ.out.2, by simp [HI.out.2.2.1], s1, s2, fun j b hj => by rw [show 65 - (k + 1) + j = q + j by omega]; exact s3 j b hj, s4⟩
      case measure => simp [RowKit.intOf]; omega
    · have h16' : ¬ (16 : Int) ≤ (v : Int) := by omega
      have d2 := digit_ix v (by omega)
      obtain ⟨s1, s2, s3, s4⟩ := SET.out (hexD v)
      have hal : Tryz.prog.arrayLen 161 = 65 := by kernel_rfl
      have hsl : ∀ W : World, (Instr.sliceAt 161 (.pointer (some ⟨w.heap.size, 0, none⟩)) (some (.int .i64 (q : Nat))) none none).run Tryz.prog W = .ok (.slice (some ⟨w.heap.size, q, none⟩) (k + 1) (k + 1)) W := fun W => by
        rw [run_sliceAt_array_l W 161 ⟨w.heap.size, 0, none⟩ (by kernel_rfl) .i64 (q : Nat) (by omega) (by rw [hal]; omega), hal]
        have e1 : Tryz.prog.elem 161 = 5 := by kernel_rfl
        rw [e1, Tryz.sizeOf5]
        simp only [Result.andThen_ok, slicedAt, Int.toNat_natCast]
        rw [if_neg (by omega), show 65 - q = k + 1 by omega, Addr.add_lit]
        simp
      have hcv := run_convert_bytes_back (P := Tryz.prog) (wr.setCell ⟨w.heap.size, q, none⟩ (.int .u8 ((hexD v).toNat : Nat))) 35 9 5 ⟨w.heap.size, q, none⟩ (k + 1) (hexD v :: suf) Tryz.underlying35 Tryz.underlying5 Tryz.underlying9 (fun j hj => by
        rw [Addr.add_lit, Lib.cell_of_heap s1]
        have := s3 j _ (List.getElem?_eq_getElem hj)
        rw [this])
      rw [List.length_cons, HI.out.2.2.1] at hcv
      have HL : Hid ((hexD v :: suf) = hexL u) := Lib.hid (by
        have := HI.out.2.1
        rw [show 8 - k = (7 - k) + 1 by omega, hexF, if_pos (by omega)] at this
        exact this)
      rw [HL.out] at hcv
      have HS := Lib.hid s4
      clear s1 s2 s3 s4 hal
      go_wp2_with fail
      go_ret2
      exact ⟨rfl, HS.out⟩

set_option maxRecDepth 100000 in
theorem rformat_any (u : Nat) (w : World) (hT : BTab w) (hu : u < 16 ^ 6) :
    Calls Tryz.prog 47 #[.int .i64 u, .int .i64 16] w fun e w' => e = .returned (.string ⟨(hexL u).toArray⟩) ∧ Below w.heap.size w w' := by
  have C := Lib.hid (rbits_any u w hT hu)
  have hu2 : u < 16777216 := hu
  have C2 : Hid (Calls Tryz.prog 70 #[.int .i64 u, .int .i64 16] w fun e w' => e = .returned (.string ⟨(hexL u).toArray⟩) ∧ Below w.heap.size w w') := Lib.hid (by
    clear hT
    go_enter Tryz.func70, Tryz.ntmps70
    go_wp2_with fail
    refine C.out.mono ?_
    rintro e w' ⟨rfl, hb⟩
    go_wp2
    go_ret
    exact ⟨rfl, hb⟩)
  clear hT
  go_enter Tryz.func47, Tryz.ntmps47
  go_wp2_with fail
  refine C2.out.mono ?_
  rintro e w' ⟨rfl, hb⟩
  go_wp2
  go_ret
  exact ⟨rfl, hb⟩

def printP (r : Int) : List UInt8 := if 1114111 < r then [92, 120] ++ hexL (r - 1114112).toNat else [92, 117, 123] ++ hexL r.toNat ++ [125]
theorem hexF_len : ∀ (f u : Nat), (hexF f u).length ≤ f + 1
  | 0, _ => by simp [hexF]
  | f + 1, u => by
    have := hexF_len f (u / 16)
    unfold hexF
    split
    · simp
    · rw [List.length_append]; simp; omega
theorem bytes_add (a b : List UInt8) : (⟨a.toArray⟩ : ByteArray) ++ ⟨b.toArray⟩ = ⟨(a ++ b).toArray⟩ := by
  apply ByteArray.ext
  simp
end Go.Proofs.YtbnnhbmnddaafaaGreatDoor
/- The document's text of numbers; the kit's look at a lent list. -/
namespace Go.Proofs.YtbnnhbmnddaafaaGreatDoor
open Go Go.RowKit Go.Kt Go.Shelf

theorem OwnB.below {Y : Nat → Prop} {v : Value} {l : List UInt8} {A B : World} (h : OwnB Y v l A) (hb : Below A.heap.size A B) : OwnB Y v l B :=
  ⟨ownsF_keep h.1 (X := fun _ => False) (.of_all hb) (fun _ _ h => h), h.2⟩
theorem encode_size (x : Int) : (Utf8.encode x).size ≤ 4 := by
  have := runesBytes_size_le [x]
  simpa [runesBytes] using this

end Go.Proofs.YtbnnhbmnddaafaaGreatDoor
/- What is the same of any program: one element more behind a row whose head may be frozen. -/
namespace Go.Kt
open Go Go.RowKit
variable {P : Program}

theorem append_b (W : World) (t e : TypeId) (ht : P.underlying t = some (.slice e)) (hinfo : (P.info? e).map (fun i => (i.zero, i.size, i.bytes)) = some (some (.int .u8 0), 1, 1))
    {v : Value} {n : Nat} {xs : List Value} (hown : W.ownsRowF 0 e 1 v n xs) (x : Value) (hx1 : x.oneCell' = true) (h63 : n + 1 ≤ 140737488355328) :
    ∃ g cap w', (∀ ty, (Builtin.append_ #[t, t] ty #[v, .slice (some ⟨W.heap.size, 0, none⟩) 1 1]).run P (W.alloc (.cells #[x] e)) = .ok (.slice (some ⟨g, 0, none⟩) (n + 1) cap) w') ∧ w'.ownsRowF 0 e 1 (.slice (some ⟨g, 0, none⟩) (n + 1) cap) (n + 1) (xs ++ [x]) ∧
      Keep (fun b => v.ownBlock = some b) W w' ∧ (v.ownBlock = some g ∨ W.heap.size < g) ∧ W.heap.size < w'.heap.size := by
  obtain ⟨i, hi, hz, hs1, hb1⟩ := info_parts hinfo
  have hc : ∀ j u, [x][j]? = some u → (W.alloc (.cells #[x] e)).cell? ((⟨W.heap.size, 0, none⟩ : Addr).add j) = some u := fun j u hj => by
    have hh := World.alloc_heap_new W (.cells #[x] e)
    rw [Addr.add_lit, Lib.cell_of_heap hh]
    simpa using hj
  have h1 : ∀ u ∈ [x], u.oneCell' = true := by intro u hu; simp at hu; subst hu; exact hx1
  have hm : n + 1 ≤ maxLen := by unfold maxLen; omega
  have hown' : (W.alloc (.cells #[x] e)).ownsRowF 0 e 1 v n xs := by
    refine ⟨hown.1, ?_⟩
    rcases hown.2 with h2 | ⟨g, cap, cur, fz, rfl, hb, hg, rest⟩
    · exact .inl h2
    · exact .inr ⟨g, cap, cur, fz, rfl, hb, ((Keep.refl (fun _ => False) W).alloc _).heap hg (fun h => h), rest⟩
  obtain ⟨v', w', hrun, r1, r2, r3⟩ := run_append_ownF (P := P) (W.alloc (.cells #[x] e)) 0 t 0 e i (.int .u8 0) 1 1 ht hi hz hs1 hb1 rfl (by omega) v n xs hown' ⟨W.heap.size, 0, none⟩ 1 1 [x] rfl hc h1 hm (by omega) (Nat.zero_le _)
  have hrun' : ∀ ty, (Builtin.append_ #[t, t] ty #[v, .slice (some ⟨W.heap.size, 0, none⟩) 1 1]).run P (W.alloc (.cells #[x] e)) = .ok v' w' := fun ty => hrun
  have hK : Keep (fun b => v.ownBlock = some b) W w' := ((Keep.refl _ W).alloc _).trans (keep_grown r2)
  have hsz' : W.heap.size < w'.heap.size := by have := r2.size; simp at this; omega
  rcases r1.2 with ⟨_, h⟩ | ⟨g, cap, cur, fz, rfl, hb, hg, rest⟩
  · omega
  refine ⟨g, cap, w', hrun', r1, hK, ?_, hsz'⟩
  rcases hown'.2 with ⟨hv, hn⟩ | ⟨g0, cap0, cur0, fz0, hv, hb0, hg0, hfz, hnc, hcm, hcs, _⟩
  · right
    obtain ⟨v2, w2, hrun2, q1, _⟩ := run_append_ownF (P := P) (W.alloc (.cells #[x] e)) (W.heap.size + 1) t 0 e i (.int .u8 0) 1 1 ht hi hz hs1 hb1 rfl (by omega) v n xs ⟨hown'.1, .inl ⟨hv, hn⟩⟩ ⟨W.heap.size, 0, none⟩ 1 1 [x] rfl hc h1 hm (by omega) (by simp)
    rw [hrun] at hrun2
    injection hrun2 with e1 e2
    subst e1; subst e2
    exact (q1.lt g rfl).1
  · subst hv
    by_cases hroom : n + 1 ≤ cap0
    · left
      have hr := run_append_roomF (P := P) (W.alloc (.cells #[x] e)) t 0 e i ht hi g0 n cap0 cur0 fz0 hg0 (by rw [hs1]; omega) ⟨W.heap.size, 0, none⟩ 1 1 [x] (by rw [hs1]; rfl) hc h1 hroom (by rw [hs1, hcs]; simp; omega)
      rw [hrun] at hr
      injection hr with e1 e2
      injection e1 with e1 _ _
      injection e1 with e1
      injection e1 with e1
      subst e1
      rfl
    · right
      have holds : ∀ j u, xs[j]? = some u → (W.alloc (.cells #[x] e)).cell? ((⟨g0, 0, none⟩ : Addr).add j) = some u := hown'.cells (g := g0) rfl
      have hr := run_append_grow (P := P) (W.alloc (.cells #[x] e)) t 0 e i (.int .u8 0) ht hi hz ⟨g0, 0, none⟩ n cap0 xs (by rw [hs1]; exact hown'.1) holds ⟨W.heap.size, 0, none⟩ 1 1 [x] (by rw [hs1]; rfl) hc (by omega) (by omega) (by rw [hb1]; exact growslice_fits (by omega) (by omega))
      rw [hrun] at hr
      injection hr with e1 e2
      injection e1 with e1 _ _
      injection e1 with e1
      injection e1 with e1
      subst e1
      simp
end Go.Kt
/- The text of points: the document's Bytes, Point. -/
namespace Go.Proofs.YtbnnhbmnddaafaaGreatDoor
open Go Go.RowKit Go.Kt Go.Shelf

def pointB (c : Int) : Bool := charB c || decide (1114240 ≤ c ∧ c ≤ 1114367)
theorem pointB_iff (c : Int) : pointB c = true ↔ ((0 ≤ c ∧ c < 55296) ∨ (57343 < c ∧ c ≤ 1114111)) ∨ (1114240 ≤ c ∧ c ≤ 1114367) := by
  unfold pointB; rw [Bool.or_eq_true, charB_iff]; simp
def bytesP (c : Int) : List UInt8 := if 1114112 < c then [UInt8.ofNat (c - 1114112).toNat] else (encC c).data.toList
def textP (l : List Int) : List UInt8 := l.flatMap bytesP
theorem bytesP_len (c : Int) : 1 ≤ (bytesP c).length ∧ (bytesP c).length ≤ 4 := by
  unfold bytesP encC
  repeat' split
  all_goals simp
def NewB (l : List UInt8) (w : World) (e : Ending) (w' : World) : Prop :=
  e = .returned (.slice (some ⟨w.heap.size, 0, none⟩) l.length l.length) ∧ w' = w.alloc (.cells (Lib.byteCells l).toArray 5)

theorem ofNat_toNat (x : Int) (h0 : 0 ≤ x) (h1 : x < 256) : (((UInt8.ofNat x.toNat).toNat : Nat) : Int) = x := by
  simp; omega

set_option maxRecDepth 100000 in
set_option maxHeartbeats 1000000 in
theorem refBytes_any (c : Int) (w : World) (hc : pointB c = true) :
    Calls Tryz.prog 58 #[.int .i32 c] w (NewB (bytesP c) w) := by
  have hb := (pointB_iff c).1 hc
  have h0 : 0 ≤ c := by omega
  have h1 : c ≤ 1114367 := by omega
  have fin : ∀ l : List UInt8, bytesP c = l → NewB (bytesP c) w (.returned (.slice (some ⟨w.heap.size, 0, none⟩) l.length l.length)) (w.alloc (.cells (Lib.byteCells l).toArray 5)) := fun l h => by rw [h]; exact ⟨rfl, rfl⟩
  have Fin := Lib.hid fin
  clear fin
  by_cases a0 : 1114112 < c
  · have HF := Lib.hid (Fin.out [UInt8.ofNat (c - 1114112).toNat] (by unfold bytesP; rw [if_pos a0]))
    have e1 := Lib.hid (ofNat_toNat (c - 1114112) (by omega) (by omega))
    have hlo : 1114240 ≤ c := by omega
    clear Fin hb hc
    go_enter Tryz.func58, Tryz.ntmps58
    go_wp2
    go_ret
    have := HF.out
    simp only [Lib.byteCells, List.map_cons, List.map_nil, e1.out, List.length_cons, List.length_nil] at this
    exact this
  have h2 : c ≤ 1114111 := by omega
  by_cases a1 : c < 128
  · have HF := Lib.hid (Fin.out [UInt8.ofNat (c).toNat] (by unfold bytesP encC; rw [if_neg a0, if_pos a1]))
    have e1 := Lib.hid (ofNat_toNat (c) (by omega) (by omega))
    clear Fin hb hc
    go_enter Tryz.func58, Tryz.ntmps58
    go_wp2
    go_ret
    have := HF.out
    simp only [Lib.byteCells, List.map_cons, List.map_nil, e1.out, List.length_cons, List.length_nil] at this
    exact this
  by_cases a2 : c < 2048
  · have HF := Lib.hid (Fin.out [UInt8.ofNat (192 + c / 64).toNat, UInt8.ofNat (128 + c % 64).toNat] (by unfold bytesP encC; rw [if_neg a0, if_neg a1, if_pos a2]))
    have e1 := Lib.hid (ofNat_toNat (192 + c / 64) (by omega) (by omega))
    have e2 := Lib.hid (ofNat_toNat (128 + c % 64) (by omega) (by omega))
    clear Fin hb hc
    go_enter Tryz.func58, Tryz.ntmps58
    go_wp2
    go_ret
    have := HF.out
    simp only [Lib.byteCells, List.map_cons, List.map_nil, e1.out, e2.out, List.length_cons, List.length_nil] at this
    exact this
  by_cases a3 : c < 65536
  · have HF := Lib.hid (Fin.out [UInt8.ofNat (224 + c / 4096).toNat, UInt8.ofNat (128 + c / 64 % 64).toNat, UInt8.ofNat (128 + c % 64).toNat] (by unfold bytesP encC; rw [if_neg a0, if_neg a1, if_neg a2, if_pos a3]))
    have e1 := Lib.hid (ofNat_toNat (224 + c / 4096) (by omega) (by omega))
    have e2 := Lib.hid (ofNat_toNat (128 + c / 64 % 64) (by omega) (by omega))
    have e3 := Lib.hid (ofNat_toNat (128 + c % 64) (by omega) (by omega))
    clear Fin hb hc
    go_enter Tryz.func58, Tryz.ntmps58
    go_wp2
    go_ret
    have := HF.out
    simp only [Lib.byteCells, List.map_cons, List.map_nil, e1.out, e2.out, e3.out, List.length_cons, List.length_nil] at this
    exact this
  · have HF := Lib.hid (Fin.out [UInt8.ofNat (240 + c / 262144).toNat, UInt8.ofNat (128 + c / 4096 % 64).toNat, UInt8.ofNat (128 + c / 64 % 64).toNat, UInt8.ofNat (128 + c % 64).toNat] (by unfold bytesP encC; rw [if_neg a0, if_neg a1, if_neg a2, if_neg a3]))
    have e1 := Lib.hid (ofNat_toNat (240 + c / 262144) (by omega) (by omega))
    have e2 := Lib.hid (ofNat_toNat (128 + c / 4096 % 64) (by omega) (by omega))
    have e3 := Lib.hid (ofNat_toNat (128 + c / 64 % 64) (by omega) (by omega))
    have e4 := Lib.hid (ofNat_toNat (128 + c % 64) (by omega) (by omega))
    clear Fin hb hc
    go_enter Tryz.func58, Tryz.ntmps58
    go_wp2
    go_ret
    have := HF.out
    simp only [Lib.byteCells, List.map_cons, List.map_nil, e1.out, e2.out, e3.out, e4.out, List.length_cons, List.length_nil] at this
    exact this
end Go.Proofs.YtbnnhbmnddaafaaGreatDoor
/- The text of points: the document's Text. -/
namespace Go.Proofs.YtbnnhbmnddaafaaGreatDoor
open Go Go.RowKit Go.Kt Go.Shelf

structure FirstBad (l : List Int) (K : Nat) : Prop where
  le : K ≤ l.length
  good : ∀ i x, i < K → l[i]? = some x → pointB x = true
  bad : ∀ x, l[K]? = some x → pointB x = false
def TextAns (l : List Int) (K : Nat) (w : World) (e : Ending) (w' : World) : Prop :=
  (K = l.length ∧ e = .returned (.tuple #[.string ⟨(textP l).toArray⟩, .int .i64 (-1)]) ∨ K < l.length ∧ e = .returned (.tuple #[.string ⟨#[]⟩, .int .i64 K])) ∧ Below w.heap.size w w'

theorem OwnB.weaken {Y Z : Nat → Prop} {v : Value} {l : List UInt8} {A : World} (h : OwnB Y v l A) (hY : ∀ b, Y b → Z b) : OwnB Z v l A := ⟨h.1, fun g hg => hY g (h.2 g hg)⟩
theorem OwnB.keep {Y X : Nat → Prop} {v : Value} {l : List UInt8} {A B : World} (h : OwnB Y v l A) (hk : Keep X A B) (hX : ∀ b, X b → ¬ Y b) : OwnB Y v l B :=
  ⟨ownsF_keep h.1 hk (fun g hg hx => hX g hx (h.2 g hg)), h.2⟩
theorem OwnB.lt {Y : Nat → Prop} {v : Value} {l : List UInt8} {A : World} (h : OwnB Y v l A) : OwnB (fun b => Y b ∧ b < A.heap.size) v l A := ⟨h.1, fun g hg => ⟨h.2 g hg, (h.1.lt g hg).2⟩⟩

end Go.Proofs.YtbnnhbmnddaafaaGreatDoor
/- The text of points: points.Text. -/
namespace Go.Proofs.YtbnnhbmnddaafaaGreatDoor
open Go Go.RowKit Go.Kt Go.Shelf

theorem valid_char (x : Int) : Lib.validRune x = charB x := by
  rw [Bool.eq_iff_iff, charB_iff]; simp [Lib.validRune]
theorem valid_char2 (x : Int) : Utf8.valid x = charB x := by
  rw [Bool.eq_iff_iff, charB_iff]; simp [Utf8.valid]; omega
theorem bytesP_char (x : Int) (h : charB x = true) : bytesP x = (Utf8.encode x).data.toList := by
  have := (charB_iff x).1 h
  unfold bytesP
  rw [if_neg (by omega), encode_C, valid_char2, h]
  rfl

def PTextAns (l : List Int) (K : Nat) (w : World) (e : Ending) (w' : World) : Prop :=
  (K = l.length ∧ e = .returned (.tuple #[.string ⟨(textP l).toArray⟩, .nilIface]) ∨ K < l.length ∧ e = .returned (.tuple #[.string ⟨#[]⟩, .iface 69 (fv 8 0 K)])) ∧ Below w.heap.size w w'

end Go.Proofs.YtbnnhbmnddaafaaGreatDoor
/- The print of a set. -/
namespace Go.Proofs.YtbnnhbmnddaafaaGreatDoor
open Go Go.RowKit Go.Kt Go.Kt.Rg
attribute [local go_sem] Oper.semAt_some

def printS (x : Int × Int) : List UInt8 := printP x.1 ++ (if x.2 = x.1 then [] else 45 :: printP x.2)
def printL (L : List (Int × Int)) : List UInt8 := L.flatMap printS
def St (n : Nat) (Yb : Nat → Prop) (A : World) (acc : List UInt8) (V : World) : Prop :=
  Bld n (fun x => Yb x ∨ A.heap.size ≤ x) acc V ∧ Keep (fun x => x = n ∨ Yb x) A V
theorem St.next {n : Nat} {Yb : Nat → Prop} {A V V' : World} {acc acc' : List UInt8} {Y' : Nat → Prop} (h : St n Yb A acc V) (hb : Bld n Y' acc' V') (hk : Keep (fun c => c = n ∨ (Yb c ∨ A.heap.size ≤ c)) V V') (hY : ∀ c, Y' c → (Yb c ∨ A.heap.size ≤ c) ∨ V.heap.size ≤ c) : St n Yb A acc' V' := by
  have hs := h.2.size
  obtain ⟨p, v, hp, hh, ho, hne, hy⟩ := hb
  refine ⟨⟨p, v, hp, hh, ho, hne, fun g hg => ?_⟩, h.2.plus hk fun b hb hx => ?_⟩
  · rcases hY g (hy g hg) with hx | hx
    · exact hx
    · exact .inr (by omega)
  · rcases hx with hx | hx | hx
    · exact .inl hx
    · exact .inr hx
    · omega
theorem St.ws {n : Nat} {Yb : Nat → Prop} {A V : World} {acc : List UInt8} (h : St n Yb A acc V) (s : List UInt8) (hlen : acc.length + s.length ≤ 140737488355328) :
    Calls Tryz.prog 22 #[.pointer (some ⟨n, 0, none⟩), .string ⟨s.toArray⟩] V fun e V' => e = .returned (.tuple #[.int .i64 s.length, .nilIface]) ∧ St n Yb A (acc ++ s) V' := by
  have hs : (⟨s.toArray⟩ : ByteArray).size = s.length := by simp [ByteArray.size]
  refine (writeString_x n _ acc ⟨s.toArray⟩ V h.1 (by omega)).mono ?_
  rintro e V' ⟨rfl, Y', hb, hk, hY⟩
  exact ⟨by rw [hs], h.next (by simpa using hb) hk hY⟩
theorem Bld.lt {b : Nat} {Y : Nat → Prop} {l : List UInt8} {W : World} (h : Bld b Y l W) : Bld b (fun x => Y x ∧ x < W.heap.size) l W := by
  obtain ⟨p, v, hp, hh, ho, hne, hy⟩ := h
  refine ⟨p, v, hp, hh, ho, hne, fun g hg => ⟨hy g hg, ?_⟩⟩
  rcases ho.2 with ⟨hv, _⟩ | ⟨g', cap, cur, fz, rfl, _, hg', _⟩
  · rw [hv] at hg; cases hg
  · cases hg; exact (Array.getElem?_eq_some_iff.1 hg').1
theorem Bld.weaken {b : Nat} {Y Y' : Nat → Prop} {l : List UInt8} {W : World} (h : Bld b Y l W) (hY : ∀ x, Y x → Y' x) : Bld b Y' l W := by
  obtain ⟨p, v, hp, hh, ho, hne, hy⟩ := h
  exact ⟨p, v, hp, hh, ho, hne, fun g hg => hY _ (hy g hg)⟩
theorem Bld.at {b : Nat} {l : List UInt8} {W : World} (h : ∃ Y, Bld b Y l W) : b < W.heap.size := by
  obtain ⟨Y, p, v, hp, hh, _⟩ := h
  exact (Array.getElem?_eq_some_iff.1 hh).1
theorem St.below {n : Nat} {Yb : Nat → Prop} {A V V' : World} {acc : List UInt8} (h : St n Yb A acc V) (hb : Below V.heap.size V V') : St n Yb A acc V' := by
  have hk : Keep (fun _ => False) V V' := .of_all hb
  exact ⟨h.1.keep hk (fun h => h) (fun _ _ h => h), h.2.plus hk (fun _ _ h => h.elim)⟩
theorem St.start {n : Nat} {Yb : Nat → Prop} {A : World} {acc : List UInt8} (h : Bld n Yb acc A) : St n Yb A acc A := by
  obtain ⟨p, v, hp, hh, ho, hne, hy⟩ := h
  exact ⟨⟨p, v, hp, hh, ho, hne, fun g hg => .inl (hy g hg)⟩, Keep.refl _ _⟩

end Go.Proofs.YtbnnhbmnddaafaaGreatDoor
/- Hexadecimal digits read, a point, a span, a set read: mathematics. -/
namespace Go.Proofs.YtbnnhbmnddaafaaGreatDoor
open Go Go.RowKit Go.Kt Go.Kt.Rg

def digV (c : Nat) : Option Nat := if 48 ≤ c ∧ c ≤ 57 then some (c - 48) else if 97 ≤ (c ||| 32) ∧ (c ||| 32) ≤ 122 then some ((c ||| 32) - 87) else none
def puF (mx : Nat) : Nat → List UInt8 → Option Nat
  | n, [] => some n
  | n, c :: t => match digV c.toNat with
    | none => none
    | some d => if 16 ≤ d then none else if mx < n * 16 + d then none else puF mx (n * 16 + d) t
def puV (mx : Nat) (l : List UInt8) : Option Nat := if l = [] then none else puF mx 0 l
theorem puF_append (mx : Nat) : ∀ (a b : List UInt8) (n : Nat), puF mx n (a ++ b) = (puF mx n a).bind fun m => puF mx m b
  | [], b, n => rfl
  | c :: t, b, n => by
    simp only [List.cons_append, puF]
    cases digV c.toNat with
    | none => rfl
    | some d =>
      simp only
      by_cases h1 : 16 ≤ d
      · simp [h1]
      · by_cases h2 : mx < n * 16 + d
        · simp [h1, h2]
        · simp only [h1, h2, if_false]
          exact puF_append mx t b _
theorem digV_hex : ∀ d, d < 16 → digV (hexD d).toNat = some d := by decide
theorem hexD_ne : ∀ d, d < 16 → hexD d ≠ 125 ∧ hexD d ≠ 45 := by decide
theorem puF_hexF (mx : Nat) : ∀ (f u : Nat), u < 16 ^ (f + 1) → u ≤ mx → puF mx 0 (hexF f u) = some u
  | 0, u, h, hm => by
    have hu : u < 16 := by simpa using h
    have := digV_hex u hu
    simp only [hexF, Nat.mod_eq_of_lt hu, puF, this]
    rw [if_neg (by omega), if_neg (by omega)]
    simp
  | f + 1, u, h, hm => by
    unfold hexF
    by_cases h16 : u < 16
    · have := digV_hex u h16
      rw [if_pos h16]
      simp only [puF, this]
      rw [if_neg (by omega), if_neg (by omega)]
      simp
    · have hd : u / 16 < 16 ^ (f + 1) := by
        have : u < 16 ^ (f + 1) * 16 := by rw [← Nat.pow_succ]; exact h
        omega
      have h2 := digV_hex (u % 16) (Nat.mod_lt _ (by decide))
      rw [if_neg h16, puF_append, puF_hexF mx f (u / 16) hd (by omega)]
      simp only [Option.bind_some, puF, h2]
      rw [if_neg (by omega), if_neg (by omega)]
      congr 1
      omega
theorem hexF_ne : ∀ (f u : Nat), hexF f u ≠ []
  | 0, u => by simp [hexF]
  | f + 1, u => by unfold hexF; split <;> simp
theorem puV_hex (mx u : Nat) (h : u < 68719476736) (hm : u ≤ mx) : puV mx (hexL u) = some u := by
  unfold puV hexL
  rw [if_neg (hexF_ne 8 u)]
  exact puF_hexF mx 8 u (by simpa using h) hm
theorem hexF_clean : ∀ (f u : Nat), ∀ c ∈ hexF f u, c ≠ 125 ∧ c ≠ 45
  | 0, u, c, h => by
    simp only [hexF, List.mem_singleton] at h
    subst h; exact hexD_ne _ (Nat.mod_lt _ (by decide))
  | f + 1, u, c, h => by
    unfold hexF at h
    split at h
    · simp only [List.mem_singleton] at h
      subst h; exact hexD_ne _ (by omega)
    · rcases List.mem_append.1 h with h | h
      · exact hexF_clean f _ c h
      · simp only [List.mem_singleton] at h
        subst h; exact hexD_ne _ (Nat.mod_lt _ (by decide))
theorem puF_bd (mx : Nat) : ∀ (l : List UInt8) (n m : Nat), n ≤ mx → puF mx n l = some m → m ≤ mx
  | [], n, m, h, e => by simp only [puF, Option.some.injEq] at e; omega
  | c :: t, n, m, h, e => by
    simp only [puF] at e
    cases hd : digV c.toNat with
    | none => rw [hd] at e; cases e
    | some d =>
      rw [hd] at e
      simp only at e
      by_cases h1 : 16 ≤ d
      · rw [if_pos h1] at e; cases e
      · rw [if_neg h1] at e
        by_cases h2 : mx < n * 16 + d
        · rw [if_pos h2] at e; cases e
        · rw [if_neg h2] at e
          exact puF_bd mx t _ m (by omega) e
theorem puV_bd {mx m : Nat} {l : List UInt8} (e : puV mx l = some m) : m ≤ mx := by
  unfold puV at e
  split at e
  · cases e
  · exact puF_bd mx l 0 m (Nat.zero_le _) e

def upB (l : List UInt8) : List UInt8 := l.takeWhile (· != 125)
theorem upB_at (a b : List UInt8) (h : ∀ c ∈ a, c ≠ 125) : upB (a ++ 125 :: b) = a := by
  induction a with
  | nil => simp [upB]
  | cons x t ih =>
    have hx := h x (.head _)
    simp only [upB, List.cons_append, List.takeWhile_cons] at ih ⊢
    rw [if_pos (by simpa using hx)]
    rw [ih fun c hc => h c (.tail _ hc)]
def sptD (l : List UInt8) : Int × List UInt8 :=
  if [92, 117, 123].isPrefixOf l then (0, upB (l.drop 3)) else if [92, 120].isPrefixOf l then (1114112, (l.drop 2).take 2) else (0, [])
def sptR (l : List UInt8) : Int := match puV 2097151 (sptD l).2 with | none => -1 | some n => (sptD l).1 + (n : Int)
theorem hex_two : ∀ u, u < 256 → 16 ≤ u → (hexL u).length = 2 := by decide +kernel
def ptAt (l : List UInt8) : Option (Int × Nat) := if (numB (sptR l)).2 && (printP (sptR l)).isPrefixOf l then some ((numB (sptR l)).1, (printP (sptR l)).length) else none
def spAt (s : List UInt8) (p : Nat) : Except (Int × Nat) (Run × Nat) :=
  match ptAt (s.drop p) with
  | none => .error (9, p)
  | some (lo, k) => if s[p + k]? = some 45 then match ptAt (s.drop (p + k + 1)) with
      | none => .error (9, p + k + 1)
      | some (hi, k2) => if hi ≤ lo then .error (4, p) else .ok ((lo, hi + 1), p + k + 1 + k2)
    else .ok ((lo, lo + 1), p + k)
def aboveB (l : List Run) (x : Run) : Bool := match l.getLast? with | none => true | some y => decide (y.2 < x.1)
def prF : Nat → List UInt8 → Nat → List Run → Except (Int × Nat) (List Run)
  | 0, _, p, _ => .error (25, p)
  | f + 1, s, p, l =>
    if s.length ≤ p then .error (25, p)
    else if s[p]? = some 93 then (if p + 1 < s.length then .error (3, p + 1) else .ok l)
    else match spAt s p with
      | .error e => .error e
      | .ok (x, q) => if aboveB l x then prF f s q (l ++ [x]) else .error (4, p)
def prL (s : List UInt8) : Except (Int × Nat) (List Run) := if [91].isPrefixOf s then prF s.length s 1 [] else .error (25, 0)

end Go.Proofs.YtbnnhbmnddaafaaGreatDoor
/- The contracts of the library functions that stage 3's Parse calls (strings.CutPrefix, HasPrefix, strconv's errors, stringslite.Index), laid over this translation. -/
namespace Go.Proofs
open Go.Shelf
def Tryz.lays210_ren : Go.Shelf.Ren := ⟨fun | 210 => 128 | 206 => 132 | n => n, fun | 9 => 9 | 4 => 4 | 3 => 3 | n => n, fun | n => n⟩
def Tryz.lays103_ren : Go.Shelf.Ren := ⟨fun | 103 => 120 | 210 => 128 | 206 => 132 | n => n, fun | 9 => 9 | 4 => 4 | 24 => 166 | 3 => 3 | n => n, fun | n => n⟩
theorem Tryz.lays103 : Go.Proofs.Lays.n103 Tryz.prog Tryz.lays103_ren := {
  mixed := by kernel_rfl
  f103 := Tryz.func120.trans (congrArg some (by kernel_rfl))
  f206 := Tryz.func132.trans (congrArg some (by kernel_rfl))
  f210 := Tryz.func128.trans (congrArg some (by kernel_rfl))
  t3 := Tryz.underlying3
  a3 := Tryz.isAgg3
  z3 := Tryz.sizeOf3
  v3 := Tryz.zeroValue3
  t4 := Tryz.underlying4
  a4 := Tryz.isAgg4
  z4 := Tryz.sizeOf4
  v4 := Tryz.zeroValue4
  t9 := Tryz.underlying9
  a9 := Tryz.isAgg9
  z9 := Tryz.sizeOf9
  v9 := Tryz.zeroValue9
  t24 := Tryz.underlying166
  a24 := Tryz.isAgg166
  z24 := Tryz.sizeOf166
  v24 := Tryz.zeroValue166 }
open Go.RowKit in
theorem Tryz.strings_CutPrefix (s p : ByteArray) (w : World) :
    Calls Tryz.prog 120 #[.string s, .string p] w fun e w' => e = .returned (.tuple #[.string ⟨(Lib.trimPrefix s.data.toList p.data.toList).toArray⟩, .bool (Lib.hasPrefix s.data.toList p.data.toList)]) ∧ w' = w := Any.strings_CutPrefix Tryz.lays103 s p w
def Tryz.laysC245_ren : Go.Shelf.Ren := ⟨fun | 245 => 131 | 279 => 135 | 280 => 136 | 281 => 137 | 282 => 138 | 316 => 88 | 171 => 140 | 205 => 139 | 243 => 141 | 246 => 70 | 283 => 90 | 284 => 91 | 285 => 92 | 286 => 93 | 129 => 111 | 317 => 110 | 318 => 112 | 319 => 113 | 320 => 114 | 337 => 125 | 338 => 126 | n => n, fun | 9 => 9 | 3 => 3 | 75 => 25 | 167 => 179 | 4 => 4 | 168 => 181 | 210 => 185 | 37 => 35 | 0 => 0 | 127 => 80 | 145 => 188 | 143 => 186 | 2 => 2 | 171 => 130 | 53 => 131 | 5 => 5 | 173 => 134 | 212 => 159 | 51 => 160 | 20 => 20 | 213 => 161 | 46 => 125 | 232 => 177 | 233 => 178 | 80 => 55 | n => n, fun | 15 => 7 | 16 => 8 | 17 => 4 | 18 => 5 | 19 => 6 | n => n⟩
theorem Tryz.laysC245 : Go.Proofs.LaysC.n245 Tryz.prog Tryz.laysC245_ren := {
  mixed := by kernel_rfl
  f129 := Tryz.func111.trans (congrArg some (by kernel_rfl))
  f171 := Tryz.func140.trans (congrArg some (by kernel_rfl))
  f205 := Tryz.func139.trans (congrArg some (by kernel_rfl))
  f243 := Tryz.func141.trans (congrArg some (by kernel_rfl))
  f245 := Tryz.func131.trans (congrArg some (by kernel_rfl))
  f246 := Tryz.func70.trans (congrArg some (by kernel_rfl))
  f279 := Tryz.func135.trans (congrArg some (by kernel_rfl))
  f280 := Tryz.func136.trans (congrArg some (by kernel_rfl))
  f281 := Tryz.func137.trans (congrArg some (by kernel_rfl))
  f282 := Tryz.func138.trans (congrArg some (by kernel_rfl))
  f283 := Tryz.func90.trans (congrArg some (by kernel_rfl))
  f284 := Tryz.func91.trans (congrArg some (by kernel_rfl))
  f285 := Tryz.func92.trans (congrArg some (by kernel_rfl))
  f286 := Tryz.func93.trans (congrArg some (by kernel_rfl))
  f316 := Tryz.func88.trans (congrArg some (by kernel_rfl))
  f317 := Tryz.func110.trans (congrArg some (by kernel_rfl))
  f318 := Tryz.func112.trans (congrArg some (by kernel_rfl))
  f319 := Tryz.func113.trans (congrArg some (by kernel_rfl))
  f320 := Tryz.func114.trans (congrArg some (by kernel_rfl))
  f337 := Tryz.func125.trans (congrArg some (by kernel_rfl))
  f338 := Tryz.func126.trans (congrArg some (by kernel_rfl))
  t0 := Tryz.underlying0
  a0 := Tryz.isAgg0
  z0 := Tryz.sizeOf0
  v0 := Tryz.zeroValue0
  t2 := Tryz.underlying2
  a2 := Tryz.isAgg2
  z2 := Tryz.sizeOf2
  v2 := Tryz.zeroValue2
  t3 := Tryz.underlying3
  a3 := Tryz.isAgg3
  z3 := Tryz.sizeOf3
  v3 := Tryz.zeroValue3
  t4 := Tryz.underlying4
  a4 := Tryz.isAgg4
  z4 := Tryz.sizeOf4
  v4 := Tryz.zeroValue4
  t5 := Tryz.underlying5
  a5 := Tryz.isAgg5
  z5 := Tryz.sizeOf5
  v5 := Tryz.zeroValue5
  t9 := Tryz.underlying9
  a9 := Tryz.isAgg9
  z9 := Tryz.sizeOf9
  v9 := Tryz.zeroValue9
  t20 := Tryz.underlying20
  a20 := Tryz.isAgg20
  z20 := Tryz.sizeOf20
  v20 := Tryz.zeroValue20
  t37 := Tryz.underlying35
  a37 := Tryz.isAgg35
  z37 := Tryz.sizeOf35
  v37 := Tryz.zeroValue35
  t46 := Tryz.underlying125
  a46 := Tryz.isAgg125
  z46 := Tryz.sizeOf125
  v46 := Tryz.zeroValue125
  t51 := Tryz.underlying160
  a51 := Tryz.isAgg160
  z51 := Tryz.sizeOf160
  v51 := Tryz.zeroValue160
  t53 := Tryz.underlying131
  a53 := Tryz.isAgg131
  z53 := Tryz.sizeOf131
  v53 := Tryz.zeroValue131
  t75 := Tryz.underlying25
  a75 := Tryz.isAgg25
  z75 := Tryz.sizeOf25
  v75 := Tryz.zeroValue25
  t127 := Tryz.underlying80
  a127 := Tryz.isAgg80
  z127 := Tryz.sizeOf80
  v127 := Tryz.zeroValue80
  t143 := Tryz.underlying186
  a143 := Tryz.isAgg186
  z143 := Tryz.sizeOf186
  v143 := Tryz.zeroValue186
  t145 := Tryz.underlying188
  a145 := Tryz.isAgg188
  z145 := Tryz.sizeOf188
  v145 := Tryz.zeroValue188
  t167 := Tryz.underlying179
  a167 := Tryz.isAgg179
  z167 := Tryz.sizeOf179
  v167 := Tryz.zeroValue179
  t168 := Tryz.underlying181
  a168 := Tryz.isAgg181
  z168 := Tryz.sizeOf181
  v168 := Tryz.zeroValue181
  t171 := Tryz.underlying130
  a171 := Tryz.isAgg130
  z171 := Tryz.sizeOf130
  v171 := Tryz.zeroValue130
  t173 := Tryz.underlying134
  a173 := Tryz.isAgg134
  z173 := Tryz.sizeOf134
  v173 := Tryz.zeroValue134
  t210 := Tryz.underlying185
  a210 := Tryz.isAgg185
  z210 := Tryz.sizeOf185
  v210 := Tryz.zeroValue185
  t212 := Tryz.underlying159
  a212 := Tryz.isAgg159
  z212 := Tryz.sizeOf159
  v212 := Tryz.zeroValue159
  t213 := Tryz.underlying161
  a213 := Tryz.isAgg161
  z213 := Tryz.sizeOf161
  t232 := Tryz.underlying177
  a232 := Tryz.isAgg177
  z232 := Tryz.sizeOf177
  v232 := Tryz.zeroValue177
  t233 := Tryz.underlying178
  a233 := Tryz.isAgg178
  z233 := Tryz.sizeOf178
  v233 := Tryz.zeroValue178
  g15 := by kernel_rfl
  g16 := by kernel_rfl
  g17 := by kernel_rfl
  g18 := by kernel_rfl
  g19 := by kernel_rfl
  t80 := Tryz.underlying55
  a80 := Tryz.isAgg55
  z80 := Tryz.sizeOf55
  v80 := Tryz.zeroValue55
  i0 := by kernel_rfl
  i2 := by kernel_rfl
  i3 := by kernel_rfl
  i4 := by kernel_rfl
  i5 := by kernel_rfl
  i9 := by kernel_rfl
  i20 := by kernel_rfl
  i37 := by kernel_rfl
  i46 := by kernel_rfl
  i51 := by kernel_rfl
  i53 := by kernel_rfl
  i75 := by kernel_rfl
  i80 := by kernel_rfl
  i127 := by kernel_rfl
  i143 := by kernel_rfl
  i145 := by kernel_rfl
  i167 := by kernel_rfl
  i168 := by kernel_rfl
  i171 := by kernel_rfl
  i173 := by kernel_rfl
  i210 := by kernel_rfl
  i212 := by kernel_rfl
  i232 := by kernel_rfl
  i233 := by kernel_rfl
  m15 := by kernel_rfl
  m16 := by kernel_rfl
  m17 := by kernel_rfl
  m18 := by kernel_rfl
  m19 := by kernel_rfl
  c0 := by kernel_rfl
  c2 := by kernel_rfl
  c3 := by kernel_rfl
  c4 := by kernel_rfl
  c5 := by kernel_rfl
  c9 := by kernel_rfl
  c20 := by kernel_rfl
  c37 := by kernel_rfl
  c46 := by kernel_rfl
  c51 := by kernel_rfl
  c53 := by kernel_rfl
  c75 := by kernel_rfl
  c80 := by kernel_rfl
  c127 := by kernel_rfl
  c143 := by kernel_rfl
  c145 := by kernel_rfl
  c167 := by kernel_rfl
  c168 := by kernel_rfl
  c171 := by kernel_rfl
  c173 := by kernel_rfl
  c210 := by kernel_rfl
  c212 := by kernel_rfl
  c213 := by kernel_rfl
  c232 := by kernel_rfl
  c233 := by kernel_rfl }
open Go.RowKit in
theorem Tryz.strconv_toError_syntax (fn s : ByteArray) (base bits : Int) (ev : Value) (w : World) (hlim : s.size ≤ 281474976710656) (hv : w.cell? ⟨7, 0, none⟩ = some ev) (hev : ev = .nilIface ∨ ∃ te pe, ev = .iface te pe) :
    Calls Tryz.prog 131 #[.string fn, .string s, .int .i64 base, .int .i64 bits, .iface 179 (.int .i64 2)] w fun e w' => ∃ N, e = .returned (.iface 181 (.pointer (some ⟨N, 0, none⟩))) ∧ w.heap.size ≤ N ∧ w'.heap[N]? = some (.cells #[.string fn, .string s, ev] 185 (0, 0)) ∧ Below w.heap.size w w' := Any.strconv_toError_syntax Tryz.laysC245 fn s base bits ev w hlim hv hev
def Tryz.lays321_ren : Go.Shelf.Ren := ⟨fun | 321 => 133 | n => n, fun | 5 => 5 | n => n, fun | n => n⟩
theorem Tryz.lays321 : Go.Proofs.Lays.n321 Tryz.prog Tryz.lays321_ren := {
  mixed := by kernel_rfl
  f321 := Tryz.func133.trans (congrArg some (by kernel_rfl))
  t5 := Tryz.underlying5
  a5 := Tryz.isAgg5
  z5 := Tryz.sizeOf5
  v5 := Tryz.zeroValue5 }
open Go.RowKit in
theorem Tryz.internal_strconv_lower (c : Int) (w : World) :
    Calls Tryz.prog 133 #[.int .u8 c] w fun e w' => e = .returned (.int .u8 (bits .or .u8 c 32)) ∧ w' = w := Any.internal_strconv_lower Tryz.lays321 c w
open Go.RowKit in
theorem Tryz.strconv_toError_range (fn s : ByteArray) (base bits : Int) (ev : Value) (w : World) (hlim : s.size ≤ 281474976710656) (hv : w.cell? ⟨8, 0, none⟩ = some ev) (hev : ev = .nilIface ∨ ∃ te pe, ev = .iface te pe) :
    Calls Tryz.prog 131 #[.string fn, .string s, .int .i64 base, .int .i64 bits, .iface 179 (.int .i64 1)] w fun e w' => ∃ N, e = .returned (.iface 181 (.pointer (some ⟨N, 0, none⟩))) ∧ w.heap.size ≤ N ∧ w'.heap[N]? = some (.cells #[.string fn, .string s, ev] 185 (0, 0)) ∧ Below w.heap.size w w' := Any.strconv_toError_range Tryz.laysC245 fn s base bits ev w hlim hv hev
def Tryz.lays219_ren : Go.Shelf.Ren := ⟨fun | 219 => 85 | 217 => 103 | 225 => 104 | 224 => 105 | 267 => 106 | 266 => 118 | 314 => 119 | n => n, fun | 9 => 9 | 3 => 3 | 4 => 4 | 5 => 5 | 46 => 125 | 146 => 164 | 51 => 160 | n => n, fun | 1 => 1 | n => n⟩
theorem Tryz.lays219 : Go.Proofs.Lays.n219 Tryz.prog Tryz.lays219_ren := {
  mixed := by kernel_rfl
  f217 := Tryz.func103.trans (congrArg some (by kernel_rfl))
  f219 := Tryz.func85.trans (congrArg some (by kernel_rfl))
  f224 := Tryz.func105.trans (congrArg some (by kernel_rfl))
  f225 := Tryz.func104.trans (congrArg some (by kernel_rfl))
  f266 := Tryz.func118.trans (congrArg some (by kernel_rfl))
  f267 := Tryz.func106.trans (congrArg some (by kernel_rfl))
  f314 := Tryz.func119.trans (congrArg some (by kernel_rfl))
  t3 := Tryz.underlying3
  a3 := Tryz.isAgg3
  z3 := Tryz.sizeOf3
  v3 := Tryz.zeroValue3
  t4 := Tryz.underlying4
  a4 := Tryz.isAgg4
  z4 := Tryz.sizeOf4
  v4 := Tryz.zeroValue4
  t5 := Tryz.underlying5
  a5 := Tryz.isAgg5
  z5 := Tryz.sizeOf5
  v5 := Tryz.zeroValue5
  t9 := Tryz.underlying9
  a9 := Tryz.isAgg9
  z9 := Tryz.sizeOf9
  v9 := Tryz.zeroValue9
  t46 := Tryz.underlying125
  a46 := Tryz.isAgg125
  z46 := Tryz.sizeOf125
  v46 := Tryz.zeroValue125
  t51 := Tryz.underlying160
  a51 := Tryz.isAgg160
  z51 := Tryz.sizeOf160
  v51 := Tryz.zeroValue160
  t146 := Tryz.underlying164
  a146 := Tryz.isAgg164
  z146 := Tryz.sizeOf164
  v146 := Tryz.zeroValue164
  g1 := by kernel_rfl }
open Go.RowKit Go.Lib in
theorem Tryz.stringslite_Index_one (s : ByteArray) (c : UInt8) (w : World) :
    Calls Tryz.prog 85 #[.string s, .string ⟨#[c]⟩] w fun e w' => e = .returned (.int .i64 (Lib.indexByte s.data.toList c)) ∧ w' = w := Any.stringslite_Index_one Tryz.lays219 s c w
def Tryz.lays206_ren : Go.Shelf.Ren := ⟨fun | 206 => 132 | n => n, fun | 9 => 9 | 4 => 4 | 3 => 3 | n => n, fun | n => n⟩
end Go.Proofs
/- strconv.ParseUint to the base 16. -/
namespace Go.Proofs.YtbnnhbmnddaafaaGreatDoor
open Go Go.RowKit Go.Kt Go.Kt.Rg

theorem or_32 : ∀ c, c < 256 → bits .or .u8 ((c : Nat) : Int) 32 = ((c ||| 32 : Nat) : Int) := by decide +kernel
theorem or_ge : ∀ c, c < 256 → c ≤ c ||| 32 := by decide +kernel
theorem or_bd : ∀ c, c < 256 → c ||| 32 < 256 := by decide +kernel
theorem or_dig : ∀ c, c < 256 → 97 ≤ c ||| 32 → c ||| 32 ≤ 122 → 57 < c ∧ c ≠ 95 := by decide +kernel
def PuOut (T : TypeId) (K : Value → Prop) (o : Option Nat) (e : Ending) : Prop :=
  match o with
  | some n => e = .returned (.tuple #[.int .u64 (n : Nat), .nilIface])
  | none => ∃ (z : Int) (k : Value), e = .returned (.tuple #[.int .u64 z, .iface T k]) ∧ K k
theorem PuOut.yes {T : TypeId} {K : Value → Prop} {o : Option Nat} {n : Nat} (h : o = some n) : PuOut T K o (.returned (.tuple #[.int .u64 (n : Nat), .nilIface])) := by subst h; rfl
theorem PuOut.no {T : TypeId} {K : Value → Prop} {o : Option Nat} (z : Int) {k : Value} (h : o = none) (hk : K k) : PuOut T K o (.returned (.tuple #[.int .u64 z, .iface T k])) := by subst h; exact ⟨z, k, rfl, hk⟩
def PuErr (k : Value) : Prop := k = .int .i64 1 ∨ k = .int .i64 2
theorem puF_some {mx n d : Nat} {c : UInt8} {t : List UInt8} (h : digV c.toNat = some d) (h1 : d < 16) (h2 : n * 16 + d ≤ mx) : puF mx n (c :: t) = puF mx (n * 16 + d) t := by
  rw [puF, h]; simp only; rw [if_neg (by omega), if_neg (by omega)]
theorem puF_over {mx n d : Nat} {c : UInt8} {t : List UInt8} (h : digV c.toNat = some d) (h1 : d < 16) (h2 : mx < n * 16 + d) : puF mx n (c :: t) = none := by
  rw [puF, h]; simp only; rw [if_neg (by omega), if_pos h2]
theorem puF_big {mx n d : Nat} {c : UInt8} {t : List UInt8} (h : digV c.toNat = some d) (h1 : 16 ≤ d) : puF mx n (c :: t) = none := by
  rw [puF, h]; simp only; rw [if_pos h1]
theorem puF_bad {mx n : Nat} {c : UInt8} {t : List UInt8} (h : digV c.toNat = none) : puF mx n (c :: t) = none := by
  rw [puF, h]
theorem digV_dig {c : Nat} (h1 : 48 ≤ c) (h2 : c ≤ 57) : digV c = some (c - 48) := by unfold digV; rw [if_pos ⟨h1, h2⟩]
theorem digV_let {c : Nat} (h : 57 < c) (h1 : 97 ≤ c ||| 32) (h2 : c ||| 32 ≤ 122) : digV c = some ((c ||| 32) - 87) := by unfold digV; rw [if_neg (by omega), if_pos ⟨h1, h2⟩]
theorem digV_no {c : Nat} (h : ¬ (48 ≤ c ∧ c ≤ 57)) (h1 : ¬ (97 ≤ c ||| 32 ∧ c ||| 32 ≤ 122)) : digV c = none := by unfold digV; rw [if_neg h, if_neg h1]

end Go.Proofs.YtbnnhbmnddaafaaGreatDoor
/- strconv.ParseUint to the base 16, of 21 bits. -/
namespace Go.Proofs.YtbnnhbmnddaafaaGreatDoor
open Go Go.RowKit Go.Kt Go.Kt.Rg

end Go.Proofs.YtbnnhbmnddaafaaGreatDoor
/- spelt, the point that a text may begin with. -/
namespace Go.Proofs.YtbnnhbmnddaafaaGreatDoor
open Go Go.RowKit Go.Kt Go.Kt.Rg

def SVar (w : World) : Prop := (∃ t p, w.cell? ⟨7, 0, none⟩ = some (.iface t p)) ∧ ∃ t p, w.cell? ⟨8, 0, none⟩ = some (.iface t p)
theorem SVar.below {A B : World} (h : SVar A) (hb : Below A.heap.size A B) : SVar B := by
  obtain ⟨⟨t, p, h1⟩, t2, p2, h2⟩ := h
  exact ⟨⟨t, p, (hb.cell (lt_of_cell h1)).trans h1⟩, t2, p2, (hb.cell (lt_of_cell h2)).trans h2⟩
theorem upB_ix : ∀ l : List UInt8, (Lib.indexByte l 125 = -1 ∧ upB l = l) ∨ ∃ o : Nat, Lib.indexByte l 125 = o ∧ o < l.length ∧ upB l = l.take o
  | [] => .inl ⟨rfl, rfl⟩
  | c :: t => by
    by_cases hc : c = 125
    · subst hc
      exact .inr ⟨0, by simp [Lib.indexByte], by simp, by simp [upB]⟩
    · have e : upB (c :: t) = c :: upB t := by simp [upB, hc]
      have hc' : (c == 125) = false := by simpa using hc
      rcases upB_ix t with ⟨h1, h2⟩ | ⟨o, h1, h2, h3⟩
      · exact .inl ⟨by simp [Lib.indexByte, hc', h1], by rw [e, h2]⟩
      · refine .inr ⟨o + 1, ?_, by simp; omega, by rw [e, h3]; rfl⟩
        unfold Lib.indexByte
        rw [hc', h1]
        have : ((o : Int) == -1) = false := by rw [beq_eq_false_iff_ne]; omega
        simp [this]

theorem size_mk (l : List UInt8) : (⟨l.toArray⟩ : ByteArray).size = l.length := by show l.toArray.size = _; simp
theorem upB_len (l : List UInt8) : (upB l).length ≤ l.length := by unfold upB; exact (List.takeWhile_sublist _).length_le

end Go.Proofs.YtbnnhbmnddaafaaGreatDoor
/- The scanner in memory: since, unit, add. -/
namespace Go.Proofs.YtbnnhbmnddaafaaGreatDoor
open Go Go.RowKit Go.Kt Go.Shelf
attribute [local go_sem] Oper.semAt_some

structure SEnv (w : World) : Prop where
  tabs : Lib.Utf8Tabs 2 3 w
  err : ErrT w
  sv : SVar w
theorem SEnv.below {A B : World} (h : SEnv A) (hb : Below A.heap.size A B) : SEnv B := by
  have h1 : 2 < A.heap.size := lt_of_cell (h.tabs.1 0 (by decide))
  have h2 : 3 < A.heap.size := lt_of_cell (h.tabs.2 0 (by decide)).1
  have h3 : 0 < A.heap.size := lt_of_cell h.err
  exact ⟨tabs_below h.tabs (by omega) hb, h.err.below h3 hb, h.sv.below hb⟩

structure Tk where
  kind : Nat
  text : List UInt8
  pl : Pl
structure Sc where
  st : Nat
  here : Pl
  «from» : Pl
  text : List UInt8
  quote : Pl
  behind : Nat
  toks : List Tk
def u8V (l : List UInt8) : List Value := l.map fun b => Value.int .u8 b.toNat
def tkC (t : Tk) : List Value := [.int .i64 (t.kind : Nat), .string ⟨t.text.toArray⟩, .int .i64 (t.pl.1 : Nat), .int .i64 (t.pl.2.1 : Nat), .int .i64 (t.pl.2.2 : Nat)]
def tksC (l : List Tk) : List Value := l.flatMap tkC
abbrev scC (s : ByteArray) (st l1 c1 i1 l2 c2 i2 : Int) (tv : Value) (l3 c3 i3 bh : Int) (kv : Value) : Array Value :=
  #[.string s, .int .i64 st, .int .i64 l1, .int .i64 c1, .int .i64 i1, .int .i64 l2, .int .i64 c2, .int .i64 i2, tv, .int .i64 l3, .int .i64 c3, .int .i64 i3, .int .i64 bh, kv]
abbrev scA (s : ByteArray) (c : Sc) (tv kv : Value) : Array Value :=
  scC s (c.st : Nat) (c.here.1 : Nat) (c.here.2.1 : Nat) (c.here.2.2 : Nat) (c.from.1 : Nat) (c.from.2.1 : Nat) (c.from.2.2 : Nat) tv (c.quote.1 : Nat) (c.quote.2.1 : Nat) (c.quote.2.2 : Nat) (c.behind : Nat) kv
def ScAt (D g : Nat) (s : ByteArray) (c : Sc) (w : World) : Prop :=
  ∃ tv kv, w.heap[g]? = some (.cells (scA s c tv kv) 43 (0, 0)) ∧ True ∧
    OwnS (fun b => D ≤ b ∧ b ≠ g) 5 1 tv c.text.length (u8V c.text) w ∧
    OwnS (fun b => D ≤ b ∧ b ≠ g ∧ tv.ownBlock ≠ some b) 30 5 kv c.toks.length (tksC c.toks) w
theorem ScAt.below {D g : Nat} {s : ByteArray} {c : Sc} {A B : World} (h : ScAt D g s c A) (hb : Below A.heap.size A B) : ScAt D g s c B := by
  obtain ⟨tv, kv, h1, h2, h3, h4⟩ := h
  have hk : Keep (fun _ => False) A B := ⟨hb.os, hb.tape, hb.output, hb.size, fun k hk _ => hb.block k hk⟩
  exact ⟨tv, kv, (hb.block g (Array.getElem?_eq_some_iff.1 h1).1).trans h1, h2, h3.keep hk (fun _ h => h.elim), h4.keep hk (fun _ h => h.elim)⟩

def unitW (s : ByteArray) (i : Nat) : Nat := if i < s.size then (Utf8.decode s i).2 else 0
theorem decP_W (s : ByteArray) (i : Nat) : ∃ r, decP s i = (r, ((unitW s i : Nat) : Int)) := by
  unfold unitW
  by_cases h : i < s.size
  · rw [if_pos h, decP_in s i h]; exact ⟨_, rfl⟩
  · rw [if_neg h, decP_out s i (by omega)]; exact ⟨_, rfl⟩
theorem unitW_bd (s : ByteArray) (i : Nat) (h : i ≤ s.size) : unitW s i ≤ 4 ∧ i + unitW s i ≤ s.size ∧ (i < s.size → 1 ≤ unitW s i) := by
  unfold unitW
  by_cases h1 : i < s.size
  · rw [if_pos h1]
    have := dec_width s i h1
    omega
  · rw [if_neg h1]; omega

set_option maxRecDepth 100000 in
theorem since_any (s : ByteArray) (st l1 c1 l2 c2 l3 c3 i3 bh : Int) (i1 i2 : Nat) (tv kv : Value) (g : Nat) (w : World) (hg : w.heap[g]? = some (.cells (scC s st l1 c1 i1 l2 c2 i2 tv l3 c3 i3 bh kv) 43 (0, 0))) (h1 : i2 ≤ i1) (h2 : i1 ≤ s.size) :
    Calls Tryz.prog 43 #[.pointer (some ⟨g, 0, none⟩)] w fun e w' => e = .returned (.string (s.extract i2 i1)) ∧ Below w.heap.size w w' := by
  have c0 : w.cell? ⟨g, 0, none⟩ = some (.string s) := by rw [Lib.cell_of_heap hg]; rfl
  have c4 : w.cell? ⟨g, 4, none⟩ = some (.int .i64 i1) := by rw [Lib.cell_of_heap hg]; rfl
  have c7 : w.cell? ⟨g, 7, none⟩ = some (.int .i64 i2) := by rw [Lib.cell_of_heap hg]; rfl
  clear hg
  go_enter Tryz.func43, Tryz.ntmps43
  go_wp2
  go_quiet (fail)
  go_wp2
  go_ret
  exact ⟨rfl, below_drewN (Below.refl _ _) _⟩

set_option maxRecDepth 100000 in
theorem sunit_any (s : ByteArray) (st l1 c1 l2 c2 i2 l3 c3 i3 bh : Int) (i : Nat) (tv kv : Value) (g : Nat) (w : World) (hg : w.heap[g]? = some (.cells (scC s st l1 c1 i l2 c2 i2 tv l3 c3 i3 bh kv) 43 (0, 0))) (h2 : i ≤ s.size) (hs : s.size ≤ 140737488351232) (hE : SEnv w) :
    Calls Tryz.prog 64 #[.pointer (some ⟨g, 0, none⟩)] w fun e w' => e = .returned (.string (s.extract i (i + unitW s i))) ∧ Below w.heap.size w w' := by
  have c0 : w.cell? ⟨g, 0, none⟩ = some (.string s) := by rw [Lib.cell_of_heap hg]; rfl
  have c4 : w.cell? ⟨g, 4, none⟩ = some (.int .i64 i) := by rw [Lib.cell_of_heap hg]; rfl
  have hgl : g < w.heap.size := (Array.getElem?_eq_some_iff.1 hg).1
  obtain ⟨r, hr⟩ := decP_W s i
  obtain ⟨b1, b2, b3⟩ := unitW_bd s i h2
  have C := Lib.hid (fun w h => utfDecode_any s i w h (by omega))
  rw [hr] at C
  generalize unitW s i = n at *
  have HE := Lib.hid hE
  have HS0 : (s.extract i s.size).extract 0 n = s.extract i (i + n) := by
    apply ByteArray.ext
    simp only [ByteArray.data_extract, Array.extract_extract]
    congr 1
    omega
  have HS : ∀ w, (Instr.slice 9 (.string (s.extract i s.size)) none (some (.int .i64 (n : Nat))) none).run Tryz.prog w = .ok (.string (s.extract i (i + n))) w := fun w => by
    rw [run_slice_string_h (ht := Tryz.underlying9) (h0 := by omega) (h2 := by rw [ByteArray.size_extract]; omega)]
    rw [Int.toNat_natCast, HS0]
  clear hg hr b3 hE HS0
  go_enter Tryz.func64, Tryz.ntmps64
  go_wp2
  go_region_with (first
    | (go_at_call 21; refine (C.out w.drew HE.out.tabs).mono ?_; rintro e w1 ⟨rfl, hb⟩
       have k0 := (hb.cell (p := ⟨g, 0, none⟩) hgl).trans c0
       have k4 := (hb.cell (p := ⟨g, 4, none⟩) hgl).trans c4
       have HB := Lib.hid (((Below.refl _ w).drew).trans hb)
       clear hb c0 c4))
  all_goals
    go_wp2_with fail
    go_quiet (fail)
    go_wp2
    go_ret
    exact ⟨rfl, below_drewN HB.out _⟩
end Go.Proofs.YtbnnhbmnddaafaaGreatDoor
