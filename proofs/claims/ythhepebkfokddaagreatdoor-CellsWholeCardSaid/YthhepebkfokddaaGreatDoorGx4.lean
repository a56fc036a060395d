/- Parts of the proof of what the last text says. -/
import Derived.Test.YthhepebkfokddaaGreatDoorProg
import Derived.WalkKit
import Derived.WalkLawsBesides
import Derived.WalkSpells
import Derived.Lib.Hide
import Derived.Deep.QuietTactic
import Derived.BigQuiet
import Derived.Shelf.Strings.Builder1
import Derived.Shelf.Small.Utf8
import Derived.Shelf.Strings.BuilderF
import Derived.Shelf.Strings.BuilderK
import Derived.Shelf.Unicode.DecodeSlow
import Derived.Shelf.Unicode.DecodeAny
import Derived.Shelf.Unicode.DecodeLast
import Derived.Shelf.Strings.BuilderCap
import Derived.Handy
namespace Go.Proofs.YthhepebkfokddaaGreatDoor
open Go Go.RowKit
def inB (c lo hi : Int) : Bool := decide (lo ≤ c) && decide (c ≤ hi)
def leadI (c : Int) : Int × Int × Int :=
 if c < 128 then (1, 0, 0) else if inB c 194 223 then (2, 128, 191) else if c == 224 then (3, 160, 191) else if c == 237 then (3, 128, 159)
 else if inB c 225 239 then (3, 128, 191) else if c == 240 then (4, 144, 191) else if c == 244 then (4, 128, 143) else if inB c 241 243 then (4, 128, 191) else (0, 0, 0)
def bAt (s : ByteArray) (i : Nat) : Int := (s.data.toList.getD i 0).toNat
theorem bAt_eq (s : ByteArray) (i : Nat) (h : i < s.size) : bAt s i = (s[i]'h).toNat := by
 have h' : i < s.data.toList.length := by simpa using h
 unfold bAt
 rw [List.getD_eq_getElem?_getD, List.getElem?_eq_getElem h']; rfl
def begunC (s : ByteArray) (i : Nat) (lo hi : Int) (k : Nat) : Bool := if k = 1 then inB (bAt s (i + k)) lo hi else inB (bAt s (i + k)) 128 191
def begunK (s : ByteArray) (i : Nat) (n lo hi : Int) : Nat → Nat → Nat
 | 0, k => k
 | f + 1, k => if (k : Int) < n ∧ i + k < s.size ∧ begunC s i lo hi k = true then begunK s i n lo hi f (k + 1) else k
def begunI (s : ByteArray) (i : Nat) : Int × Int :=
 if (leadI (bAt s i)).1 == 0 then (0, 0) else ((begunK s i (leadI (bAt s i)).1 (leadI (bAt s i)).2.1 (leadI (bAt s i)).2.2 4 1 : Nat), (leadI (bAt s i)).1)
theorem leadI_bd (c : Int) : 0 ≤ (leadI c).1 ∧ (leadI c).1 ≤ 4 := by
 unfold leadI; repeat' split
 all_goals simp
end Go.Proofs.YthhepebkfokddaaGreatDoor
namespace Go.Proofs
open Go.Shelf
def Tryz.lays120_ren : Go.Shelf.Ren := ⟨fun | 120 => 95 | n => n, fun | 5 => 5 | 4 => 4 | n => n, fun | n => n⟩
def Tryz.lays260_ren : Go.Shelf.Ren := ⟨fun | 260 => 122 | n => n, fun | 9 => 9 | 21 => 21 | 3 => 3 | 4 => 4 | 5 => 5 | 119 => 195 | 0 => 0 | 46 => 169 | 139 => 198 | 138 => 197 | n => n, fun | 3 => 3 | 4 => 4 | n => n⟩
def Tryz.lays197_ren : Go.Shelf.Ren := ⟨fun | 197 => 94 | 260 => 122 | n => n, fun | 9 => 9 | 21 => 21 | 3 => 3 | 4 => 4 | 5 => 5 | 105 => 67 | 119 => 195 | 0 => 0 | 46 => 169 | 139 => 198 | 138 => 197 | n => n, fun | 3 => 3 | 4 => 4 | n => n⟩
theorem Tryz.lays197 : Go.Proofs.Lays.n197 Tryz.prog Tryz.lays197_ren := {
 mixed := by kernel_rfl
 f197 := Tryz.func94.trans (congrArg some (by kernel_rfl))
 f260 := Tryz.func122.trans (congrArg some (by kernel_rfl))
 t0 := Tryz.underlying0
 a0 := Tryz.isAgg0
 z0 := Tryz.sizeOf0
 v0 := Tryz.zeroValue0
 t3 := Tryz.underlying3
 a3 := Tryz.isAgg3
 z3 := Tryz.sizeOf3
 v3 := Tryz.zeroValue3
 t4 := Tryz.underlying4
 a4 := Tryz.isAgg4
 z4 := Tryz.sizeOf4
 v4 := Tryz.zeroValue4
 t5 := Tryz.underlying5
 a5 := Tryz.isAgg5
 z5 := Tryz.sizeOf5
 v5 := Tryz.zeroValue5
 t9 := Tryz.underlying9
 a9 := Tryz.isAgg9
 z9 := Tryz.sizeOf9
 v9 := Tryz.zeroValue9
 t21 := Tryz.underlying21
 a21 := Tryz.isAgg21
 z21 := Tryz.sizeOf21
 v21 := Tryz.zeroValue21
 t46 := Tryz.underlying169
 a46 := Tryz.isAgg169
 z46 := Tryz.sizeOf169
 v46 := Tryz.zeroValue169
 t105 := Tryz.underlying67
 a105 := Tryz.isAgg67
 z105 := Tryz.sizeOf67
 v105 := Tryz.zeroValue67
 t119 := Tryz.underlying195
 a119 := Tryz.isAgg195
 z119 := Tryz.sizeOf195
 t138 := Tryz.underlying197
 a138 := Tryz.isAgg197
 z138 := Tryz.sizeOf197
 v138 := Tryz.zeroValue197
 t139 := Tryz.underlying198
 a139 := Tryz.isAgg198
 z139 := Tryz.sizeOf198
 v139 := Tryz.zeroValue198
 g3 := by kernel_rfl
 g4 := by kernel_rfl }
open Go.RowKit Go.Lib in
theorem Tryz.utf8_DecodeRuneInString (s : ByteArray) (w : World) (hT : Lib.Utf8Tabs 3 4 w) :
 Calls Tryz.prog 94 #[.string s] w fun e w' => e = .returned (.tuple #[.int .i32 (Lib.decodeGo s).1, .int .i64 (Lib.decodeGo s).2]) ∧ Below w.heap.size w w' := Any.utf8_DecodeRuneInString Tryz.lays197 s w hT
def Tryz.lays271_ren : Go.Shelf.Ren := ⟨fun | 271 => 56 | 120 => 95 | 197 => 94 | 260 => 122 | n => n, fun | 9 => 9 | 21 => 21 | 3 => 3 | 4 => 4 | 5 => 5 | 105 => 67 | 119 => 195 | 0 => 0 | 46 => 169 | 139 => 198 | 138 => 197 | n => n, fun | 3 => 3 | 4 => 4 | n => n⟩
theorem Tryz.lays271 : Go.Proofs.Lays.n271 Tryz.prog Tryz.lays271_ren := {
 mixed := by kernel_rfl
 f120 := Tryz.func95.trans (congrArg some (by kernel_rfl))
 f197 := Tryz.func94.trans (congrArg some (by kernel_rfl))
 f260 := Tryz.func122.trans (congrArg some (by kernel_rfl))
 f271 := Tryz.func56.trans (congrArg some (by kernel_rfl))
 t0 := Tryz.underlying0
 a0 := Tryz.isAgg0
 z0 := Tryz.sizeOf0
 v0 := Tryz.zeroValue0
 t3 := Tryz.underlying3
 a3 := Tryz.isAgg3
 z3 := Tryz.sizeOf3
 v3 := Tryz.zeroValue3
 t4 := Tryz.underlying4
 a4 := Tryz.isAgg4
 z4 := Tryz.sizeOf4
 v4 := Tryz.zeroValue4
 t5 := Tryz.underlying5
 a5 := Tryz.isAgg5
 z5 := Tryz.sizeOf5
 v5 := Tryz.zeroValue5
 t9 := Tryz.underlying9
 a9 := Tryz.isAgg9
 z9 := Tryz.sizeOf9
 v9 := Tryz.zeroValue9
 t21 := Tryz.underlying21
 a21 := Tryz.isAgg21
 z21 := Tryz.sizeOf21
 v21 := Tryz.zeroValue21
 t46 := Tryz.underlying169
 a46 := Tryz.isAgg169
 z46 := Tryz.sizeOf169
 v46 := Tryz.zeroValue169
 t105 := Tryz.underlying67
 a105 := Tryz.isAgg67
 z105 := Tryz.sizeOf67
 v105 := Tryz.zeroValue67
 t119 := Tryz.underlying195
 a119 := Tryz.isAgg195
 z119 := Tryz.sizeOf195
 t138 := Tryz.underlying197
 a138 := Tryz.isAgg197
 z138 := Tryz.sizeOf197
 v138 := Tryz.zeroValue197
 t139 := Tryz.underlying198
 a139 := Tryz.isAgg198
 z139 := Tryz.sizeOf198
 v139 := Tryz.zeroValue198
 g3 := by kernel_rfl
 g4 := by kernel_rfl }
open Go.RowKit Go.Lib in
theorem Tryz.utf8_DecodeLastRuneInString (s : ByteArray) (w : World) (hs : s.size ≤ 9223372036854775807) (hT : Lib.Utf8Tabs 3 4 w) :
 Calls Tryz.prog 56 #[.string s] w fun e w' => e = .returned (.tuple #[.int .i32 (Lib.decodeLastL s.data.toList).1, .int .i64 (Lib.decodeLastL s.data.toList).2]) ∧ Below w.heap.size w w' := Any.utf8_DecodeLastRuneInString Tryz.lays271 s w hs hT
end Go.Proofs
namespace Go.Proofs.YthhepebkfokddaaGreatDoor
open Go Go.RowKit
def wideI (s : ByteArray) (i : Nat) : Int := if (begunI s i).1 != (begunI s i).2 then 0 else (begunI s i).2
def numI (t : ByteArray) : Int :=
 if t.size = 1 then bAt t 0 else if t.size = 2 then bAt t 0 % 32 * 64 + bAt t 1 % 64
 else if t.size = 3 then (bAt t 0 % 16 * 64 + bAt t 1 % 64) * 64 + bAt t 2 % 64
 else ((bAt t 0 % 8 * 64 + bAt t 1 % 64) * 64 + bAt t 2 % 64) * 64 + bAt t 3 % 64
end Go.Proofs.YthhepebkfokddaaGreatDoor
namespace Go.Kt.Bits
def dsum (B : Nat) : Nat → Nat → Nat
 | 0, _ => 0
 | n + 1, x => x % B + dsum B n (x / B)
def m0 : Nat → Nat | 0 => 0 | n + 1 => 1 + 4 * m0 n
def m1 : Nat → Nat | 0 => 0 | n + 1 => 3 + 16 * m1 n
def m2 : Nat → Nat | 0 => 0 | n + 1 => 15 + 256 * m2 n
def Dig (B d : Nat) : Nat → Nat → Prop
 | 0, x => x = 0
 | n + 1, x => x % B ≤ d ∧ Dig B d n (x / B)
def pop (x : Nat) : Nat := (List.range 64).countP (fun b => x.testBit b)
def cnt (p : Nat → Bool) (n : Nat) : Nat := (List.range n).countP p
theorem cnt_zero (p : Nat → Bool) : cnt p 0 = 0 := rfl
theorem cnt_succ (p : Nat → Bool) (n : Nat) : cnt p (n + 1) = cnt p n + if p n then 1 else 0 := by
 simp [cnt, List.range_succ, List.countP_append, List.countP_cons]
theorem cnt_add (p : Nat → Bool) (a m : Nat) : cnt p (a + m) = cnt p a + (List.range m).countP (fun b => p (a + b)) := by
 rw [cnt, List.range_add, List.countP_append, List.countP_map]; rfl
theorem cnt_mono (p : Nat → Bool) {a b : Nat} (h : a ≤ b) : cnt p a ≤ cnt p b := by
 obtain ⟨m, rfl⟩ := Nat.exists_eq_add_of_le h
 rw [cnt_add]; omega
theorem cnt_le (p : Nat → Bool) (n : Nat) : cnt p n ≤ n := by
 have := List.countP_le_length (p := p) (l := List.range n); simpa [cnt] using this
def IsNth (p : Nat → Bool) (n x : Nat) : Prop := p x = true ∧ cnt p x = n
theorem IsNth.uniq {p : Nat → Bool} {n x y : Nat} (h : IsNth p n x) (k : IsNth p n y) : x = y := by
 have aux : ∀ {x y}, IsNth p n x → IsNth p n y → ¬ x < y := by
  intro x y h k hlt
  have := cnt_mono p (show x + 1 ≤ y by omega)
  rw [cnt_succ, h.1, h.2, k.2] at this
  simp at this
  omega
 have := aux h k; have := aux k h; omega
def MaskOf (p : Nat → Bool) (i m : Nat) : Prop := m < 2 ^ 64 ∧ ∀ b, b < 64 → m.testBit b = p (64 * i + b)
def Strip (x r m : Nat) : Prop := m ≤ x ∧ ∀ b, m.testBit b = (x.testBit b && decide (r ≤ cnt x.testBit b))
theorem count_front (q : Nat → Bool) (hm : ∀ a b, a ≤ b → q a = true → q b = true) : ∀ n, (∀ t, t < cnt (fun i => !q i) n → q t = false) ∧ (∀ t, cnt (fun i => !q i) n ≤ t → t < n → q t = true)
 | 0 => ⟨fun t h => by simp [cnt_zero] at h, fun t _ h => by omega⟩
 | n + 1 => by
   obtain ⟨h1, h2⟩ := count_front q hm n
   have hle := cnt_le (fun i => !q i) n
   rw [cnt_succ]
   by_cases hq : q n = true
   ·simp only [hq, Bool.not_true, Bool.false_eq_true, if_false, Nat.add_zero]
    refine ⟨h1, fun t a b => ?_⟩
    rcases Nat.lt_or_eq_of_le (Nat.le_of_lt_succ b) with hb | hb
    ·exact h2 t a hb
    ·rw [hb]; exact hq
   ·simp only [hq]
    have hall : cnt (fun i => !q i) n = n := by
     rcases Nat.lt_or_eq_of_le hle with hl | hl
     ·exact absurd (hm _ _ (Nat.le_of_lt hl) (h2 _ (Nat.le_refl _) hl)) hq
     ·exact hl
    rw [hall] at h1 ⊢
    simp only [Bool.not_false, if_true]
    refine ⟨fun t ht => ?_, fun t a b => by omega⟩
    rcases Nat.lt_or_eq_of_le (Nat.le_of_lt_succ ht) with hb | hb
    ·exact h1 t hb
    ·rw [hb]; simpa using hq
def bruijn (k : Nat) : Nat := (2 ^ k * 0x03f79d71b4ca8b09) % 2 ^ 64 / 2 ^ 58
def bruijnTab : List Nat := [0, 1, 56, 2, 57, 49, 28, 3, 61, 58, 42, 50, 38, 29, 17, 4, 62, 47, 59, 36, 45, 43, 51, 22, 53, 39, 33, 30, 24, 18, 12, 5, 63, 55, 48, 27, 60, 41, 37, 16, 46, 35, 44, 21, 52, 32, 23, 11, 54, 26, 40, 15, 34, 20, 31, 10, 25, 14, 19, 9, 13, 8, 7, 6]
open Go Go.RowKit
end Go.Kt.Bits
