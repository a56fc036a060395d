/- Parts of the proof of what the last text says. -/
import Derived.WalkKit
import Derived.Test.YtjbkpcdpdifpnaaGreatDoorCk2
import Derived.Test.YtjbkpcdpdifpnaaGreatDoorCk1
import Derived.RegionTactic
import Derived.ChangeAlike
import Derived.BigRegion
import Derived.StillTailTactics
import Derived.IntWalk
/- Bits of a number of 64 bits, and what they count: no run in this text. -/
namespace Go.Kt.Bits
def dsum (B : Nat) : Nat → Nat → Nat
  | 0, _ => 0
  | n + 1, x => x % B + dsum B n (x / B)
def m0 : Nat → Nat | 0 => 0 | n + 1 => 1 + 4 * m0 n
def m1 : Nat → Nat | 0 => 0 | n + 1 => 3 + 16 * m1 n
def m2 : Nat → Nat | 0 => 0 | n + 1 => 15 + 256 * m2 n
def Dig (B d : Nat) : Nat → Nat → Prop
  | 0, x => x = 0
  | n + 1, x => x % B ≤ d ∧ Dig B d n (x / B)

theorem and_split (k a b : Nat) : a &&& b = (a % 2 ^ k &&& b % 2 ^ k) + 2 ^ k * (a / 2 ^ k &&& b / 2 ^ k) := by
  rw [← Nat.and_mod_two_pow, ← Nat.and_div_two_pow]
  exact (Nat.mod_add_div _ _).symm
def pop (x : Nat) : Nat := (List.range 64).countP (fun b => x.testBit b)
theorem countP_range_le (p : Nat → Bool) (m n : Nat) (h : m ≤ n) : (List.range n).countP (fun b => decide (b < m) && p b) = (List.range m).countP p := by
  obtain ⟨k, rfl⟩ := Nat.exists_eq_add_of_le h
  rw [List.range_add, List.countP_append, List.countP_map]
  have e1 : (List.range k).countP ((fun b => decide (b < m) && p b) ∘ (fun x => m + x)) = 0 := by
    rw [List.countP_eq_zero]; intro a _; simp; omega
  rw [e1, Nat.add_zero]
  apply List.countP_congr
  intro a ha
  simp [List.mem_range.1 ha]
theorem pop_low (x m : Nat) (h : m ≤ 64) : pop (x &&& (2 ^ m - 1)) = (List.range m).countP (fun b => x.testBit b) := by
  rw [pop, ← countP_range_le _ m 64 h]
  apply List.countP_congr
  intro a _
  simp
theorem testBit_or_pow (x k b : Nat) : (x ||| 2 ^ k).testBit b = (x.testBit b || decide (k = b)) := by
  rw [Nat.testBit_or, Nat.testBit_two_pow]
def cnt (p : Nat → Bool) (n : Nat) : Nat := (List.range n).countP p
theorem cnt_zero (p : Nat → Bool) : cnt p 0 = 0 := rfl
theorem cnt_succ (p : Nat → Bool) (n : Nat) : cnt p (n + 1) = cnt p n + if p n then 1 else 0 := by
  simp [cnt, List.range_succ, List.countP_append, List.countP_cons]
theorem cnt_add (p : Nat → Bool) (a m : Nat) : cnt p (a + m) = cnt p a + (List.range m).countP (fun b => p (a + b)) := by
  rw [cnt, List.range_add, List.countP_append, List.countP_map]; rfl
theorem cnt_mono (p : Nat → Bool) {a b : Nat} (h : a ≤ b) : cnt p a ≤ cnt p b := by
  obtain ⟨m, rfl⟩ := Nat.exists_eq_add_of_le h
  rw [cnt_add]; omega
theorem cnt_le (p : Nat → Bool) (n : Nat) : cnt p n ≤ n := by
  have := List.countP_le_length (p := p) (l := List.range n); simpa [cnt] using this
theorem cnt_list (L : List Nat) (h : L.Pairwise (· < ·)) (p : Nat → Bool) (hp : ∀ x, p x = decide (x ∈ L)) : ∀ n, cnt p n = L.countP (fun x => decide (x < n))
  | 0 => by rw [cnt_zero]; symm; rw [List.countP_eq_zero]; simp
  | n + 1 => by
    rw [cnt_succ, cnt_list L h p hp n, hp]
    have hnd : L.Nodup := h.imp (fun h => Nat.ne_of_lt h)
    have e : ∀ l : List Nat, l.countP (fun x => decide (x < n + 1)) = l.countP (fun x => decide (x < n)) + l.count n := by
      intro l
      induction l with
      | nil => rfl
      | cons a l ih =>
        rw [List.countP_cons, List.countP_cons, List.count_cons, ih]
        by_cases h1 : a < n
        · simp [h1, show a < n + 1 by omega, show a ≠ n by omega]; omega
        · by_cases h2 : a = n
          · simp [h2]; omega
          · simp [h1, show ¬ a < n + 1 by omega, h2]
    rw [e]
    congr 1
    by_cases hm : n ∈ L
    · rw [hnd.count, if_pos hm]; simp [hm]
    · rw [hnd.count, if_neg hm]; simp [hm]
theorem cnt_at (L : List Nat) (h : L.Pairwise (· < ·)) (p : Nat → Bool) (hp : ∀ x, p x = decide (x ∈ L)) (n : Nat) (hn : n < L.length) : cnt p L[n] = n := by
  rw [cnt_list L h p hp]
  generalize hv : L[n] = v
  rw [← List.take_append_drop n L, List.countP_append, ← hv]
  have e1 : (L.take n).countP (fun x => decide (x < L[n])) = n := by
    rw [List.countP_eq_length.2, List.length_take, Nat.min_eq_left (by omega)]
    intro a ha
    obtain ⟨i, hi, rfl⟩ := List.getElem_of_mem ha
    rw [List.length_take] at hi
    simp only [List.getElem_take, decide_eq_true_eq]
    exact List.pairwise_iff_getElem.1 h i n (by omega) hn (by omega)
  have e2 : (L.drop n).countP (fun x => decide (x < L[n])) = 0 := by
    rw [List.countP_eq_zero]
    intro a ha
    obtain ⟨i, hi, rfl⟩ := List.getElem_of_mem ha
    rw [List.length_drop] at hi
    simp only [List.getElem_drop, decide_eq_true_eq, Nat.not_lt]
    rcases Nat.eq_zero_or_pos i with h0 | h0
    · subst h0; simp
    · exact Nat.le_of_lt (List.pairwise_iff_getElem.1 h n (n + i) hn (by omega) (by omega))
  rw [e1, e2]; rfl
def IsNth (p : Nat → Bool) (n x : Nat) : Prop := p x = true ∧ cnt p x = n
theorem IsNth.uniq {p : Nat → Bool} {n x y : Nat} (h : IsNth p n x) (k : IsNth p n y) : x = y := by
  have aux : ∀ {x y}, IsNth p n x → IsNth p n y → ¬ x < y := by
    intro x y h k hlt
    have := cnt_mono p (show x + 1 ≤ y by omega)
    rw [cnt_succ, h.1, h.2, k.2] at this
    simp at this
    omega
  have := aux h k; have := aux k h; omega
theorem IsNth.list (L : List Nat) (h : L.Pairwise (· < ·)) (p : Nat → Bool) (hp : ∀ x, p x = decide (x ∈ L)) {n x : Nat} (hx : IsNth p n x) : ∃ hn : n < L.length, L[n] = x := by
  have hm : x ∈ L := by have := hx.1; rw [hp] at this; simpa using this
  obtain ⟨i, hi, rfl⟩ := List.getElem_of_mem hm
  have e := cnt_at L h p hp i hi
  have e' := hx.2
  rw [e] at e'
  subst e'
  exact ⟨hi, rfl⟩
theorem testBit_low (k y b : Nat) : (2 ^ k * (2 * y + 1)).testBit b = (decide (b = k) || (decide (k < b) && y.testBit (b - k - 1))) := by
  rw [Nat.testBit_two_pow_mul]
  rcases Nat.lt_trichotomy b k with h | h | h
  · simp [show ¬ b ≥ k by omega, show b ≠ k by omega, show ¬ k < b by omega]
  · subst h; simp [Nat.testBit_zero]
  · obtain ⟨c, rfl⟩ : ∃ c, b = k + c + 1 := ⟨b - k - 1, by omega⟩
    simp only [show k + c + 1 - k = c + 1 by omega, Nat.testBit_succ, show (2 * y + 1) / 2 = y by omega]
    simp [show k ≤ k + c + 1 by omega, show k + c + 1 ≠ k by omega, show k < k + c + 1 by omega, show c + 1 - 1 = c by omega]
theorem and_pred (k y : Nat) : (2 ^ k * (2 * y + 1)) &&& (2 ^ k * (2 * y + 1) - 1) = 2 ^ k * (2 * y) := by
  have hp : 0 < 2 ^ k := Nat.pos_of_ne_zero (by simp)
  have e1 : 2 ^ k * (2 * y + 1) - 1 = (2 ^ k - 1) + 2 ^ k * (2 * y) := by rw [Nat.mul_add, Nat.mul_one]; omega
  rw [e1, and_split k]
  have a1 : (2 ^ k * (2 * y + 1)) % 2 ^ k = 0 := by simp
  have a2 : (2 ^ k * (2 * y + 1)) / 2 ^ k = 2 * y + 1 := Nat.mul_div_cancel_left _ hp
  have a3 : (2 ^ k - 1 + 2 ^ k * (2 * y)) / 2 ^ k = 2 * y := by rw [Nat.add_mul_div_left _ _ hp, Nat.div_eq_of_lt (by omega), Nat.zero_add]
  rw [a1, a2, a3]
  simp only [Nat.zero_and, Nat.zero_add]
  congr 1
  have h := and_split 1 (2 * y + 1) (2 * y)
  rw [h]
  simp only [Nat.pow_one, show (2 * y + 1) % 2 = 1 by omega, show (2 * y) % 2 = 0 by omega, show (2 * y + 1) / 2 = y by omega, show 2 * y / 2 = y by omega, Nat.and_self]
  simp
theorem and_neg (k y N : Nat) (hk : k < N) (hx : 2 ^ k * (2 * y + 1) < 2 ^ N) : (2 ^ k * (2 * y + 1)) &&& (2 ^ N - 2 ^ k * (2 * y + 1)) = 2 ^ k := by
  have hp : 0 < 2 ^ k := Nat.pos_of_ne_zero (by simp)
  obtain ⟨m, rfl⟩ : ∃ m, N = k + 1 + m := ⟨N - k - 1, by omega⟩
  have hN : 2 ^ (k + 1 + m) = 2 ^ k * (2 * 2 ^ m) := by rw [Nat.pow_add, Nat.pow_succ, Nat.mul_assoc]
  have hy : 2 * y + 1 < 2 * 2 ^ m := by rw [hN] at hx; exact Nat.lt_of_mul_lt_mul_left hx
  have e1 : 2 ^ (k + 1 + m) - 2 ^ k * (2 * y + 1) = 2 ^ k * (2 * (2 ^ m - 1 - y) + 1) := by
    rw [hN, ← Nat.mul_sub]; congr 1; omega
  rw [e1, and_split k]
  have a1 : ∀ z, (2 ^ k * (2 * z + 1)) % 2 ^ k = 0 := fun z => by simp
  have a2 : ∀ z, (2 ^ k * (2 * z + 1)) / 2 ^ k = 2 * z + 1 := fun z => Nat.mul_div_cancel_left _ hp
  rw [a1, a1, a2, a2]
  simp only [Nat.zero_and, Nat.zero_add]
  have h := and_split 1 (2 * y + 1) (2 * (2 ^ m - 1 - y) + 1)
  rw [h]
  have e2 : y &&& (2 ^ m - 1 - y) = 0 := by
    apply Nat.eq_of_testBit_eq
    intro i
    rw [Nat.testBit_and, Nat.zero_testBit]
    by_cases hi : i < m
    · have : 2 ^ m - 1 - y = 2 ^ m - (y + 1) := by omega
      rw [this, Nat.testBit_two_pow_sub_succ (by omega)]
      simp [hi]
    · rw [Nat.testBit_lt_two_pow (x := y) (i := i) (Nat.lt_of_lt_of_le (by omega) (Nat.pow_le_pow_right (by omega) (show m ≤ i by omega)))]
      simp
  simp only [Nat.pow_one, show (2 * y + 1) % 2 = 1 by omega, show (2 * (2 ^ m - 1 - y) + 1) % 2 = 1 by omega, show (2 * y + 1) / 2 = y by omega, show (2 * (2 ^ m - 1 - y) + 1) / 2 = 2 ^ m - 1 - y by omega, e2]
  simp
def MaskOf (p : Nat → Bool) (i m : Nat) : Prop := m < 2 ^ 64 ∧ ∀ b, b < 64 → m.testBit b = p (64 * i + b)
theorem MaskOf.count {p : Nat → Bool} {i m : Nat} (h : MaskOf p i m) (r : Nat) (hr : r ≤ 64) : cnt p (64 * i + r) = cnt p (64 * i) + pop (m &&& (2 ^ r - 1)) := by
  rw [cnt_add, pop_low m r hr]
  congr 1
  apply List.countP_congr
  intro b hb
  rw [h.2 b (by have := List.mem_range.1 hb; omega)]
theorem MaskOf.all {p : Nat → Bool} {i m : Nat} (h : MaskOf p i m) : cnt p (64 * (i + 1)) = cnt p (64 * i) + pop m := by
  rw [show 64 * (i + 1) = 64 * i + 64 by omega, h.count 64 (by omega), Nat.and_two_pow_sub_one_eq_mod, Nat.mod_eq_of_lt h.1]
theorem MaskOf.zero (i : Nat) : MaskOf (fun _ => false) i 0 := ⟨by decide, fun b _ => by simp⟩
theorem MaskOf.put {p : Nat → Bool} {i m : Nat} (h : MaskOf p i m) (x : Nat) (hx : x / 64 = i) : MaskOf (fun y => p y || decide (x = y)) i (m ||| 2 ^ (x % 64)) := by
  refine ⟨?_, fun b hb => ?_⟩
  · apply Nat.or_lt_two_pow h.1
    exact Nat.pow_lt_pow_right (by decide) (Nat.mod_lt _ (by decide))
  · rw [testBit_or_pow, h.2 b hb]
    congr 1
    rw [decide_eq_decide]; omega
theorem MaskOf.other {p : Nat → Bool} {i m : Nat} (h : MaskOf p i m) (x : Nat) (hx : x / 64 ≠ i) : MaskOf (fun y => p y || decide (x = y)) i m :=
  ⟨h.1, fun b hb => by rw [h.2 b hb]; simp; intro e; omega⟩
theorem MaskOf.congr {p q : Nat → Bool} {i m : Nat} (h : MaskOf p i m) (e : ∀ x, p x = q x) : MaskOf q i m := ⟨h.1, fun b hb => (h.2 b hb).trans (e _)⟩
theorem exists_nth (p : Nat → Bool) (r : Nat) : ∀ n, r < cnt p n → ∃ j, j < n ∧ IsNth p r j
  | 0, h => by simp [cnt_zero] at h
  | n + 1, h => by
    rw [cnt_succ] at h
    by_cases h1 : r < cnt p n
    · obtain ⟨j, hj, hn⟩ := exists_nth p r n h1; exact ⟨j, by omega, hn⟩
    · by_cases hp : p n = true
      · simp only [hp, if_true] at h
        exact ⟨n, by omega, hp, by omega⟩
      · simp only [hp] at h
        simp at h; omega
def Strip (x r m : Nat) : Prop := m ≤ x ∧ ∀ b, m.testBit b = (x.testBit b && decide (r ≤ cnt x.testBit b))
theorem Strip.zero (x : Nat) : Strip x 0 x := ⟨Nat.le_refl _, fun b => by simp⟩
theorem Strip.least {x r m k y : Nat} (h : Strip x r m) (e : m = 2 ^ k * (2 * y + 1)) : IsNth x.testBit r k := by
  have hk : m.testBit k = true := by rw [e, testBit_low]; simp
  have h1 := h.2 k
  rw [hk] at h1
  simp only [Bool.true_eq, Bool.and_eq_true, decide_eq_true_eq] at h1
  refine ⟨h1.1, ?_⟩
  rcases Nat.lt_or_eq_of_le h1.2 with h2 | h2
  · obtain ⟨j, hj, hn⟩ := exists_nth x.testBit r k h2
    have h3 := h.2 j
    rw [hn.1, hn.2, e, testBit_low] at h3
    simp [show j ≠ k by omega, show ¬ k < j by omega] at h3
  · exact h2.symm
theorem Strip.step {x r m k y : Nat} (h : Strip x r m) (e : m = 2 ^ k * (2 * y + 1)) : Strip x (r + 1) (m &&& (m - 1)) := by
  have hl := h.least e
  refine ⟨Nat.le_trans Nat.and_le_left h.1, fun b => ?_⟩
  have hm : (m &&& (m - 1)).testBit b = (m.testBit b && decide (b ≠ k)) := by
    rw [e, and_pred, testBit_low, Nat.testBit_two_pow_mul]
    rcases Nat.lt_trichotomy b k with h1 | h1 | h1
    · simp [show ¬ b ≥ k by omega, show ¬ k < b by omega]
    · subst h1; simp [Nat.testBit_zero]
    · obtain ⟨c, rfl⟩ : ∃ c, b = k + c + 1 := ⟨b - k - 1, by omega⟩
      simp only [show k + c + 1 - k = c + 1 by omega, Nat.testBit_succ, show 2 * y / 2 = y by omega]
      simp [show k ≤ k + c + 1 by omega, show k + c + 1 ≠ k by omega, show k < k + c + 1 by omega, show c + 1 - 1 = c by omega]
  rw [hm, h.2 b]
  by_cases hb : x.testBit b = true
  · simp only [hb, Bool.true_and]
    by_cases hbk : b = k
    · subst hbk; simp [hl.2]
    · have : cnt x.testBit b ≠ r := fun hc => hbk (IsNth.uniq (p := x.testBit) ⟨hb, hc⟩ hl)
      rw [Bool.eq_iff_iff]; simp [hbk]; omega
  · simp [hb]
theorem MaskOf.cnt {p : Nat → Bool} {i m : Nat} (h : MaskOf p i m) (b : Nat) (hb : b ≤ 64) : cnt p (64 * i + b) = cnt p (64 * i) + cnt m.testBit b := by
  rw [cnt_add]; congr 1
  apply List.countP_congr
  intro c hc
  rw [h.2 c (by have := List.mem_range.1 hc; omega)]
theorem count_front (q : Nat → Bool) (hm : ∀ a b, a ≤ b → q a = true → q b = true) : ∀ n, (∀ t, t < cnt (fun i => !q i) n → q t = false) ∧ (∀ t, cnt (fun i => !q i) n ≤ t → t < n → q t = true)
  | 0 => ⟨fun t h => by simp [cnt_zero] at h, fun t _ h => by omega⟩
  | n + 1 => by
    obtain ⟨h1, h2⟩ := count_front q hm n
    have hle := cnt_le (fun i => !q i) n
    rw [cnt_succ]
    by_cases hq : q n = true
    · simp only [hq, Bool.not_true, Bool.false_eq_true, if_false, Nat.add_zero]
      refine ⟨h1, fun t a b => ?_⟩
      rcases Nat.lt_or_eq_of_le (Nat.le_of_lt_succ b) with hb | hb
      · exact h2 t a hb
      · rw [hb]; exact hq
    · simp only [hq]
      have hall : cnt (fun i => !q i) n = n := by
        rcases Nat.lt_or_eq_of_le hle with hl | hl
        · exact absurd (hm _ _ (Nat.le_of_lt hl) (h2 _ (Nat.le_refl _) hl)) hq
        · exact hl
      rw [hall] at h1 ⊢
      simp only [Bool.not_false, if_true]
      refine ⟨fun t ht => ?_, fun t a b => by omega⟩
      rcases Nat.lt_or_eq_of_le (Nat.le_of_lt_succ ht) with hb | hb
      · exact h1 t hb
      · rw [hb]; simpa using hq
def bruijn (k : Nat) : Nat := (2 ^ k * 0x03f79d71b4ca8b09) % 2 ^ 64 / 2 ^ 58
def bruijnTab : List Nat := [0, 1, 56, 2, 57, 49, 28, 3, 61, 58, 42, 50, 38, 29, 17, 4, 62, 47, 59, 36, 45, 43, 51, 22, 53, 39, 33, 30, 24, 18, 12, 5, 63, 55, 48, 27, 60, 41, 37, 16, 46, 35, 44, 21, 52, 32, 23, 11, 54, 26, 40, 15, 34, 20, 31, 10, 25, 14, 19, 9, 13, 8, 7, 6]
theorem bruijn_ok : ∀ k : Fin 64, bruijnTab[bruijn k.1]? = some k.1 := by decide +kernel
open Go Go.RowKit
theorem u64_wrap (n : Nat) (h : n < 2 ^ 64) : IntKind.u64.wrap (n : Int) = (n : Int) := by
  show (if (false && decide ((n : Int) % 2 ^ 64 ≥ 2 ^ (64 - 1))) = true then (n : Int) % 2 ^ 64 - 2 ^ 64 else (n : Int) % 2 ^ 64) = _
  rw [Bool.false_and, if_neg (by decide)]
  omega
theorem ofInt_nat (x : Nat) (hx : x < 2 ^ 64) : (BitVec.ofInt 64 (x : Int)).toNat = x := by
  rw [BitVec.toNat_ofInt]; omega
theorem bits_and (x y : Nat) (hx : x < 2 ^ 64) (hy : y < 2 ^ 64) : bits .and .u64 (x : Int) (y : Int) = ((x &&& y : Nat) : Int) := by
  show IntKind.u64.wrap (((BitVec.ofInt 64 (x : Int)) &&& (BitVec.ofInt 64 (y : Int))).toNat : Int) = _
  rw [BitVec.toNat_and, ofInt_nat x hx, ofInt_nat y hy]
  exact u64_wrap _ (Nat.lt_of_le_of_lt Nat.and_le_left hx)
end Go.Kt.Bits
/- Which bytes of a text begin a unit, and of what kind; where the n-th unit begins: the mathematics. -/
namespace Go.Proofs.YtjbkpcdpdifpnaaGreatDoor
open Go Go.RowKit Go.Kt Go.Kt.Bits

def PL (s : ByteArray) : List Nat := placesF s s.size 0
def kindB (k r : Nat) : Bool := if k = 0 then true else if k = 1 then decide (65535 < r) else decide (r = 10)
def isK (s : ByteArray) (k x : Nat) : Bool := decide (x ∈ PL s) && kindB k (Utf8.decode s x).1
def kl (s : ByteArray) (k : Nat) : List Nat := (PL s).filter fun x => kindB k (Utf8.decode s x).1
def isP (k : Nat) (pre : List (Nat × Nat)) (x : Nat) : Bool := pre.any fun u => kindB k u.2 && decide (u.1 = x)
def pos (s : ByteArray) (n : Nat) : Nat := (PL s).getD n s.size
end Go.Proofs.YtjbkpcdpdifpnaaGreatDoor
/- math/bits.OnesCount64 and TrailingZeros64 of a number of 64 bits. -/
namespace Go.Proofs.YtjbkpcdpdifpnaaGreatDoor
open Go Go.RowKit Go.Kt Go.Kt.Bits

abbrev stA (z : Int) : Int := IntKind.u64.wrap (bits .and .u64 (z / 2) 6148914691236517205 + bits .and .u64 z 6148914691236517205)
abbrev stB (z : Int) : Int := IntKind.u64.wrap (bits .and .u64 (z / 4) 3689348814741910323 + bits .and .u64 z 3689348814741910323)
abbrev stC (z : Int) : Int := bits .and .u64 (IntKind.u64.wrap (z / 16 + z)) 1085102592571150095
abbrev stD (k z : Int) : Int := IntKind.u64.wrap (z + z / k)
def fA (x : Nat) : Nat := (x / 2 &&& 0x5555555555555555) + (x &&& 0x5555555555555555)
def fB (x : Nat) : Nat := (x / 4 &&& 0x3333333333333333) + (x &&& 0x3333333333333333)
def fC (x : Nat) : Nat := (x / 16 + x) &&& 0x0f0f0f0f0f0f0f0f
end Go.Proofs.YtjbkpcdpdifpnaaGreatDoor
/- math/bits.TrailingZeros64 of a number of 64 bits that is not 0. -/
namespace Go.Proofs.YtjbkpcdpdifpnaaGreatDoor
open Go Go.RowKit Go.Kt Go.Kt.Bits

def BTab (w : World) : Prop := ∀ k, k < 64 → w.cell? ⟨7, k, none⟩ = some (.int .u8 ((bruijnTab.getD k 0 : Nat) : Int))

theorem k_lt (x k y : Nat) (hx : x = 2 ^ k * (2 * y + 1)) (h : x < 2 ^ 64) : k < 64 := by
  rcases Nat.lt_or_ge k 64 with h1 | h1
  · exact h1
  · have : 2 ^ 64 ≤ 2 ^ k := Nat.pow_le_pow_right (by decide) h1
    have : 2 ^ k * 1 ≤ 2 ^ k * (2 * y + 1) := Nat.mul_le_mul_left _ (by omega)
    omega
theorem tz_and (x k y : Nat) (hx : x = 2 ^ k * (2 * y + 1)) (h : x < 2 ^ 64) : bits .and .u64 (x : Int) (IntKind.u64.wrap (-(x : Int))) = ((2 ^ k : Nat) : Int) := by
  have hk := k_lt x k y hx h
  have hp : 0 < 2 ^ k := Nat.pos_of_ne_zero (by simp)
  have h1 : 1 ≤ x := by rw [hx]; exact Nat.mul_pos hp (by omega)
  have e1 : IntKind.u64.wrap (-(x : Int)) = ((2 ^ 64 - x : Nat) : Int) := by
    show (if (false && decide ((-(x : Int)) % 2 ^ 64 ≥ 2 ^ (64 - 1))) = true then (-(x : Int)) % 2 ^ 64 - 2 ^ 64 else (-(x : Int)) % 2 ^ 64) = _
    rw [Bool.false_and, if_neg (by decide)]
    omega
  have e2 : x &&& (2 ^ 64 - x) = 2 ^ k := by
    have := and_neg k y 64 hk (by rw [← hx]; exact h)
    rw [hx]; exact this
  rw [e1, bits_and x (2 ^ 64 - x) h (by omega), e2]
theorem tz_mul (k : Nat) : IntKind.u64.wrap (((2 ^ k : Nat) : Int) * 285870213051353865) = (((2 ^ k * 0x03f79d71b4ca8b09) % 2 ^ 64 : Nat) : Int) := by
  have e3 : ((2 ^ k : Nat) : Int) * 285870213051353865 = ((2 ^ k * 0x03f79d71b4ca8b09 : Nat) : Int) := by rw [Int.natCast_mul]; rfl
  rw [e3]
  show (if (false && decide (((2 ^ k * 0x03f79d71b4ca8b09 : Nat) : Int) % 2 ^ 64 ≥ 2 ^ (64 - 1))) = true then ((2 ^ k * 0x03f79d71b4ca8b09 : Nat) : Int) % 2 ^ 64 - 2 ^ 64 else ((2 ^ k * 0x03f79d71b4ca8b09 : Nat) : Int) % 2 ^ 64) = _
  rw [Bool.false_and, if_neg (by decide)]
  generalize 2 ^ k * 0x03f79d71b4ca8b09 = z
  omega
theorem tz_div (k : Nat) : (((2 ^ k * 0x03f79d71b4ca8b09) % 2 ^ 64 : Nat) : Int) / 288230376151711744 = ((bruijn k : Nat) : Int) := by
  unfold bruijn
  generalize (2 ^ k * 0x03f79d71b4ca8b09) % 2 ^ 64 = z
  omega
theorem bruijn_lt : ∀ k : Fin 64, bruijn k.1 < 64 := by decide +kernel

set_option maxRecDepth 100000 in
theorem tz_any (x k y : Nat) (w : World) (hT : BTab w) (hx : Hid (x = 2 ^ k * (2 * y + 1) ∧ x < 2 ^ 64)) :
    Calls Tryz.prog 190 #[.int .u64 (x : Int)] w fun e w' => e = .returned (.int .i64 (k : Nat)) ∧ w = w' := by
  have hk : k < 64 := k_lt x k y hx.out.1 hx.out.2
  have hp : 0 < 2 ^ k := Nat.pos_of_ne_zero (by simp)
  have h0 : ((x : Int) == 0) = false := by
    have h1 : 1 ≤ x := by rw [hx.out.1]; exact Nat.mul_pos hp (by omega)
    simp; omega
  have a1 := tz_and x k y hx.out.1 hx.out.2
  have a2 := tz_mul k
  have a3 := Lib.hid (tz_div k)
  have hj := bruijn_lt ⟨k, hk⟩
  have hc : w.cell? ⟨7, bruijn k, none⟩ = some (.int .u8 (k : Int)) := by
    have h := hT (bruijn k) hj
    have hb := bruijn_ok ⟨k, hk⟩
    simp only at hb
    rw [List.getD_eq_getElem?_getD, hb] at h
    exact h
  simp only at hj
  rw [show bruijn k = (2 ^ k * 0x03f79d71b4ca8b09) % 2 ^ 64 / 288230376151711744 from rfl] at hc hj
  have hj2 := Lib.hid hj
  generalize (2 ^ k * 0x03f79d71b4ca8b09) % 2 ^ 64 = m at *
  clear hx a3 hj
  generalize 2 ^ k = q at *
  clear hT hp
  go_enter Tryz.func190, Tryz.ntmps190
  go_wp2
  · go_ret
    exact ⟨rfl, rfl⟩
  · rename_i h
    exact absurd ⟨by omega, by have := hj2.out; omega⟩ h
end Go.Proofs.YtjbkpcdpdifpnaaGreatDoor
/- points.Places: what lies in memory; mark. -/
namespace Go.Proofs.YtjbkpcdpdifpnaaGreatDoor
open Go Go.RowKit Go.Kt Go.Kt.Bits

def Blk (W : World) (g n : Nat) (A M : Nat → Nat → Nat) : Prop :=
  ∀ i, i < n → ∀ k, k < 3 → W.cell? ⟨g, i * 6 + k, none⟩ = some (.int .i64 (A k i : Nat)) ∧ W.cell? ⟨g, i * 6 + 3 + k, none⟩ = some (.int .u64 (M k i : Nat))

def pre (M : Nat → Nat → Nat) (k : Nat) : Nat → Nat
  | 0 => 0
  | j + 1 => pre M k j + pop (M k j)

def SumInv (g n : Nat) (M : Nat → Nat → Nat) (i : Nat) (W : World) : Prop :=
  (∀ j, j < n → ∀ k, k < 3 → W.cell? ⟨g, j * 6 + 3 + k, none⟩ = some (.int .u64 (M k j : Nat))) ∧ (∀ j, j < i → ∀ k, k < 3 → W.cell? ⟨g, j * 6 + k, none⟩ = some (.int .i64 (pre M k j : Nat))) ∧
  (∀ j, j < n → ∀ k, k < 3 → ∃ v, W.cell? ⟨g, j * 6 + k, none⟩ = some v) ∧ (∀ o, W.frozen? ⟨g, o, none⟩ = false)
theorem SumInv.keep {g n i sb : Nat} {M : Nat → Nat → Nat} {A B : World} (h : SumInv g n M i A) (hk : Keep (fun x => x = sb) A B) (hg : g ≠ sb) (hgA : g < A.heap.size) : SumInv g n M i B :=
  ⟨fun j hj k hk3 => hk.cell (h.1 j hj k hk3) hg, fun j hj k hk3 => hk.cell (h.2.1 j hj k hk3) hg, fun j hj k hk3 => by obtain ⟨v, hv⟩ := h.2.2.1 j hj k hk3; exact ⟨v, hk.cell hv hg⟩,
    fun o => (hk.frozen (p := ⟨g, o, none⟩) hgA hg).trans (h.2.2.2 o)⟩
theorem SumInv.step {g n i : Nat} {M : Nat → Nat → Nat} {W : World} (h : SumInv g n M i W) (hi : i < n) :
    SumInv g n M (i + 1) (((W.setCell ⟨g, i * 6, none⟩ (.int .i64 (pre M 0 i : Nat))).setCell ⟨g, i * 6 + 1, none⟩ (.int .i64 (pre M 1 i : Nat))).setCell ⟨g, i * 6 + 2, none⟩ (.int .i64 (pre M 2 i : Nat))) := by
  have oth : ∀ o, o ≠ i * 6 → o ≠ i * 6 + 1 → o ≠ i * 6 + 2 → (((W.setCell ⟨g, i * 6, none⟩ (.int .i64 (pre M 0 i : Nat))).setCell ⟨g, i * 6 + 1, none⟩ (.int .i64 (pre M 1 i : Nat))).setCell ⟨g, i * 6 + 2, none⟩ (.int .i64 (pre M 2 i : Nat))).cell? ⟨g, o, none⟩ = W.cell? ⟨g, o, none⟩ := fun o a1 a2 a3 => by
    rw [World.cell?_setCell_other _ _ _ _ (by simp), World.cell?_setCell_other _ _ _ _ (by simp), World.cell?_setCell_other _ _ _ _ (by simp)]
  obtain ⟨u0, hu0⟩ := h.2.2.1 i hi 0 (by omega)
  obtain ⟨u1, hu1⟩ := h.2.2.1 i hi 1 (by omega)
  obtain ⟨u2, hu2⟩ := h.2.2.1 i hi 2 (by omega)
  have at0 : ∀ k, k < 3 → (((W.setCell ⟨g, i * 6, none⟩ (.int .i64 (pre M 0 i : Nat))).setCell ⟨g, i * 6 + 1, none⟩ (.int .i64 (pre M 1 i : Nat))).setCell ⟨g, i * 6 + 2, none⟩ (.int .i64 (pre M 2 i : Nat))).cell? ⟨g, i * 6 + k, none⟩ = some (.int .i64 (pre M k i : Nat)) := fun k hk => by
    rcases (by omega : k = 0 ∨ k = 1 ∨ k = 2) with rfl | rfl | rfl
    · rw [World.cell?_setCell_other _ _ _ _ (by simp), World.cell?_setCell_other _ _ _ _ (by simp)]
      exact World.cell?_setCell_same _ _ _ hu0
    · rw [World.cell?_setCell_other _ _ _ _ (by simp)]
      exact World.cell?_setCell_same _ _ _ (by rw [World.cell?_setCell_other _ _ _ _ (by simp)]; exact hu1)
    · exact World.cell?_setCell_same _ _ _ (by rw [World.cell?_setCell_other _ _ _ _ (by simp), World.cell?_setCell_other _ _ _ _ (by simp)]; exact hu2)
  refine ⟨fun j hj k hk => ?_, fun j hj k hk => ?_, fun j hj k hk => ?_, fun o => ?_⟩
  · rw [oth _ (by omega) (by omega) (by omega)]; exact h.1 j hj k hk
  · by_cases e : j = i
    · subst e; exact at0 k hk
    · rw [oth _ (by omega) (by omega) (by omega)]; exact h.2.1 j (by omega) k hk
  · by_cases e : j = i
    · subst e; exact ⟨_, at0 k hk⟩
    · rw [oth _ (by omega) (by omega) (by omega)]; exact h.2.2.1 j hj k hk
  · rw [World.frozen?_setCell, World.frozen?_setCell, World.frozen?_setCell]; exact h.2.2.2 o
def sv (M : Nat → Nat → Nat) (i k kk : Nat) : Nat := if kk < k then pre M kk (i + 1) else pre M kk i

end Go.Proofs.YtjbkpcdpdifpnaaGreatDoor
/- utf.Back's inner function: it hands out the units from behind. -/
namespace Go.Proofs.YtjbkpcdpdifpnaaGreatDoor
open Go Go.RowKit Go.Kt Go.Shelf
attribute [local go_sem] Oper.semAt_some

theorem unitsF_nil {s : ByteArray} {f e : Nat} (h : unitsF s f e = []) (hf : s.size ≤ e + f) : s.size ≤ e := by
  rcases Nat.lt_or_ge e s.size with h1 | h1
  · cases f with
    | zero => omega
    | succ f => rw [unitsF, if_pos h1] at h; cases h
  · exact h1
theorem unitsF_head {s : ByteArray} {f e : Nat} {x : Nat × Nat} {r : List (Nat × Nat)} (h : unitsF s f e = x :: r) : x.1 = e := by
  cases f with
  | zero => simp [unitsF] at h
  | succ f =>
    rw [unitsF] at h
    split at h
    · simp only [List.cons.injEq] at h; rw [← h.1]
    · cases h

def Fr (s : ByteArray) (front : List (Nat × Nat)) (e : Nat) : Prop := ∃ f, units s = front ++ unitsF s f e ∧ (unitsF s f e = [] → s.size ≤ e) ∧ e ≤ s.size
theorem Fr.all (s : ByteArray) : Fr s (units s) s.size := ⟨0, by simp [unitsF], fun _ => Nat.le_refl _, Nat.le_refl _⟩
theorem Fr.zero {s : ByteArray} {e : Nat} (h : Fr s [] e) : e = 0 := by
  obtain ⟨f, h1, h2, h3⟩ := h
  rw [List.nil_append] at h1
  rcases Nat.eq_zero_or_pos s.size with hz | hz
  · omega
  · cases hu : units s with
    | nil =>
      have := unitsF_nil (show unitsF s s.size 0 = [] from hu) (by omega)
      omega
    | cons x r =>
      rw [hu] at h1
      have e1 := unitsF_head h1.symm
      have e2 := unitsF_head (show unitsF s s.size 0 = x :: r from hu)
      omega
end Go.Proofs.YtjbkpcdpdifpnaaGreatDoor
/- The pieces that are ill-formed, held against a list. -/
namespace Go.Proofs.YtjbkpcdpdifpnaaGreatDoor
open Go Go.RowKit Go.Kt Go.Shelf
attribute [local go_sem] Oper.semAt_some

def pieceInts (l : List (Nat × Nat)) : List Int := l.flatMap fun p => [(p.1 : Int), (p.2 : Int)]
abbrev intCells (l : List Int) : List Value := l.map fun x => .int .i64 x

end Go.Proofs.YtjbkpcdpdifpnaaGreatDoor
/- The document's places, numbers, and whether a text is right. -/
namespace Go.Proofs.YtjbkpcdpdifpnaaGreatDoor
open Go Go.RowKit Go.Kt Go.Shelf

def plI (l : List (Nat × Nat)) : List Int := l.map fun p => (p.1 : Int)
def MadeI (B : Nat) (l : List Int) (w : World) (e : Ending) (w' : World) : Prop :=
  ∃ ao cap, e = .returned (.slice ao l.length cap) ∧ OwnS (fun b => B ≤ b) 3 1 (.slice ao l.length cap) l.length (intCells l) w' ∧ Below B w w'

end Go.Proofs.YtjbkpcdpdifpnaaGreatDoor
/- UtfWalks' two helpers: forward, backward. -/
namespace Go.Proofs.YtjbkpcdpdifpnaaGreatDoor
open Go Go.RowKit Go.Kt Go.Shelf
attribute [local go_sem] Oper.semAt_some

end Go.Proofs.YtjbkpcdpdifpnaaGreatDoor
/- points.Measure: the walk. -/
namespace Go.Proofs.YtjbkpcdpdifpnaaGreatDoor
open Go Go.RowKit Go.Kt Go.Shelf Go.Kt.Bits
attribute [local go_sem] Oper.semAt_some

def MInv (g n : Nat) (P : Nat → Nat → Bool) (W : World) : Prop :=
  (∀ i, i < n → ∀ k, k < 3 → ∃ m, W.cell? ⟨g, i * 6 + 3 + k, none⟩ = some (.int .u64 ((m : Nat) : Int)) ∧ MaskOf (P k) i m) ∧
  (∀ i, i < n → ∀ k, k < 3 → ∃ v, W.cell? ⟨g, i * 6 + k, none⟩ = some v) ∧ (∀ o, W.frozen? ⟨g, o, none⟩ = false)
theorem MInv.lt {g n : Nat} {P : Nat → Nat → Bool} {W : World} (h : MInv g n P W) (hn : 0 < n) : g < W.heap.size := by
  obtain ⟨m, h1, _⟩ := h.1 0 hn 0 (by omega)
  exact lt_of_cell h1
theorem MInv.keep {g n : Nat} {P : Nat → Nat → Bool} {X : Nat → Prop} {A B : World} (h : MInv g n P A) (hn : 0 < n) (hk : Keep X A B) (hX : ¬ X g) : MInv g n P B :=
  ⟨fun i hi k hk3 => by obtain ⟨m, h1, h2⟩ := h.1 i hi k hk3; exact ⟨m, hk.cell h1 hX, h2⟩, fun i hi k hk3 => by obtain ⟨v, h1⟩ := h.2.1 i hi k hk3; exact ⟨v, hk.cell h1 hX⟩,
    fun o => (hk.frozen (p := ⟨g, o, none⟩) (h.lt hn) hX).trans (h.2.2 o)⟩
theorem MInv.congr {g n : Nat} {P Q : Nat → Nat → Bool} {W : World} (h : MInv g n P W) (e : ∀ k, k < 3 → ∀ x, P k x = Q k x) : MInv g n Q W :=
  ⟨fun i hi k hk3 => by obtain ⟨m, h1, h2⟩ := h.1 i hi k hk3; exact ⟨m, h1, h2.congr (e k hk3)⟩, h.2⟩
def putK (P : Nat → Nat → Bool) (k0 x : Nat) (k y : Nat) : Bool := P k y || (decide (k = k0) && decide (x = y))
theorem MInv.put {g n k0 x m : Nat} {P : Nat → Nat → Bool} {W : World} (h : MInv g n P W) (_hx : x / 64 < n) (hk0 : k0 < 3) (hm : W.cell? ⟨g, x / 64 * 6 + 3 + k0, none⟩ = some (.int .u64 ((m : Nat) : Int))) (hmm : MaskOf (P k0) (x / 64) m) :
    MInv g n (putK P k0 x) (W.setCell ⟨g, x / 64 * 6 + 3 + k0, none⟩ (.int .u64 ((m ||| 2 ^ (x % 64) : Nat) : Int))).drew := by
  have oth : ∀ o, o ≠ x / 64 * 6 + 3 + k0 → (W.setCell ⟨g, x / 64 * 6 + 3 + k0, none⟩ (.int .u64 ((m ||| 2 ^ (x % 64) : Nat) : Int))).drew.cell? ⟨g, o, none⟩ = W.cell? ⟨g, o, none⟩ := fun o ho => by
    show (W.setCell _ _).cell? _ = _
    rw [World.cell?_setCell_other _ _ _ _ (by simp)]
  refine ⟨fun i hi k hk => ?_, fun i hi k hk => ?_, fun o => ?_⟩
  · by_cases e : i = x / 64 ∧ k = k0
    · obtain ⟨rfl, rfl⟩ := e
      refine ⟨_, World.cell?_setCell_same _ _ _ hm, (hmm.put x rfl).congr fun y => by simp [putK]⟩
    · obtain ⟨m', h1, h2⟩ := h.1 i hi k hk
      refine ⟨m', by rw [oth _ (by omega)]; exact h1, ?_⟩
      by_cases ek : k = k0
      · exact (h2.other x (fun ei => e ⟨ei.symm, ek⟩)).congr fun y => by simp [putK, ek]
      · exact h2.congr fun y => by simp [putK, ek]
  · obtain ⟨v, hv⟩ := h.2.1 i hi k hk
    exact ⟨v, by rw [oth _ (by omega)]; exact hv⟩
  · show (W.setCell _ _).frozen? _ = _
    rw [World.frozen?_setCell]; exact h.2.2 o

def MeasAt (s : ByteArray) (b g c : Nat) (W : World) : Prop :=
  W.cell? ⟨b, 0, none⟩ = some (.int .i64 (s.size : Nat)) ∧ W.cell? ⟨b, 1, none⟩ = some (.slice (some ⟨g, 0, none⟩) (s.size / 64 + 1) c) ∧
    ∀ i, i < s.size / 64 + 1 → ∀ k, k < 3 → W.cell? ⟨g, i * 6 + k, none⟩ = some (.int .i64 (cnt (isK s k) (64 * i) : Nat)) ∧ ∃ m, W.cell? ⟨g, i * 6 + 3 + k, none⟩ = some (.int .u64 ((m : Nat) : Int)) ∧ MaskOf (isK s k) i m
def Meas (s : ByteArray) (b : Nat) (W : World) : Prop := ∃ g c, MeasAt s b g c W
theorem MeasAt.keep {s : ByteArray} {b g c : Nat} {X : Nat → Prop} {A B : World} (h : MeasAt s b g c A) (hk : Keep X A B) (hb : ¬ X b) (hg : ¬ X g) : MeasAt s b g c B :=
  ⟨hk.cell h.1 hb, hk.cell h.2.1 hb, fun i hi k hk3 => ⟨hk.cell (h.2.2 i hi k hk3).1 hg, by obtain ⟨m, e1, e2⟩ := (h.2.2 i hi k hk3).2; exact ⟨m, hk.cell e1 hg, e2⟩⟩⟩
theorem Meas.keep {s : ByteArray} {b : Nat} {A B : World} (h : Meas s b A) (hk : Below A.heap.size A B) : Meas s b B := by
  obtain ⟨g, c, h⟩ := h
  exact ⟨g, c, h.keep (X := fun _ => False) (.of_all hk) (fun h => h) (fun h => h)⟩

end Go.Proofs.YtjbkpcdpdifpnaaGreatDoor
/- points.Measure: the walk. -/
namespace Go.Proofs.YtjbkpcdpdifpnaaGreatDoor
open Go Go.RowKit Go.Kt Go.Shelf Go.Kt.Bits
attribute [local go_sem] Oper.semAt_some

end Go.Proofs.YtjbkpcdpdifpnaaGreatDoor
/- points.Places: count; the n-th of a kind. -/
namespace Go.Proofs.YtjbkpcdpdifpnaaGreatDoor
open Go Go.RowKit Go.Kt Go.Shelf Go.Kt.Bits

set_option maxRecDepth 100000 in
theorem search_any (g : Nat) (cb : Array Value) (n : Nat) (p : Nat → Bool) (w : World) (eg : ∀ args w, (callFunc g args).run Tryz.prog w = .ok (.enter g args) w) (hn : n ≤ 140737488351232)
    (hf : ∀ (m i : Nat), i < n → Calls Tryz.prog g (#[.int .i64 i] ++ cb) (w.drewN m) fun e w' => e = .returned (.bool (p i)) ∧ ∃ q, w' = (w.drewN m).drewN q)
    (hm : ∀ a b, a ≤ b → p a = true → p b = true) :
    Calls Tryz.prog 86 #[.int .i64 n, .func (.func g) #[] cb] w fun e w' => e = .returned (.int .i64 (cnt (fun i => !p i) n : Nat)) ∧ ∃ q, w' = w.drewN q := by
  have HF := Lib.hid hf
  have HM := Lib.hid hm
  have HC := Lib.hid (count_front p hm n)
  have hcl := cnt_le (fun i => !p i) n
  obtain ⟨j, hj⟩ : ∃ j, cnt (fun i => !p i) n = j := ⟨_, rfl⟩
  rw [hj] at HC hcl ⊢
  clear hf hm hj
  go_enter Tryz.func86, Tryz.ntmps86
  go_wp2
  go_loopg [5, 6] n (fun kx s5 s6 wr => ∃ (lo hi q : Nat), s5 = .int .i64 lo ∧ s6 = .int .i64 hi ∧ lo ≤ j ∧ j ≤ hi ∧ hi ≤ n ∧ hi - lo ≤ kx ∧ wr = w.drewN q)
  case atStart => exact ⟨0, n, 0, rfl, rfl, by omega, hcl, by omega, by omega, rfl⟩
  case round =>
    obtain ⟨lo, hi, q, rfl, rfl, h1, h2, h3, h4, rfl⟩ := hrel
    by_cases hlt : lo < hi
    · have hc := HF.out q ((lo + hi) / 2) (by omega)
      rw [show (((lo + hi) / 2 : Nat) : Int) = ((lo : Int) + (hi : Int)) / 2 by omega] at hc
      cases hp : p ((lo + hi) / 2) <;> rw [hp] at hc
      · have hj1 : (lo + hi) / 2 < j := by
          rcases Nat.lt_or_ge ((lo + hi) / 2) j with h | h
          · exact h
          · have := HC.out.2 _ h (by omega); rw [hp] at this; cases this
        have CC := Lib.hid hc
        clear hp hc
        go_wp2_with (go_at_fn g; refine CC.out.mono ?_; rintro e w' ⟨rfl, nq, rfl⟩)
        go_roundg (hi - ((lo + hi) / 2 + 1))
        case measure => omega
        case rel => exact ⟨(lo + hi) / 2 + 1, hi, q + nq, by rw [show ((lo : Int) + (hi : Int)) / 2 + 1 = (((lo + hi) / 2 + 1 : Nat) : Int) by omega], rfl, by omega, h2, h3, Nat.le_refl _, rfl⟩
      · have hj1 : j ≤ (lo + hi) / 2 := by
          rcases Nat.lt_or_ge ((lo + hi) / 2) j with h | h
          · have := HC.out.1 _ h; rw [hp] at this; cases this
          · exact h
        have CC := Lib.hid hc
        clear hp hc
        go_wp2_with (go_at_fn g; refine CC.out.mono ?_; rintro e w' ⟨rfl, nq, rfl⟩)
        go_roundg ((lo + hi) / 2 - lo)
        case measure => omega
        case rel => exact ⟨lo, (lo + hi) / 2, q + nq, rfl, by rw [show ((lo : Int) + (hi : Int)) / 2 = (((lo + hi) / 2 : Nat) : Int) by omega], h1, hj1, by omega, Nat.le_refl _, rfl⟩
    · obtain rfl : lo = j := by omega
      go_wp2
      go_ret
      exact ⟨rfl, q, rfl⟩
end Go.Proofs.YtjbkpcdpdifpnaaGreatDoor
/- points.Places: the n-th of a kind. -/
namespace Go.Proofs.YtjbkpcdpdifpnaaGreatDoor
open Go Go.RowKit Go.Kt Go.Shelf Go.Kt.Bits

theorem BTab.below {w w' : World} {n : Nat} (h : BTab w) (hn : 7 < n) (hb : Below n w w') : BTab w' := fun k hk => (hb.cell (p := ⟨7, k, none⟩) hn).trans (h k hk)

def NthOut (s : ByteArray) (k N : Nat) (w : World) (e : Ending) (w' : World) : Prop := ∃ x : Nat, IsNth (isK s k) N x ∧ x < s.size ∧ e = .returned (.int .i64 (x : Nat)) ∧ Below w.heap.size w w'

end Go.Proofs.YtjbkpcdpdifpnaaGreatDoor
/- points.Places: Units, Byte, Unit, Wide, Line. -/
namespace Go.Proofs.YtjbkpcdpdifpnaaGreatDoor
open Go Go.RowKit Go.Kt Go.Shelf Go.Kt.Bits

def byteP (s : ByteArray) (n : Int) : Int := if n < 0 then 0 else (pos s n.toNat : Nat)
end Go.Proofs.YtjbkpcdpdifpnaaGreatDoor
/- What the listed variables of layer 2's rows over Places give the walks, and the worlds that the witnesses start in. -/
namespace Go.Proofs.YtjbkpcdpdifpnaaGreatDoor
open Go.Lib Go.Shelf Go.Kt.Bits
set_option maxRecDepth 100000

theorem bruijn_eq : (Rows.laid_math_bits_deBruijn64tab : DataW Unit) = tabData .u8 (bruijnTab.map fun x : Nat => (x : Int)) := by kernel_rfl
theorem btab_of_reads {W : World} (h3 : VarReads Tryz.prog W "math/bits.deBruijn64tab" (tabData .u8 (bruijnTab.map fun x : Nat => (x : Int)))) : BTab W := by
  have c5 : Tryz.prog.cellsOf 5 = 1 := by kernel_rfl
  have c64 : Tryz.prog.cellsOf 334 = 64 := by kernel_rfl
  intro k hk
  obtain ⟨g, t, cs, fuel, p, hg, hty, hvar, hd⟩ := h3
  obtain rfl := Option.some.inj ((show Tryz.prog.globalNamed "math/bits.deBruijn64tab" = some 7 by kernel_rfl).symm.trans hg)
  obtain rfl := Option.some.inj ((show (Tryz.prog.globals[7]?).map (·.type) = some 334 by kernel_rfl).symm.trans hty)
  have hcs := cells_of_tab Tryz.underlying334 Tryz.underlying5 c5 c64 hd
  have := World.var?_cell hg hvar k
  rw [this, ← Array.getElem?_toList, hcs]
  have hl : bruijnTab.length = 64 := rfl
  simp [List.getD_eq_getElem?_getD, hl, hk]

end Go.Proofs.YtjbkpcdpdifpnaaGreatDoor
