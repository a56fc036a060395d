/- Parts of the proof of what the last text says. -/
import Derived.Test.YtbnnhbmnddaafaaGreatDoorGz2
import Derived.Test.YtbnnhbmnddaafaaGreatDoorGz1
import Derived.Deep.RegionHeldLaw
import Derived.WalkKit
import Derived.Laws.MakeOwn
import Derived.Sort.QuietIn
import Derived.Sort.QuietTacIn
import Derived.RegionTactic
import Derived.ChangeAlike
import Derived.BigRegion
import Derived.StillTailTactics
/- The kit's look at an error: its number, its place. -/
namespace Go.Proofs.YtbnnhbmnddaafaaGreatDoor
open Go Go.RowKit Go.Kt

set_option maxRecDepth 100000 in
theorem num_fault (k l a : Int) (w : World) (h1 : 1 ≤ k) (h25 : k ≤ 25) :
    Calls Tryz.prog 26 #[.iface 69 (fv k l a)] w fun e w' => e = .returned (.int .i64 k) ∧ Below w.heap.size w w' := by
  go_enter Tryz.func26, Tryz.ntmps26
  go_wp2
  go_loopw [3, 4] (fun f v wr => ∃ (i : Nat) (c : Int), 1 ≤ i ∧ i ≤ 26 ∧ v = .int .i64 i ∧ f = .int .i64 c ∧ ((i : Int) ≤ k ∧ c = 0 ∨ k < i ∧ c = k) ∧ Below w.heap.size w wr) (fun _ v _ => 26 - (RowKit.intOf v).toNat)
  case atStart => exact ⟨1, 0, by omega, by omega, rfl, rfl, .inl ⟨by omega, rfl⟩, Below.refl _ _⟩
  case round =>
    obtain ⟨i, c, hi1, hi, rfl, rfl, hc, hb⟩ := hrel
    have hz := hb.size
    by_cases hlt : i ≤ 25
    · have C := Lib.hid (is_fault k l a i wr)
      have HC := Lib.hid hc
      by_cases hk : k = i
      · have hkb : (k == (i : Int)) = true := by simp [hk]
        have c0 : c = 0 := by rcases hc with h | h; exact h.2; omega
        have HK := Lib.hid hk
        subst c0
        rw [hkb] at C
        clear hkb hk hc
        go_wp2_with fail
        refine C.out.mono ?_
        rintro e w1 ⟨rfl, hb1⟩
        go_wp2
        go_roundw
        case rel => exact ⟨i + 1, i, by omega, by omega, by go_num, rfl, .inr ⟨by have := HK.out; omega, HK.out.symm⟩, hb.trans (hb1.mono hz)⟩
        case measure => simp [RowKit.intOf]; omega
      · have hkb : (k == (i : Int)) = false := by simp [hk]
        have HK := Lib.hid hk
        rw [hkb] at C
        clear hkb hk hc
        go_wp2_with fail
        refine C.out.mono ?_
        rintro e w1 ⟨rfl, hb1⟩
        go_wp2
        go_roundw
        case rel => exact ⟨i + 1, c, by omega, by omega, by go_num, rfl, by have := HK.out; have := HC.out; omega, hb.trans (hb1.mono hz)⟩
        case measure => simp [RowKit.intOf]; omega
    · have hck : c = k := by rcases hc with h | h; omega; exact h.2
      have C := Lib.hid (is_fault k l a 0 wr)
      have hkb : (k == (0 : Int)) = false := by simp; omega
      have C1 := C
      rw [hkb] at C1
      clear C hc
      subst hck
      go_wp2_with fail
      refine C1.out.mono ?_
      rintro e w1 ⟨rfl, hb1⟩
      go_wp2
      go_ret
      exact ⟨rfl, hb.trans (hb1.mono hz)⟩

abbrev ErrT (w : World) : Prop := w.cell? ⟨0, 0, none⟩ = some (.iface 138 (.agg #[tyH 25]))
theorem ErrT.below {w w' : World} (h : ErrT w) {n : Nat} (hn : 0 < n) (hb : Below n w w') : ErrT w' := (hb.cell (p := ⟨0, 0, none⟩) hn).trans h

theorem pl_step {A W W' : World} {c0 c1 c2 : Addr} {v0 v1 v2 : Value} (h : W.cell? c0 = some v0 ∧ W.cell? c1 = some v1 ∧ W.cell? c2 = some v2 ∧ Below A.heap.size A W) (k : Below W.heap.size W W') :
    W'.cell? c0 = some v0 ∧ W'.cell? c1 = some v1 ∧ W'.cell? c2 = some v2 ∧ Below A.heap.size A W' :=
  ⟨(k.cell (lt_of_cell h.1)).trans h.1, (k.cell (lt_of_cell h.2.1)).trans h.2.1, (k.cell (lt_of_cell h.2.2.1)).trans h.2.2.1, h.2.2.2.trans (k.mono h.2.2.2.size)⟩
theorem pl_drew {A W : World} {c0 c1 c2 : Addr} {v0 v1 v2 : Value} (h : W.cell? c0 = some v0 ∧ W.cell? c1 = some v1 ∧ W.cell? c2 = some v2 ∧ Below A.heap.size A W) :
    W.drew.cell? c0 = some v0 ∧ W.drew.cell? c1 = some v1 ∧ W.drew.cell? c2 = some v2 ∧ Below A.heap.size A W.drew := ⟨h.1, h.2.1, h.2.2.1, h.2.2.2.drew⟩

theorem pl_last {P Q R : Prop} {A W : World} (h : P ∧ Q ∧ R ∧ Below A.heap.size A W) : Below A.heap.size A W := h.2.2.2

set_option maxRecDepth 100000 in
theorem place_fault (k l a : Int) (w : World) (h1 : 1 ≤ k) (h25 : k ≤ 25) (hE : ErrT w) :
    Calls Tryz.prog 25 #[.iface 69 (fv k l a)] w fun e w' => e = .returned (.tuple #[.int .i64 l, .int .i64 a, .bool true]) ∧ Below w.heap.size w w' := by
  have hlt : 0 < w.heap.size := lt_of_cell hE
  obtain ⟨W, hW⟩ : ∃ W, w.alloc (.cells #[.int .i64 0, .int .i64 0, .int .i64 0] 69 (0, 0)) = W := ⟨_, rfl⟩
  have hbW : Below w.heap.size w W := by rw [← hW]; exact (Below.refl _ w).alloc (Nat.le_refl _) _
  have hgW : W.heap[w.heap.size]? = some (.cells #[.int .i64 0, .int .i64 0, .int .i64 0] 69 (0, 0)) := by rw [← hW]; exact World.alloc_heap_new w _
  have C := Lib.hid (as_fault k l a 0 0 0 w.heap.size W (hE.below hlt hbW) hgW)
  have hWe := Lib.hid hW
  clear hE hgW hW
  go_enter Tryz.func25, Tryz.ntmps25
  go_wp2_with fail
  rw [hWe.out]
  refine C.out.mono ?_
  rintro e w1 ⟨rfl, hg1, hk1⟩
  have hz1 := hk1.size
  have hzW : w.heap.size < W.heap.size := by have := hWe.out; rw [← this]; simp
  have hc0 : w1.cell? ⟨w.heap.size, 0, none⟩ = some (.int .i64 k) := by rw [World.cell?, hg1]; rfl
  have hc1 : w1.cell? ⟨w.heap.size, 1, none⟩ = some (.int .i64 l) := by rw [World.cell?, hg1]; rfl
  have hc2 : w1.cell? ⟨w.heap.size, 2, none⟩ = some (.int .i64 a) := by rw [World.cell?, hg1]; rfl
  have hb1 : Below w.heap.size w w1 := hbW.trans (hk1.below (by omega) (fun b hb => by omega))
  have HB := Lib.hid hb1
  have kk : (k == k) = true := by simp
  clear hg1 hk1 hbW hb1
  go_wp2
  have cN := Lib.hid (fun W => num_fault k l a W h1 h25)
  go_region_held_law (fun w' => w'.cell? ⟨w.heap.size, 0, none⟩ = some (.int .i64 k) ∧ w'.cell? ⟨w.heap.size, 1, none⟩ = some (.int .i64 l) ∧ w'.cell? ⟨w.heap.size, 2, none⟩ = some (.int .i64 a) ∧ Below w1.heap.size w1 w')
    (first | assumption | exact pl_drew ⟨hc0, hc1, hc2, Below.refl _ _⟩ | exact pl_drew (by assumption) | exact pl_step (by assumption) (by assumption))
    ((go_at_call 26; refine (cN.out _).mono ?_; rintro e w' ⟨rfl, hbn⟩))
  all_goals
    go_wp2
    go_ret3
    exact ⟨rfl, HB.out.trans (Below.mono (pl_last (by assumption)) HB.out.size)⟩

set_option maxRecDepth 100000 in
theorem at_fault (n l a : Int) (w : World) (h1 : 1 ≤ n) (h25 : n ≤ 25) (hE : ErrT w) :
    Calls Tryz.prog 10 #[.iface 69 (fv n l a), .int .i64 n, .int .i64 l, .int .i64 a] w fun e w' => e = .returned (.bool true) ∧ Below w.heap.size w w' := by
  have c1 := Lib.hid (place_fault n l a w h1 h25 hE)
  have c2 := Lib.hid (fun W => num_fault n l a W h1 h25)
  have n0 : (n == 0) = false := by simp; omega
  have e1 : (n == n) = true := by simp
  have e2 : (l == l) = true := by simp
  have e3 : (a == a) = true := by simp
  clear hE
  go_enter Tryz.func10, Tryz.ntmps10
  go_wp2_with fail
  refine c1.out.mono ?_
  rintro e w1 ⟨rfl, hb1⟩
  have hz1 := hb1.size
  go_wp2_with fail
  refine (c2.out _).mono ?_
  rintro e w2 ⟨rfl, hb2⟩
  go_wp2
  go_ret
  exact ⟨rfl, hb1.trans (hb2.mono hz1)⟩
end Go.Proofs.YtbnnhbmnddaafaaGreatDoor
/- Sets as lists of runs: the mathematics, of no program. -/
namespace Go.Kt.Rg

abbrev Run := Int × Int
abbrev allN : Int := 1112192

def inR (x : Run) (n : Int) : Prop := x.1 ≤ n ∧ n < x.2
def inS (l : List Run) (n : Int) : Prop := ∃ x ∈ l, inR x n
def CanonFrom : Int → List Run → Prop
  | _, [] => True
  | lo, x :: t => lo < x.1 ∧ x.1 < x.2 ∧ x.2 ≤ allN ∧ CanonFrom x.2 t
def Canon (l : List Run) : Prop := CanonFrom (-1) l
def Fit (l : List Run) : Prop := ∀ x ∈ l, 0 ≤ x.1 ∧ x.1 < x.2 ∧ x.2 ≤ allN

theorem inS_nil (n : Int) : ¬ inS [] n := by rintro ⟨_, h, _⟩; cases h
theorem inS_cons (x : Run) (t : List Run) (n : Int) : inS (x :: t) n ↔ inR x n ∨ inS t n := by
  constructor
  · rintro ⟨y, hy, h⟩
    rcases List.mem_cons.1 hy with rfl | hy
    · exact .inl h
    · exact .inr ⟨y, hy, h⟩
  · rintro (h | ⟨y, hy, h⟩)
    · exact ⟨x, by simp, h⟩
    · exact ⟨y, by simp [hy], h⟩
theorem CanonFrom.mono {l : List Run} {a b : Int} (h : CanonFrom a l) (hab : b ≤ a) : CanonFrom b l := by
  cases l with
  | nil => trivial
  | cons x t => exact ⟨by have := h.1; omega, h.2⟩
theorem CanonFrom.above : ∀ {l : List Run} {lo : Int}, CanonFrom lo l → ∀ n, inS l n → lo < n ∧ n < allN
  | [], _, _, n, h => absurd h (inS_nil n)
  | x :: t, lo, h, n, hn => by
    rcases (inS_cons x t n).1 hn with h1 | h1
    · have := h.1; have := h.2.2.1; unfold inR at h1; omega
    · have := CanonFrom.above h.2.2.2 n h1
      have := h.1; have := h.2.1; omega
theorem CanonFrom.fit : ∀ {l : List Run} {lo : Int}, -1 ≤ lo → CanonFrom lo l → Fit l
  | [], _, _, _ => fun _ h => by cases h
  | x :: t, lo, h0, h => fun y hy => by
    rcases List.mem_cons.1 hy with rfl | hy
    · exact ⟨by have := h.1; omega, h.2.1, h.2.2.1⟩
    · exact CanonFrom.fit (by have := h.1; have := h.2.1; omega) h.2.2.2 y hy
theorem Canon.fit {l : List Run} (h : Canon l) : Fit l := CanonFrom.fit (Int.le_refl _) h

theorem canon_ext : ∀ {l m : List Run} {lo : Int}, CanonFrom lo l → CanonFrom lo m → (∀ n, inS l n ↔ inS m n) → l = m
  | [], [], _, _, _, _ => rfl
  | [], y :: u, _, _, hm, h => absurd ((h y.1).2 ((inS_cons y u _).2 (.inl ⟨Int.le_refl _, hm.2.1⟩))) (inS_nil _)
  | x :: t, [], _, hl, _, h => absurd ((h x.1).1 ((inS_cons x t _).2 (.inl ⟨Int.le_refl _, hl.2.1⟩))) (inS_nil _)
  | x :: t, y :: u, lo, hl, hm, h => by
    have key : ∀ {x y : Run} {t u : List Run} {lo : Int}, CanonFrom lo (x :: t) → CanonFrom lo (y :: u) → (∀ n, inS (x :: t) n → inS (y :: u) n) → y.1 ≤ x.1 ∧ (x.1 = y.1 → x.2 ≤ y.2) := by
      intro x y t u lo hx hy h
      refine ⟨?_, fun e => ?_⟩
      · rcases (inS_cons y u _).1 (h x.1 ((inS_cons x t _).2 (.inl ⟨Int.le_refl _, hx.2.1⟩))) with h1 | h1
        · exact h1.1
        · have := CanonFrom.above hy.2.2.2 _ h1; have := hy.2.1; omega
      · rcases Int.lt_or_le y.2 x.2 with h2 | h2
        · rcases (inS_cons y u _).1 (h y.2 ((inS_cons x t _).2 (.inl ⟨by have := hy.2.1; omega, h2⟩))) with h1 | h1
          · have := h1.2; omega
          · have := CanonFrom.above hy.2.2.2 _ h1; omega
        · exact h2
    have k1 := key hl hm (fun n => (h n).1)
    have k2 := key hm hl (fun n => (h n).2)
    have e1 : x.1 = y.1 := by omega
    have e2 : x.2 = y.2 := by have := k1.2 e1; have := k2.2 e1.symm; omega
    have e : x = y := Prod.ext e1 e2
    subst e
    have ht : t = u := canon_ext hl.2.2.2 hm.2.2.2 fun n => by
      constructor
      · intro hn
        rcases (inS_cons x u n).1 ((h n).1 ((inS_cons x t n).2 (.inr hn))) with h1 | h1
        · have := CanonFrom.above hl.2.2.2 n hn; have := h1.2; omega
        · exact h1
      · intro hn
        rcases (inS_cons x t n).1 ((h n).2 ((inS_cons x u n).2 (.inr hn))) with h1 | h1
        · have := CanonFrom.above hm.2.2.2 n hn; have := h1.2; omega
        · exact h1
    rw [ht]
theorem Canon.ext {l m : List Run} (hl : Canon l) (hm : Canon m) (h : ∀ n, inS l n ↔ inS m n) : l = m := canon_ext hl hm h

def meltF : Run → List Run → List Run
  | c, [] => [c]
  | c, x :: t => if x.1 ≤ c.2 then meltF (c.1, max c.2 x.2) t else c :: meltF x t
def melt : List Run → List Run
  | [] => []
  | x :: t => meltF x t
def Rises (l : List Run) : Prop := l.Pairwise fun a b => a.1 ≤ b.1
def commonR (a b : Run) : Run := if min a.2 b.2 ≤ max a.1 b.1 then (0, 0) else (max a.1 b.1, min a.2 b.2)
def oneR (x : Run) : List Run := if x = (0, 0) then [] else [x]
def bothL : List Run → List Run → List Run
  | [], _ => []
  | _ :: _, [] => []
  | a :: s, b :: t => if a.2 < b.2 then oneR (commonR a b) ++ bothL s (b :: t) else oneR (commonR a b) ++ bothL (a :: s) t
termination_by s t => s.length + t.length
def notL : Int → List Run → List Run
  | b, [] => if b < allN then [(b, allN)] else []
  | b, x :: t => if b < x.1 then (b, x.1) :: notL x.2 t else notL x.2 t
def cntL : List Run → Int
  | [] => 0
  | x :: t => x.2 - x.1 + cntL t
def card (f : Int → Bool) : Nat → Int
  | 0 => 0
  | k + 1 => card f k + if f k then 1 else 0
noncomputable def memB (l : List Run) (n : Int) : Bool := @decide (inS l n) (Classical.propDecidable _)
def allNat : Nat := 1112192
def canonOf (l : List Run) : List Run := melt (l.mergeSort fun x y => decide (x.1 ≤ y.1))
def joinL (a b : List Run) : List Run := canonOf (a ++ b)
def lessL (a b : List Run) : List Run := bothL a (notL 0 b)
theorem Fit.append {l m : List Run} (h : Fit l) (k : Fit m) : Fit (l ++ m) := fun x hx => (List.mem_append.1 hx).elim (h x) (k x)
def numB (r : Int) : Int × Bool :=
  if r < 0 then (0, false) else if r ≤ 55295 then (r, true) else if r < 57344 then (0, false) else if r ≤ 1114111 then (r - 2048, true)
  else if r < 1114240 then (0, false) else if r ≤ 1114367 then (r - 2176, true) else (0, false)
def pntI (n : Int) : Int := if n < 55296 then n else if n < 1112064 then n + 2048 else if n < 1112192 then n + 2176 else 1114367
noncomputable def hasB (l : List Run) (r : Int) : Bool := (numB r).2 && memB l (numB r).1
def behB (l : List Run) (n : Int) (i : Nat) : Bool := match l[i]? with | some x => decide (n < x.2) | none => true
end Go.Kt.Rg
/- ranges.wide, number, point. -/
namespace Go.Proofs.YtbnnhbmnddaafaaGreatDoor
open Go Go.RowKit Go.Kt Go.Kt.Rg

abbrev partsA : Value := .agg #[.int .i32 0, .int .i32 55295, .int .i32 57344, .int .i32 1114111, .int .i32 1114240, .int .i32 1114367]
end Go.Proofs.YtbnnhbmnddaafaaGreatDoor
/- Bits of a number of 64 bits, and what they count: no run in this text. -/
namespace Go.Kt.Bits
def dsum (B : Nat) : Nat → Nat → Nat
  | 0, _ => 0
  | n + 1, x => x % B + dsum B n (x / B)
def m0 : Nat → Nat | 0 => 0 | n + 1 => 1 + 4 * m0 n
def m1 : Nat → Nat | 0 => 0 | n + 1 => 3 + 16 * m1 n
def m2 : Nat → Nat | 0 => 0 | n + 1 => 15 + 256 * m2 n
def Dig (B d : Nat) : Nat → Nat → Prop
  | 0, x => x = 0
  | n + 1, x => x % B ≤ d ∧ Dig B d n (x / B)

theorem and_split (k a b : Nat) : a &&& b = (a % 2 ^ k &&& b % 2 ^ k) + 2 ^ k * (a / 2 ^ k &&& b / 2 ^ k) := by
  rw [← Nat.and_mod_two_pow, ← Nat.and_div_two_pow]
  exact (Nat.mod_add_div _ _).symm
def pop (x : Nat) : Nat := (List.range 64).countP (fun b => x.testBit b)
theorem countP_range_le (p : Nat → Bool) (m n : Nat) (h : m ≤ n) : (List.range n).countP (fun b => decide (b < m) && p b) = (List.range m).countP p := by
  obtain ⟨k, rfl⟩ := Nat.exists_eq_add_of_le h
  rw [List.range_add, List.countP_append, List.countP_map]
  have e1 : (List.range k).countP ((fun b => decide (b < m) && p b) ∘ (fun x => m + x)) = 0 := by
    rw [List.countP_eq_zero]; intro a _; simp; omega
  rw [e1, Nat.add_zero]
  apply List.countP_congr
  intro a ha
  simp [List.mem_range.1 ha]
theorem pop_low (x m : Nat) (h : m ≤ 64) : pop (x &&& (2 ^ m - 1)) = (List.range m).countP (fun b => x.testBit b) := by
  rw [pop, ← countP_range_le _ m 64 h]
  apply List.countP_congr
  intro a _
  simp
theorem testBit_or_pow (x k b : Nat) : (x ||| 2 ^ k).testBit b = (x.testBit b || decide (k = b)) := by
  rw [Nat.testBit_or, Nat.testBit_two_pow]
def cnt (p : Nat → Bool) (n : Nat) : Nat := (List.range n).countP p
theorem cnt_zero (p : Nat → Bool) : cnt p 0 = 0 := rfl
theorem cnt_succ (p : Nat → Bool) (n : Nat) : cnt p (n + 1) = cnt p n + if p n then 1 else 0 := by
  simp [cnt, List.range_succ, List.countP_append, List.countP_cons]
theorem cnt_add (p : Nat → Bool) (a m : Nat) : cnt p (a + m) = cnt p a + (List.range m).countP (fun b => p (a + b)) := by
  rw [cnt, List.range_add, List.countP_append, List.countP_map]; rfl
theorem cnt_mono (p : Nat → Bool) {a b : Nat} (h : a ≤ b) : cnt p a ≤ cnt p b := by
  obtain ⟨m, rfl⟩ := Nat.exists_eq_add_of_le h
  rw [cnt_add]; omega
theorem cnt_list (L : List Nat) (h : L.Pairwise (· < ·)) (p : Nat → Bool) (hp : ∀ x, p x = decide (x ∈ L)) : ∀ n, cnt p n = L.countP (fun x => decide (x < n))
  | 0 => by rw [cnt_zero]; symm; rw [List.countP_eq_zero]; simp
  | n + 1 => by
    rw [cnt_succ, cnt_list L h p hp n, hp]
    have hnd : L.Nodup := h.imp (fun h => Nat.ne_of_lt h)
    have e : ∀ l : List Nat, l.countP (fun x => decide (x < n + 1)) = l.countP (fun x => decide (x < n)) + l.count n := by
      intro l
      induction l with
      | nil => rfl
      | cons a l ih =>
        rw [List.countP_cons, List.countP_cons, List.count_cons, ih]
        by_cases h1 : a < n
        · simp [h1, show a < n + 1 by omega, show a ≠ n by omega]; omega
        · by_cases h2 : a = n
          · simp [h2]; omega
          · simp [h1, show ¬ a < n + 1 by omega, h2]
    rw [e]
    congr 1
    by_cases hm : n ∈ L
    · rw [hnd.count, if_pos hm]; simp [hm]
    · rw [hnd.count, if_neg hm]; simp [hm]
theorem cnt_at (L : List Nat) (h : L.Pairwise (· < ·)) (p : Nat → Bool) (hp : ∀ x, p x = decide (x ∈ L)) (n : Nat) (hn : n < L.length) : cnt p L[n] = n := by
  rw [cnt_list L h p hp]
  generalize hv : L[n] = v
  rw [← List.take_append_drop n L, List.countP_append, ← hv]
  have e1 : (L.take n).countP (fun x => decide (x < L[n])) = n := by
    rw [List.countP_eq_length.2, List.length_take, Nat.min_eq_left (by omega)]
    intro a ha
    obtain ⟨i, hi, rfl⟩ := List.getElem_of_mem ha
    rw [List.length_take] at hi
    simp only [List.getElem_take, decide_eq_true_eq]
    exact List.pairwise_iff_getElem.1 h i n (by omega) hn (by omega)
  have e2 : (L.drop n).countP (fun x => decide (x < L[n])) = 0 := by
    rw [List.countP_eq_zero]
    intro a ha
    obtain ⟨i, hi, rfl⟩ := List.getElem_of_mem ha
    rw [List.length_drop] at hi
    simp only [List.getElem_drop, decide_eq_true_eq, Nat.not_lt]
    rcases Nat.eq_zero_or_pos i with h0 | h0
    · subst h0; simp
    · exact Nat.le_of_lt (List.pairwise_iff_getElem.1 h n (n + i) hn (by omega) (by omega))
  rw [e1, e2]; rfl
def IsNth (p : Nat → Bool) (n x : Nat) : Prop := p x = true ∧ cnt p x = n
theorem IsNth.uniq {p : Nat → Bool} {n x y : Nat} (h : IsNth p n x) (k : IsNth p n y) : x = y := by
  have aux : ∀ {x y}, IsNth p n x → IsNth p n y → ¬ x < y := by
    intro x y h k hlt
    have := cnt_mono p (show x + 1 ≤ y by omega)
    rw [cnt_succ, h.1, h.2, k.2] at this
    simp at this
    omega
  have := aux h k; have := aux k h; omega
theorem IsNth.list (L : List Nat) (h : L.Pairwise (· < ·)) (p : Nat → Bool) (hp : ∀ x, p x = decide (x ∈ L)) {n x : Nat} (hx : IsNth p n x) : ∃ hn : n < L.length, L[n] = x := by
  have hm : x ∈ L := by have := hx.1; rw [hp] at this; simpa using this
  obtain ⟨i, hi, rfl⟩ := List.getElem_of_mem hm
  have e := cnt_at L h p hp i hi
  have e' := hx.2
  rw [e] at e'
  subst e'
  exact ⟨hi, rfl⟩
theorem testBit_low (k y b : Nat) : (2 ^ k * (2 * y + 1)).testBit b = (decide (b = k) || (decide (k < b) && y.testBit (b - k - 1))) := by
  rw [Nat.testBit_two_pow_mul]
  rcases Nat.lt_trichotomy b k with h | h | h
  · simp [show ¬ b ≥ k by omega, show b ≠ k by omega, show ¬ k < b by omega]
  · subst h; simp [Nat.testBit_zero]
  · obtain ⟨c, rfl⟩ : ∃ c, b = k + c + 1 := ⟨b - k - 1, by omega⟩
    simp only [show k + c + 1 - k = c + 1 by omega, Nat.testBit_succ, show (2 * y + 1) / 2 = y by omega]
    simp [show k ≤ k + c + 1 by omega, show k + c + 1 ≠ k by omega, show k < k + c + 1 by omega, show c + 1 - 1 = c by omega]
theorem and_pred (k y : Nat) : (2 ^ k * (2 * y + 1)) &&& (2 ^ k * (2 * y + 1) - 1) = 2 ^ k * (2 * y) := by
  have hp : 0 < 2 ^ k := Nat.pos_of_ne_zero (by simp)
  have e1 : 2 ^ k * (2 * y + 1) - 1 = (2 ^ k - 1) + 2 ^ k * (2 * y) := by rw [Nat.mul_add, Nat.mul_one]; omega
  rw [e1, and_split k]
  have a1 : (2 ^ k * (2 * y + 1)) % 2 ^ k = 0 := by simp
  have a2 : (2 ^ k * (2 * y + 1)) / 2 ^ k = 2 * y + 1 := Nat.mul_div_cancel_left _ hp
  have a3 : (2 ^ k - 1 + 2 ^ k * (2 * y)) / 2 ^ k = 2 * y := by rw [Nat.add_mul_div_left _ _ hp, Nat.div_eq_of_lt (by omega), Nat.zero_add]
  rw [a1, a2, a3]
  simp only [Nat.zero_and, Nat.zero_add]
  congr 1
  have h := and_split 1 (2 * y + 1) (2 * y)
  rw [h]
  simp only [Nat.pow_one, show (2 * y + 1) % 2 = 1 by omega, show (2 * y) % 2 = 0 by omega, show (2 * y + 1) / 2 = y by omega, show 2 * y / 2 = y by omega, Nat.and_self]
  simp
theorem and_neg (k y N : Nat) (hk : k < N) (hx : 2 ^ k * (2 * y + 1) < 2 ^ N) : (2 ^ k * (2 * y + 1)) &&& (2 ^ N - 2 ^ k * (2 * y + 1)) = 2 ^ k := by
  have hp : 0 < 2 ^ k := Nat.pos_of_ne_zero (by simp)
  obtain ⟨m, rfl⟩ : ∃ m, N = k + 1 + m := ⟨N - k - 1, by omega⟩
  have hN : 2 ^ (k + 1 + m) = 2 ^ k * (2 * 2 ^ m) := by rw [Nat.pow_add, Nat.pow_succ, Nat.mul_assoc]
  have hy : 2 * y + 1 < 2 * 2 ^ m := by rw [hN] at hx; exact Nat.lt_of_mul_lt_mul_left hx
  have e1 : 2 ^ (k + 1 + m) - 2 ^ k * (2 * y + 1) = 2 ^ k * (2 * (2 ^ m - 1 - y) + 1) := by
    rw [hN, ← Nat.mul_sub]; congr 1; omega
  rw [e1, and_split k]
  have a1 : ∀ z, (2 ^ k * (2 * z + 1)) % 2 ^ k = 0 := fun z => by simp
  have a2 : ∀ z, (2 ^ k * (2 * z + 1)) / 2 ^ k = 2 * z + 1 := fun z => Nat.mul_div_cancel_left _ hp
  rw [a1, a1, a2, a2]
  simp only [Nat.zero_and, Nat.zero_add]
  have h := and_split 1 (2 * y + 1) (2 * (2 ^ m - 1 - y) + 1)
  rw [h]
  have e2 : y &&& (2 ^ m - 1 - y) = 0 := by
    apply Nat.eq_of_testBit_eq
    intro i
    rw [Nat.testBit_and, Nat.zero_testBit]
    by_cases hi : i < m
    · have : 2 ^ m - 1 - y = 2 ^ m - (y + 1) := by omega
      rw [this, Nat.testBit_two_pow_sub_succ (by omega)]
      simp [hi]
    · rw [Nat.testBit_lt_two_pow (x := y) (i := i) (Nat.lt_of_lt_of_le (by omega) (Nat.pow_le_pow_right (by omega) (show m ≤ i by omega)))]
      simp
  simp only [Nat.pow_one, show (2 * y + 1) % 2 = 1 by omega, show (2 * (2 ^ m - 1 - y) + 1) % 2 = 1 by omega, show (2 * y + 1) / 2 = y by omega, show (2 * (2 ^ m - 1 - y) + 1) / 2 = 2 ^ m - 1 - y by omega, e2]
  simp
def MaskOf (p : Nat → Bool) (i m : Nat) : Prop := m < 2 ^ 64 ∧ ∀ b, b < 64 → m.testBit b = p (64 * i + b)
theorem MaskOf.count {p : Nat → Bool} {i m : Nat} (h : MaskOf p i m) (r : Nat) (hr : r ≤ 64) : cnt p (64 * i + r) = cnt p (64 * i) + pop (m &&& (2 ^ r - 1)) := by
  rw [cnt_add, pop_low m r hr]
  congr 1
  apply List.countP_congr
  intro b hb
  rw [h.2 b (by have := List.mem_range.1 hb; omega)]
theorem MaskOf.all {p : Nat → Bool} {i m : Nat} (h : MaskOf p i m) : cnt p (64 * (i + 1)) = cnt p (64 * i) + pop m := by
  rw [show 64 * (i + 1) = 64 * i + 64 by omega, h.count 64 (by omega), Nat.and_two_pow_sub_one_eq_mod, Nat.mod_eq_of_lt h.1]
theorem MaskOf.zero (i : Nat) : MaskOf (fun _ => false) i 0 := ⟨by decide, fun b _ => by simp⟩
theorem MaskOf.put {p : Nat → Bool} {i m : Nat} (h : MaskOf p i m) (x : Nat) (hx : x / 64 = i) : MaskOf (fun y => p y || decide (x = y)) i (m ||| 2 ^ (x % 64)) := by
  refine ⟨?_, fun b hb => ?_⟩
  · apply Nat.or_lt_two_pow h.1
    exact Nat.pow_lt_pow_right (by decide) (Nat.mod_lt _ (by decide))
  · rw [testBit_or_pow, h.2 b hb]
    congr 1
    rw [decide_eq_decide]; omega
theorem MaskOf.other {p : Nat → Bool} {i m : Nat} (h : MaskOf p i m) (x : Nat) (hx : x / 64 ≠ i) : MaskOf (fun y => p y || decide (x = y)) i m :=
  ⟨h.1, fun b hb => by rw [h.2 b hb]; simp; intro e; omega⟩
theorem MaskOf.congr {p q : Nat → Bool} {i m : Nat} (h : MaskOf p i m) (e : ∀ x, p x = q x) : MaskOf q i m := ⟨h.1, fun b hb => (h.2 b hb).trans (e _)⟩
theorem exists_nth (p : Nat → Bool) (r : Nat) : ∀ n, r < cnt p n → ∃ j, j < n ∧ IsNth p r j
  | 0, h => by simp [cnt_zero] at h
  | n + 1, h => by
    rw [cnt_succ] at h
    by_cases h1 : r < cnt p n
    · obtain ⟨j, hj, hn⟩ := exists_nth p r n h1; exact ⟨j, by omega, hn⟩
    · by_cases hp : p n = true
      · simp only [hp, if_true] at h
        exact ⟨n, by omega, hp, by omega⟩
      · simp only [hp] at h
        simp at h; omega
def Strip (x r m : Nat) : Prop := m ≤ x ∧ ∀ b, m.testBit b = (x.testBit b && decide (r ≤ cnt x.testBit b))
theorem Strip.zero (x : Nat) : Strip x 0 x := ⟨Nat.le_refl _, fun b => by simp⟩
theorem Strip.least {x r m k y : Nat} (h : Strip x r m) (e : m = 2 ^ k * (2 * y + 1)) : IsNth x.testBit r k := by
  have hk : m.testBit k = true := by rw [e, testBit_low]; simp
  have h1 := h.2 k
  rw [hk] at h1
  simp only [Bool.true_eq, Bool.and_eq_true, decide_eq_true_eq] at h1
  refine ⟨h1.1, ?_⟩
  rcases Nat.lt_or_eq_of_le h1.2 with h2 | h2
  · obtain ⟨j, hj, hn⟩ := exists_nth x.testBit r k h2
    have h3 := h.2 j
    rw [hn.1, hn.2, e, testBit_low] at h3
    simp [show j ≠ k by omega, show ¬ k < j by omega] at h3
  · exact h2.symm
theorem Strip.step {x r m k y : Nat} (h : Strip x r m) (e : m = 2 ^ k * (2 * y + 1)) : Strip x (r + 1) (m &&& (m - 1)) := by
  have hl := h.least e
  refine ⟨Nat.le_trans Nat.and_le_left h.1, fun b => ?_⟩
  have hm : (m &&& (m - 1)).testBit b = (m.testBit b && decide (b ≠ k)) := by
    rw [e, and_pred, testBit_low, Nat.testBit_two_pow_mul]
    rcases Nat.lt_trichotomy b k with h1 | h1 | h1
    · simp [show ¬ b ≥ k by omega, show ¬ k < b by omega]
    · subst h1; simp [Nat.testBit_zero]
    · obtain ⟨c, rfl⟩ : ∃ c, b = k + c + 1 := ⟨b - k - 1, by omega⟩
      simp only [show k + c + 1 - k = c + 1 by omega, Nat.testBit_succ, show 2 * y / 2 = y by omega]
      simp [show k ≤ k + c + 1 by omega, show k + c + 1 ≠ k by omega, show k < k + c + 1 by omega, show c + 1 - 1 = c by omega]
  rw [hm, h.2 b]
  by_cases hb : x.testBit b = true
  · simp only [hb, Bool.true_and]
    by_cases hbk : b = k
    · subst hbk; simp [hl.2]
    · have : cnt x.testBit b ≠ r := fun hc => hbk (IsNth.uniq (p := x.testBit) ⟨hb, hc⟩ hl)
      rw [Bool.eq_iff_iff]; simp [hbk]; omega
  · simp [hb]
theorem MaskOf.cnt {p : Nat → Bool} {i m : Nat} (h : MaskOf p i m) (b : Nat) (hb : b ≤ 64) : cnt p (64 * i + b) = cnt p (64 * i) + cnt m.testBit b := by
  rw [cnt_add]; congr 1
  apply List.countP_congr
  intro c hc
  rw [h.2 c (by have := List.mem_range.1 hc; omega)]
def bruijn (k : Nat) : Nat := (2 ^ k * 0x03f79d71b4ca8b09) % 2 ^ 64 / 2 ^ 58
def bruijnTab : List Nat := [0, 1, 56, 2, 57, 49, 28, 3, 61, 58, 42, 50, 38, 29, 17, 4, 62, 47, 59, 36, 45, 43, 51, 22, 53, 39, 33, 30, 24, 18, 12, 5, 63, 55, 48, 27, 60, 41, 37, 16, 46, 35, 44, 21, 52, 32, 23, 11, 54, 26, 40, 15, 34, 20, 31, 10, 25, 14, 19, 9, 13, 8, 7, 6]
theorem bruijn_ok : ∀ k : Fin 64, bruijnTab[bruijn k.1]? = some k.1 := by decide +kernel
open Go Go.RowKit
theorem u64_wrap (n : Nat) (h : n < 2 ^ 64) : IntKind.u64.wrap (n : Int) = (n : Int) := by
  show (if (false && decide ((n : Int) % 2 ^ 64 ≥ 2 ^ (64 - 1))) = true then (n : Int) % 2 ^ 64 - 2 ^ 64 else (n : Int) % 2 ^ 64) = _
  rw [Bool.false_and, if_neg (by decide)]
  omega
theorem ofInt_nat (x : Nat) (hx : x < 2 ^ 64) : (BitVec.ofInt 64 (x : Int)).toNat = x := by
  rw [BitVec.toNat_ofInt]; omega
theorem bits_and (x y : Nat) (hx : x < 2 ^ 64) (hy : y < 2 ^ 64) : bits .and .u64 (x : Int) (y : Int) = ((x &&& y : Nat) : Int) := by
  show IntKind.u64.wrap (((BitVec.ofInt 64 (x : Int)) &&& (BitVec.ofInt 64 (y : Int))).toNat : Int) = _
  rw [BitVec.toNat_and, ofInt_nat x hx, ofInt_nat y hy]
  exact u64_wrap _ (Nat.lt_of_le_of_lt Nat.and_le_left hx)
end Go.Kt.Bits
/- A text that is cut: the numbers of its two pieces are its own just where it is cut between two units. -/
namespace Go.Proofs.YtbnnhbmnddaafaaGreatDoor
open Go

def numsF (s : ByteArray) (f i : Nat) : List Nat := (unitsF s f i).map (·.2)
def placesF (s : ByteArray) (f i : Nat) : List Nat := (unitsF s f i).map (·.1)
def nums (s : ByteArray) : List Nat := numsF s s.size 0
end Go.Proofs.YtbnnhbmnddaafaaGreatDoor
/- The walk of UtfCuts. -/
namespace Go.Proofs.YtbnnhbmnddaafaaGreatDoor
open Go Go.RowKit Go.Kt Go.Shelf
attribute [local go_sem] Oper.semAt_some

theorem tinfo21 : (Tryz.prog.info? 21).map (fun i => (i.zero, i.size, i.bytes)) = some (some (.int .i32 0), 1, 4) := by kernel_rfl

def Plc (m : Nat) (s : ByteArray) (p : Nat → Bool) (W : World) : Prop :=
  ∃ c : Array Value, W.heap[m]? = some (.cells c 4 (0, 0)) ∧ ∀ i, i ≤ s.size → c[i]? = some (.bool (p i))
theorem Plc.keep {m : Nat} {s : ByteArray} {p : Nat → Bool} {X : Nat → Prop} {A B : World} (h : Plc m s p A) (hk : Keep X A B) (hX : ¬ X m) : Plc m s p B := by
  obtain ⟨c, h1, h2⟩ := h
  exact ⟨c, hk.heap h1 hX, h2⟩
theorem Plc.cell {m : Nat} {s : ByteArray} {p : Nat → Bool} {W : World} (h : Plc m s p W) {i : Nat} (hi : i ≤ s.size) : W.cell? ⟨m, i, none⟩ = some (.bool (p i)) := by
  obtain ⟨c, h1, h2⟩ := h
  rw [Lib.cell_of_heap h1]; exact h2 i hi
theorem Plc.frozen {m : Nat} {s : ByteArray} {p : Nat → Bool} {W : World} (h : Plc m s p W) (i : Nat) : W.frozen? ⟨m, i, none⟩ = false := by
  obtain ⟨c, h1, h2⟩ := h
  exact Lib.frozen_of_heap h1 i
theorem Plc.set {m : Nat} {s : ByteArray} {p : Nat → Bool} {W : World} (h : Plc m s p W) {j : Nat} (_ : j ≤ s.size) : Plc m s (fun i => p i || i == j) (W.setCell ⟨m, j, none⟩ (.bool true)) := by
  obtain ⟨c, h1, h2⟩ := h
  refine ⟨c.setIfInBounds j (.bool true), by simp [World.setCell, Array.getElem?_modify, h1], fun i hi => ?_⟩
  rw [Array.getElem?_setIfInBounds]
  have := h2 i hi
  have hlt := (Array.getElem?_eq_some_iff.1 this).1
  by_cases e : j = i
  · subst e; rw [if_pos rfl, if_pos hlt]; simp
  · rw [if_neg e, this]
    have : (i == j) = false := by simp; omega
    simp [this]
theorem Plc.congr {m : Nat} {s : ByteArray} {p q : Nat → Bool} {W : World} (h : Plc m s p W) (e : ∀ i, i ≤ s.size → p i = q i) : Plc m s q W := by
  obtain ⟨c, h1, h2⟩ := h
  exact ⟨c, h1, fun i hi => by rw [← e i hi]; exact h2 i hi⟩

def pcs (s : ByteArray) (pre : List (Nat × Nat)) (i : Nat) : Bool := (pre.map fun p => p.1).contains i || (i == s.size || i == 0)
def numsI (s : ByteArray) : List Int := (nums s).map fun x : Nat => (x : Int)
theorem _root_.Go.Kt.Keep.drewN {X : Nat → Prop} {A B : World} (h : Keep X A B) (j : Nat) : Keep X A (B.drewN j) := h.trans ⟨rfl, rfl, rfl, Nat.le_refl _, fun _ _ _ => rfl⟩
theorem Sl.drewN {k : IntKind} {W : World} {v : Value} {l : List Int} (h : Sl k W v l) (j : Nat) : Sl k (W.drewN j) v l := h

end Go.Proofs.YtbnnhbmnddaafaaGreatDoor
/- What is read and made again: the bytes of a character; the text of a text's numbers; mended texts. -/
namespace Go.Proofs.YtbnnhbmnddaafaaGreatDoor
open Go

def seg (s : ByteArray) (i j : Nat) : List UInt8 := (s.extract i j).data.toList
theorem seg_eq (s : ByteArray) (i j : Nat) : seg s i j = (s.data.toList.take j).drop i := by
  simp [seg, List.drop_take]
theorem seg_len (s : ByteArray) (i j : Nat) (_h : i ≤ j) (hj : j ≤ s.size) : (seg s i j).length = j - i := by
  have : s.data.toList.length = s.size := by simp
  rw [seg_eq]; simp; omega
theorem seg_app (s : ByteArray) (i j k : Nat) (h1 : i ≤ j) (h2 : j ≤ k) : seg s i j ++ seg s j k = seg s i k := by
  simp only [seg_eq]
  rw [← List.take_append_drop (j - i) ((s.data.toList.take k).drop i), List.drop_drop, List.take_drop, Nat.add_sub_cancel' h1, List.take_take, Nat.min_eq_left h2]
theorem seg_self (s : ByteArray) (i : Nat) : seg s i i = [] := by
  rw [seg_eq]; apply List.drop_eq_nil_of_le; simp; omega
theorem seg_all (s : ByteArray) : seg s 0 s.size = s.data.toList := by
  have : s.data.toList.length = s.size := by simp
  rw [seg_eq, List.drop_zero, List.take_of_length_le (by omega)]
theorem seg_range (s : ByteArray) (i w : Nat) (h : i + w ≤ s.size) : seg s i (i + w) = (List.range w).map fun j => UInt8.ofNat (B s (i + j)) := by
  have hl : s.data.toList.length = s.size := by simp
  apply List.ext_getElem?
  intro j
  rw [seg_eq, List.getElem?_drop, List.getElem?_take, List.getElem?_map]
  by_cases hj : j < w
  · rw [if_pos (by omega), List.getElem?_range hj]
    have hlt : i + j < s.data.toList.length := by omega
    unfold B
    rw [Option.map_some, List.getD_eq_getElem?_getD, List.getElem?_eq_getElem hlt]
    simp
  · rw [if_neg (by omega), List.getElem?_eq_none (by simpa using hj)]
    rfl

theorem encode_decode (s : ByteArray) (i w : Nat) (hi : i < s.size) (hw1 : 1 ≤ w) (hw4 : w ≤ 4) (h : wideI s i = w) : (Utf8.encode (Utf8.decode s i).1).data.toList = seg s i (i + w) ∧ Utf8.valid (Utf8.decode s i).1 = true := by
  obtain ⟨hs, hc⟩ := (wide_iff s i w hi hw1 hw4).1 h
  have hd : ((Utf8.decode s i).1 : Int) = numT w (B s i) (B s (i + 1)) (B s (i + 2)) (B s (i + 3)) := by
    rcases unit_at s i hi with ⟨q, _⟩ | ⟨u, _, _, _, e1, _, e3⟩
    · omega
    · obtain rfl : u = w := by omega
      exact e3
  rw [seg_range s i w hs]
  have b0 := B_lt s i
  have b1 := B_lt s (i + 1)
  have b2 := B_lt s (i + 2)
  have b3 := B_lt s (i + 3)
  generalize (Utf8.decode s i).1 = c at hd
  have hv : Utf8.valid c = true := by
    unfold numT at hd
    simp only [Utf8.valid, Bool.or_eq_true, Bool.and_eq_true, decide_eq_true_iff]
    rcases hc with ⟨rfl, h1⟩ | ⟨rfl, h1⟩ | ⟨rfl, h1⟩ | ⟨rfl, h1⟩
    · simp at hd; omega
    · simp at hd; omega
    · simp at hd; omega
    · simp at hd; omega
  refine ⟨?_, hv⟩
  rw [encode_C, if_pos hv]
  unfold encC
  unfold numT at hd
  rcases hc with ⟨rfl, h1⟩ | ⟨rfl, h1⟩ | ⟨rfl, h1⟩ | ⟨rfl, h1⟩
  · simp at hd
    rw [if_pos (by omega)]
    simp [List.range_succ]
    rw [show (c : Nat) = B s i by omega]
  · simp at hd
    rw [if_neg (by omega), if_pos (by omega)]
    simp [List.range_succ]
    exact ⟨by rw [show (192 + (c : Int) / 64).toNat = B s i by omega], by rw [show (128 + (c : Int) % 64).toNat = B s (i + 1) by omega]⟩
  · simp at hd
    rw [if_neg (by omega), if_neg (by omega), if_pos (by omega)]
    simp [List.range_succ]
    exact ⟨by rw [show (224 + (c : Int) / 4096).toNat = B s i by omega], by rw [show (128 + (c : Int) / 64 % 64).toNat = B s (i + 1) by omega], by rw [show (128 + (c : Int) % 64).toNat = B s (i + 2) by omega]⟩
  · simp at hd
    rw [if_neg (by omega), if_neg (by omega), if_neg (by omega)]
    simp [List.range_succ]
    exact ⟨by rw [show (240 + (c : Int) / 262144).toNat = B s i by omega], by rw [show (128 + (c : Int) / 4096 % 64).toNat = B s (i + 1) by omega], by rw [show (128 + (c : Int) / 64 % 64).toNat = B s (i + 2) by omega], by rw [show (128 + (c : Int) % 64).toNat = B s (i + 3) by omega]⟩

def fixF (s : ByteArray) : Nat → Nat → List UInt8
  | 0, _ => []
  | f + 1, i => if i < s.size then (Utf8.encode (Utf8.decode s i).1).data.toList ++ fixF s f (i + (Utf8.decode s i).2) else []
def fffd : List UInt8 := [239, 191, 189]
end Go.Proofs.YtbnnhbmnddaafaaGreatDoor
/- Mended texts: how long they are; that they are right; U+FFFD byte by byte. -/
namespace Go.Proofs.YtbnnhbmnddaafaaGreatDoor
open Go

def mendR (s by' : ByteArray) (whole : Bool) : Nat → Nat → List UInt8
  | 0, _ => []
  | f + 1, i => if i < s.size then (if wideI s i = 0 then rep by'.data.toList (if whole then 1 else badK s i) ++ mendR s by' whole f (i + badK s i) else seg s i (i + (wideI s i).toNat) ++ mendR s by' whole f (i + (wideI s i).toNat)) else []
def sumK (l : List (Nat × Nat)) : Nat := (l.map (·.2)).sum
end Go.Proofs.YtbnnhbmnddaafaaGreatDoor
/- Texts that are right: made of characters; one behind the other; mended ones. -/
namespace Go.Proofs.YtbnnhbmnddaafaaGreatDoor
open Go

def bt (l : List UInt8) (i : Nat) : Nat := (l.getD i 0).toNat
def Chr (c : List UInt8) : Prop := 1 ≤ c.length ∧ c.length ≤ 4 ∧ CharAt c.length (bt c 0) (bt c 1) (bt c 2) (bt c 3)
inductive Vd : List UInt8 → Prop
  | nil : Vd []
  | cons (c l : List UInt8) : Chr c → Vd l → Vd (c ++ l)
theorem Vd.append {a b : List UInt8} (ha : Vd a) (hb : Vd b) : Vd (a ++ b) := by
  induction ha with
  | nil => exact hb
  | cons c l hc _ ih => rw [List.append_assoc]; exact .cons c _ hc ih
theorem Vd.rep {a : List UInt8} (ha : Vd a) : ∀ n, Vd (rep a n)
  | 0 => .nil
  | n + 1 => (Vd.rep ha n).append ha

end Go.Proofs.YtbnnhbmnddaafaaGreatDoor
/- Units there and back; the numbers of a text made of numbers. -/
namespace Go.Proofs.YtbnnhbmnddaafaaGreatDoor
open Go

theorem units_dec (s : ByteArray) : ∀ f i p, p ∈ unitsF s f i → p.2 = (Utf8.decode s p.1).1 ∧ p.1 < s.size
  | 0, _, p, h => by simp [unitsF] at h
  | f + 1, i, p, h => by
    rw [unitsF] at h
    split at h
    · rcases List.mem_cons.1 h with h | h
      · subst h; exact ⟨rfl, by assumption⟩
      · exact units_dec s f _ p h
    · simp at h
def fixR (x : Int) : Int := if Utf8.valid x then x else 65533
end Go.Proofs.YtbnnhbmnddaafaaGreatDoor
/- Which bytes of a text begin a unit, and of what kind; where the n-th unit begins: the mathematics. -/
namespace Go.Proofs.YtbnnhbmnddaafaaGreatDoor
open Go Go.RowKit Go.Kt Go.Kt.Bits

def PL (s : ByteArray) : List Nat := placesF s s.size 0
def kindB (k r : Nat) : Bool := if k = 0 then true else if k = 1 then decide (65535 < r) else decide (r = 10)
def isK (s : ByteArray) (k x : Nat) : Bool := decide (x ∈ PL s) && kindB k (Utf8.decode s x).1
def kl (s : ByteArray) (k : Nat) : List Nat := (PL s).filter fun x => kindB k (Utf8.decode s x).1
def isP (k : Nat) (pre : List (Nat × Nat)) (x : Nat) : Bool := pre.any fun u => kindB k u.2 && decide (u.1 = x)
def pos (s : ByteArray) (n : Nat) : Nat := (PL s).getD n s.size
end Go.Proofs.YtbnnhbmnddaafaaGreatDoor
/- math/bits.OnesCount64 and TrailingZeros64 of a number of 64 bits. -/
namespace Go.Proofs.YtbnnhbmnddaafaaGreatDoor
open Go Go.RowKit Go.Kt Go.Kt.Bits

abbrev stA (z : Int) : Int := IntKind.u64.wrap (bits .and .u64 (z / 2) 6148914691236517205 + bits .and .u64 z 6148914691236517205)
abbrev stB (z : Int) : Int := IntKind.u64.wrap (bits .and .u64 (z / 4) 3689348814741910323 + bits .and .u64 z 3689348814741910323)
abbrev stC (z : Int) : Int := bits .and .u64 (IntKind.u64.wrap (z / 16 + z)) 1085102592571150095
abbrev stD (k z : Int) : Int := IntKind.u64.wrap (z + z / k)
def fA (x : Nat) : Nat := (x / 2 &&& 0x5555555555555555) + (x &&& 0x5555555555555555)
def fB (x : Nat) : Nat := (x / 4 &&& 0x3333333333333333) + (x &&& 0x3333333333333333)
def fC (x : Nat) : Nat := (x / 16 + x) &&& 0x0f0f0f0f0f0f0f0f
end Go.Proofs.YtbnnhbmnddaafaaGreatDoor
/- math/bits.TrailingZeros64 of a number of 64 bits that is not 0. -/
namespace Go.Proofs.YtbnnhbmnddaafaaGreatDoor
open Go Go.RowKit Go.Kt Go.Kt.Bits

def BTab (w : World) : Prop := ∀ k, k < 64 → w.cell? ⟨6, k, none⟩ = some (.int .u8 ((bruijnTab.getD k 0 : Nat) : Int))

theorem k_lt (x k y : Nat) (hx : x = 2 ^ k * (2 * y + 1)) (h : x < 2 ^ 64) : k < 64 := by
  rcases Nat.lt_or_ge k 64 with h1 | h1
  · exact h1
  · have : 2 ^ 64 ≤ 2 ^ k := Nat.pow_le_pow_right (by decide) h1
    have : 2 ^ k * 1 ≤ 2 ^ k * (2 * y + 1) := Nat.mul_le_mul_left _ (by omega)
    omega
theorem tz_and (x k y : Nat) (hx : x = 2 ^ k * (2 * y + 1)) (h : x < 2 ^ 64) : bits .and .u64 (x : Int) (IntKind.u64.wrap (-(x : Int))) = ((2 ^ k : Nat) : Int) := by
  have hk := k_lt x k y hx h
  have hp : 0 < 2 ^ k := Nat.pos_of_ne_zero (by simp)
  have h1 : 1 ≤ x := by rw [hx]; exact Nat.mul_pos hp (by omega)
  have e1 : IntKind.u64.wrap (-(x : Int)) = ((2 ^ 64 - x : Nat) : Int) := by
    show (if (false && decide ((-(x : Int)) % 2 ^ 64 ≥ 2 ^ (64 - 1))) = true then (-(x : Int)) % 2 ^ 64 - 2 ^ 64 else (-(x : Int)) % 2 ^ 64) = _
    rw [Bool.false_and, if_neg (by decide)]
    omega
  have e2 : x &&& (2 ^ 64 - x) = 2 ^ k := by
    have := and_neg k y 64 hk (by rw [← hx]; exact h)
    rw [hx]; exact this
  rw [e1, bits_and x (2 ^ 64 - x) h (by omega), e2]
theorem tz_mul (k : Nat) : IntKind.u64.wrap (((2 ^ k : Nat) : Int) * 285870213051353865) = (((2 ^ k * 0x03f79d71b4ca8b09) % 2 ^ 64 : Nat) : Int) := by
  have e3 : ((2 ^ k : Nat) : Int) * 285870213051353865 = ((2 ^ k * 0x03f79d71b4ca8b09 : Nat) : Int) := by rw [Int.natCast_mul]; rfl
  rw [e3]
  show (if (false && decide (((2 ^ k * 0x03f79d71b4ca8b09 : Nat) : Int) % 2 ^ 64 ≥ 2 ^ (64 - 1))) = true then ((2 ^ k * 0x03f79d71b4ca8b09 : Nat) : Int) % 2 ^ 64 - 2 ^ 64 else ((2 ^ k * 0x03f79d71b4ca8b09 : Nat) : Int) % 2 ^ 64) = _
  rw [Bool.false_and, if_neg (by decide)]
  generalize 2 ^ k * 0x03f79d71b4ca8b09 = z
  omega
theorem tz_div (k : Nat) : (((2 ^ k * 0x03f79d71b4ca8b09) % 2 ^ 64 : Nat) : Int) / 288230376151711744 = ((bruijn k : Nat) : Int) := by
  unfold bruijn
  generalize (2 ^ k * 0x03f79d71b4ca8b09) % 2 ^ 64 = z
  omega
theorem bruijn_lt : ∀ k : Fin 64, bruijn k.1 < 64 := by decide +kernel

set_option maxRecDepth 100000 in
theorem tz_any (x k y : Nat) (w : World) (hT : BTab w) (hx : Hid (x = 2 ^ k * (2 * y + 1) ∧ x < 2 ^ 64)) :
    Calls Tryz.prog 126 #[.int .u64 (x : Int)] w fun e w' => e = .returned (.int .i64 (k : Nat)) ∧ w = w' := by
  have hk : k < 64 := k_lt x k y hx.out.1 hx.out.2
  have hp : 0 < 2 ^ k := Nat.pos_of_ne_zero (by simp)
  have h0 : ((x : Int) == 0) = false := by
    have h1 : 1 ≤ x := by rw [hx.out.1]; exact Nat.mul_pos hp (by omega)
    simp; omega
  have a1 := tz_and x k y hx.out.1 hx.out.2
  have a2 := tz_mul k
  have a3 := Lib.hid (tz_div k)
  have hj := bruijn_lt ⟨k, hk⟩
  have hc : w.cell? ⟨6, bruijn k, none⟩ = some (.int .u8 (k : Int)) := by
    have h := hT (bruijn k) hj
    have hb := bruijn_ok ⟨k, hk⟩
    simp only at hb
    rw [List.getD_eq_getElem?_getD, hb] at h
    exact h
  simp only at hj
  rw [show bruijn k = (2 ^ k * 0x03f79d71b4ca8b09) % 2 ^ 64 / 288230376151711744 from rfl] at hc hj
  have hj2 := Lib.hid hj
  generalize (2 ^ k * 0x03f79d71b4ca8b09) % 2 ^ 64 = m at *
  clear hx a3 hj
  generalize 2 ^ k = q at *
  clear hT hp
  go_enter Tryz.func126, Tryz.ntmps126
  go_wp2
  · go_ret
    exact ⟨rfl, rfl⟩
  · rename_i h
    exact absurd ⟨by omega, by have := hj2.out; omega⟩ h
end Go.Proofs.YtbnnhbmnddaafaaGreatDoor
/- points.Places: what lies in memory; mark. -/
namespace Go.Proofs.YtbnnhbmnddaafaaGreatDoor
open Go Go.RowKit Go.Kt Go.Kt.Bits

def Blk (W : World) (g n : Nat) (A M : Nat → Nat → Nat) : Prop :=
  ∀ i, i < n → ∀ k, k < 3 → W.cell? ⟨g, i * 6 + k, none⟩ = some (.int .i64 (A k i : Nat)) ∧ W.cell? ⟨g, i * 6 + 3 + k, none⟩ = some (.int .u64 (M k i : Nat))

def pre (M : Nat → Nat → Nat) (k : Nat) : Nat → Nat
  | 0 => 0
  | j + 1 => pre M k j + pop (M k j)

def SumInv (g n : Nat) (M : Nat → Nat → Nat) (i : Nat) (W : World) : Prop :=
  (∀ j, j < n → ∀ k, k < 3 → W.cell? ⟨g, j * 6 + 3 + k, none⟩ = some (.int .u64 (M k j : Nat))) ∧ (∀ j, j < i → ∀ k, k < 3 → W.cell? ⟨g, j * 6 + k, none⟩ = some (.int .i64 (pre M k j : Nat))) ∧
  (∀ j, j < n → ∀ k, k < 3 → ∃ v, W.cell? ⟨g, j * 6 + k, none⟩ = some v) ∧ (∀ o, W.frozen? ⟨g, o, none⟩ = false)
theorem SumInv.keep {g n i sb : Nat} {M : Nat → Nat → Nat} {A B : World} (h : SumInv g n M i A) (hk : Keep (fun x => x = sb) A B) (hg : g ≠ sb) (hgA : g < A.heap.size) : SumInv g n M i B :=
  ⟨fun j hj k hk3 => hk.cell (h.1 j hj k hk3) hg, fun j hj k hk3 => hk.cell (h.2.1 j hj k hk3) hg, fun j hj k hk3 => by obtain ⟨v, hv⟩ := h.2.2.1 j hj k hk3; exact ⟨v, hk.cell hv hg⟩,
    fun o => (hk.frozen (p := ⟨g, o, none⟩) hgA hg).trans (h.2.2.2 o)⟩
theorem SumInv.step {g n i : Nat} {M : Nat → Nat → Nat} {W : World} (h : SumInv g n M i W) (hi : i < n) :
    SumInv g n M (i + 1) (((W.setCell ⟨g, i * 6, none⟩ (.int .i64 (pre M 0 i : Nat))).setCell ⟨g, i * 6 + 1, none⟩ (.int .i64 (pre M 1 i : Nat))).setCell ⟨g, i * 6 + 2, none⟩ (.int .i64 (pre M 2 i : Nat))) := by
  have oth : ∀ o, o ≠ i * 6 → o ≠ i * 6 + 1 → o ≠ i * 6 + 2 → (((W.setCell ⟨g, i * 6, none⟩ (.int .i64 (pre M 0 i : Nat))).setCell ⟨g, i * 6 + 1, none⟩ (.int .i64 (pre M 1 i : Nat))).setCell ⟨g, i * 6 + 2, none⟩ (.int .i64 (pre M 2 i : Nat))).cell? ⟨g, o, none⟩ = W.cell? ⟨g, o, none⟩ := fun o a1 a2 a3 => by
    rw [World.cell?_setCell_other _ _ _ _ (by simp), World.cell?_setCell_other _ _ _ _ (by simp), World.cell?_setCell_other _ _ _ _ (by simp)]
  obtain ⟨u0, hu0⟩ := h.2.2.1 i hi 0 (by omega)
  obtain ⟨u1, hu1⟩ := h.2.2.1 i hi 1 (by omega)
  obtain ⟨u2, hu2⟩ := h.2.2.1 i hi 2 (by omega)
  have at0 : ∀ k, k < 3 → (((W.setCell ⟨g, i * 6, none⟩ (.int .i64 (pre M 0 i : Nat))).setCell ⟨g, i * 6 + 1, none⟩ (.int .i64 (pre M 1 i : Nat))).setCell ⟨g, i * 6 + 2, none⟩ (.int .i64 (pre M 2 i : Nat))).cell? ⟨g, i * 6 + k, none⟩ = some (.int .i64 (pre M k i : Nat)) := fun k hk => by
    rcases (by omega : k = 0 ∨ k = 1 ∨ k = 2) with rfl | rfl | rfl
    · rw [World.cell?_setCell_other _ _ _ _ (by simp), World.cell?_setCell_other _ _ _ _ (by simp)]
      exact World.cell?_setCell_same _ _ _ hu0
    · rw [World.cell?_setCell_other _ _ _ _ (by simp)]
      exact World.cell?_setCell_same _ _ _ (by rw [World.cell?_setCell_other _ _ _ _ (by simp)]; exact hu1)
    · exact World.cell?_setCell_same _ _ _ (by rw [World.cell?_setCell_other _ _ _ _ (by simp), World.cell?_setCell_other _ _ _ _ (by simp)]; exact hu2)
  refine ⟨fun j hj k hk => ?_, fun j hj k hk => ?_, fun j hj k hk => ?_, fun o => ?_⟩
  · rw [oth _ (by omega) (by omega) (by omega)]; exact h.1 j hj k hk
  · by_cases e : j = i
    · subst e; exact at0 k hk
    · rw [oth _ (by omega) (by omega) (by omega)]; exact h.2.1 j (by omega) k hk
  · by_cases e : j = i
    · subst e; exact ⟨_, at0 k hk⟩
    · rw [oth _ (by omega) (by omega) (by omega)]; exact h.2.2.1 j hj k hk
  · rw [World.frozen?_setCell, World.frozen?_setCell, World.frozen?_setCell]; exact h.2.2.2 o
def sv (M : Nat → Nat → Nat) (i k kk : Nat) : Nat := if kk < k then pre M kk (i + 1) else pre M kk i

end Go.Proofs.YtbnnhbmnddaafaaGreatDoor
/- utf.Back's inner function: it hands out the units from behind. -/
namespace Go.Proofs.YtbnnhbmnddaafaaGreatDoor
open Go Go.RowKit Go.Kt Go.Shelf
attribute [local go_sem] Oper.semAt_some

theorem unitsF_split (s : ByteArray) : ∀ (F i0 : Nat) (front : List (Nat × Nat)) (x : Nat × Nat) (rest : List (Nat × Nat)), unitsF s F i0 = front ++ x :: rest → s.size ≤ i0 + F →
    x.1 < s.size ∧ x.2 = (Utf8.decode s x.1).1 ∧ ∃ f', rest = unitsF s f' (x.1 + (Utf8.decode s x.1).2) ∧ s.size ≤ x.1 + (Utf8.decode s x.1).2 + f'
  | 0, _, front, x, rest, h, _ => by simp [unitsF] at h
  | F + 1, i0, front, x, rest, h, hf => by
    by_cases hi : i0 < s.size
    · obtain ⟨d1, d2, d3⟩ := dec_width s i0 hi
      rw [unitsF, if_pos hi] at h
      cases front with
      | nil =>
        simp only [List.nil_append, List.cons.injEq] at h
        obtain ⟨h1, h2⟩ := h
        subst h1
        exact ⟨hi, rfl, F, h2.symm, by simp only; omega⟩
      | cons y t =>
        simp only [List.cons_append, List.cons.injEq] at h
        exact unitsF_split s F _ t x rest h.2 (by omega)
    · rw [unitsF, if_neg hi] at h
      simp at h
theorem unitsF_nil {s : ByteArray} {f e : Nat} (h : unitsF s f e = []) (hf : s.size ≤ e + f) : s.size ≤ e := by
  rcases Nat.lt_or_ge e s.size with h1 | h1
  · cases f with
    | zero => omega
    | succ f => rw [unitsF, if_pos h1] at h; cases h
  · exact h1
theorem unitsF_head {s : ByteArray} {f e : Nat} {x : Nat × Nat} {r : List (Nat × Nat)} (h : unitsF s f e = x :: r) : x.1 = e := by
  cases f with
  | zero => simp [unitsF] at h
  | succ f =>
    rw [unitsF] at h
    split at h
    · simp only [List.cons.injEq] at h; rw [← h.1]
    · cases h

def Fr (s : ByteArray) (front : List (Nat × Nat)) (e : Nat) : Prop := ∃ f, units s = front ++ unitsF s f e ∧ (unitsF s f e = [] → s.size ≤ e) ∧ e ≤ s.size
theorem Fr.all (s : ByteArray) : Fr s (units s) s.size := ⟨0, by simp [unitsF], fun _ => Nat.le_refl _, Nat.le_refl _⟩
theorem Fr.zero {s : ByteArray} {e : Nat} (h : Fr s [] e) : e = 0 := by
  obtain ⟨f, h1, h2, h3⟩ := h
  rw [List.nil_append] at h1
  rcases Nat.eq_zero_or_pos s.size with hz | hz
  · omega
  · cases hu : units s with
    | nil =>
      have := unitsF_nil (show unitsF s s.size 0 = [] from hu) (by omega)
      omega
    | cons x r =>
      rw [hu] at h1
      have e1 := unitsF_head h1.symm
      have e2 := unitsF_head (show unitsF s s.size 0 = x :: r from hu)
      omega
theorem Fr.snoc {s : ByteArray} {front : List (Nat × Nat)} {x : Nat × Nat} {e : Nat} (h : Fr s (front ++ [x]) e) : x.1 < s.size ∧ x.2 = (Utf8.decode s x.1).1 ∧ e = x.1 + (Utf8.decode s x.1).2 ∧ Fr s front x.1 := by
  obtain ⟨f, h1, h2, h3⟩ := h
  rw [List.append_assoc] at h1
  have h1' : unitsF s s.size 0 = front ++ x :: unitsF s f e := h1
  obtain ⟨a1, a2, f', a3, a4⟩ := unitsF_split s s.size 0 front x _ h1' (by omega)
  obtain ⟨d1, d2, d3⟩ := dec_width s x.1 a1
  refine ⟨a1, a2, ?_, f' + 1, ?_, fun h => (by rw [unitsF, if_pos a1] at h; cases h), by omega⟩
  · cases hu : unitsF s f e with
    | nil =>
      have k1 := h2 hu
      rw [hu] at a3
      have k2 := unitsF_nil a3.symm a4
      omega
    | cons y r =>
      have k1 := unitsF_head hu
      rw [hu] at a3
      have k2 := unitsF_head a3.symm
      omega
  · rw [h1, unitsF, if_pos a1, ← a3, ← a2]; rfl

end Go.Proofs.YtbnnhbmnddaafaaGreatDoor
/- The unit at a place: its point and its width; as layer 2's document reckons it, and as the model decodes. No run in this text. -/
namespace Go.Proofs.YtbnnhbmnddaafaaGreatDoor
open Go Go.RowKit Go.Lib

def ptN (N b0 b1 b2 b3 : Nat) : Nat × Nat := if decodeN N b0 b1 b2 b3 = (65533, 1) then (1114112 + b0, 1) else decodeN N b0 b1 b2 b3
def ptU (s : ByteArray) (i : Nat) : Nat × Nat := if Utf8.decode s i = (65533, 1) then (1114112 + B s i, 1) else Utf8.decode s i
def ptP (s : ByteArray) (a : Int) : Int × Int := if 0 ≤ a ∧ a < s.size then (((ptU s a.toNat).1 : Int), ((ptU s a.toNat).2 : Int)) else (0, 0)
theorem ptU_N (s : ByteArray) (i : Nat) : ptU s i = ptN (s.size - i) (B s i) (B s (i + 1)) (B s (i + 2)) (B s (i + 3)) := by
  unfold ptU ptN; rw [decode_B]
theorem ptP_in (s : ByteArray) (i : Nat) (h : i < s.size) : ptP s i = (((ptU s i).1 : Int), ((ptU s i).2 : Int)) := by
  unfold ptP; rw [if_pos (by omega)]; simp
theorem ptP_out (s : ByteArray) (a : Int) (h : a < 0 ∨ s.size ≤ a) : ptP s a = (0, 0) := by
  unfold ptP; rw [if_neg (by omega)]

def longI (c : Int) : Int × Int :=
  if c < 128 then (1, c) else if 192 ≤ c ∧ c < 224 then (2, c - 192) else if 224 ≤ c ∧ c < 240 then (3, c - 224) else if 240 ≤ c ∧ c < 248 then (4, c - 240) else (0, 0)
def charB (c : Int) : Bool := decide (0 ≤ c ∧ c < 55296) || decide (57343 < c ∧ c ≤ 1114111)
def leastI (n : Int) : Int := if n = 1 then 0 else if n = 2 then 128 else if n = 3 then 2048 else 65536

def nextN (N b0 b1 b2 b3 : Int) : Int × Int :=
  if b0 < 128 then (b0, 1)
  else if 192 ≤ b0 ∧ b0 < 224 then
    if 2 ≤ N ∧ (128 ≤ b1 ∧ b1 < 192) ∧ 128 ≤ (b0 - 192) * 64 + b1 - 128 then ((b0 - 192) * 64 + b1 - 128, 2) else (1114112 + b0, 1)
  else if 224 ≤ b0 ∧ b0 < 240 then
    if 3 ≤ N ∧ (128 ≤ b1 ∧ b1 < 192) ∧ (128 ≤ b2 ∧ b2 < 192) ∧ 2048 ≤ ((b0 - 224) * 64 + b1 - 128) * 64 + b2 - 128 ∧ charB (((b0 - 224) * 64 + b1 - 128) * 64 + b2 - 128) = true
    then (((b0 - 224) * 64 + b1 - 128) * 64 + b2 - 128, 3) else (1114112 + b0, 1)
  else if 240 ≤ b0 ∧ b0 < 248 then
    if 4 ≤ N ∧ (128 ≤ b1 ∧ b1 < 192) ∧ (128 ≤ b2 ∧ b2 < 192) ∧ (128 ≤ b3 ∧ b3 < 192) ∧ 65536 ≤ (((b0 - 240) * 64 + b1 - 128) * 64 + b2 - 128) * 64 + b3 - 128 ∧ charB ((((b0 - 240) * 64 + b1 - 128) * 64 + b2 - 128) * 64 + b3 - 128) = true
    then ((((b0 - 240) * 64 + b1 - 128) * 64 + b2 - 128) * 64 + b3 - 128, 4) else (1114112 + b0, 1)
  else (1114112 + b0, 1)

theorem charB_iff (c : Int) : charB c = true ↔ (0 ≤ c ∧ c < 55296) ∨ (57343 < c ∧ c ≤ 1114111) := by simp [charB]

theorem nextN_2 (N b0 b1 b2 b3 : Nat) (h : 192 ≤ b0 ∧ b0 < 224) (c1 : b1 < 256) : nextN N b0 b1 b2 b3 = (((ptN N b0 b1 b2 b3).1 : Int), ((ptN N b0 b1 b2 b3).2 : Int)) := by
  by_cases g : 1 < N ∧ 128 ≤ b1 ∧ b1 ≤ 191 ∧ 128 ≤ (b0 - 192) * 64 + (b1 - 128)
  · have e : decodeN N b0 b1 b2 b3 = ((b0 - 192) * 64 + (b1 - 128), 2) := by
      unfold decodeN; rw [if_neg (by omega), if_pos (by omega), if_pos (by omega)]
      exact Prod.ext (by simp; omega) rfl
    unfold nextN ptN
    rw [if_neg (by omega), if_pos (by omega), if_pos (by omega), e, if_neg (by simp)]
    exact Prod.ext (by simp; omega) rfl
  · have e : decodeN N b0 b1 b2 b3 = (65533, 1) := by
      unfold decodeN; rw [if_neg (by omega)]
      by_cases k : b0 / 32 = 6 ∧ (1 < N ∧ b1 / 64 = 2)
      · rw [if_pos k, if_neg (by omega)]
      · rw [if_neg k, if_neg (by omega), if_neg (by omega)]
    unfold nextN ptN
    rw [if_neg (by omega), if_pos (by omega), if_neg (by omega), e, if_pos rfl]
    exact Prod.ext (by simp) rfl
theorem nextN_3 (N b0 b1 b2 b3 : Nat) (h : 224 ≤ b0 ∧ b0 < 240) (c1 : b1 < 256) (c2 : b2 < 256) : nextN N b0 b1 b2 b3 = (((ptN N b0 b1 b2 b3).1 : Int), ((ptN N b0 b1 b2 b3).2 : Int)) := by
  by_cases g : (2 < N ∧ 128 ≤ b1 ∧ b1 ≤ 191 ∧ 128 ≤ b2 ∧ b2 ≤ 191) ∧ 2048 ≤ ((b0 - 224) * 64 + (b1 - 128)) * 64 + (b2 - 128) ∧ (((b0 - 224) * 64 + (b1 - 128)) * 64 + (b2 - 128) < 55296 ∨ 57344 ≤ ((b0 - 224) * 64 + (b1 - 128)) * 64 + (b2 - 128))
  · have e : decodeN N b0 b1 b2 b3 = (((b0 - 224) * 64 + (b1 - 128)) * 64 + (b2 - 128), 3) := by
      unfold decodeN; rw [if_neg (by omega), if_neg (by omega), if_pos (by omega), if_pos (by omega)]
      exact Prod.ext (by simp; omega) rfl
    unfold nextN ptN
    rw [if_neg (by omega), if_neg (by omega), if_pos (by omega), if_pos (by rw [charB_iff]; omega), e, if_neg (by simp)]
    exact Prod.ext (by simp; omega) rfl
  · have e : decodeN N b0 b1 b2 b3 = (65533, 1) := by
      unfold decodeN; rw [if_neg (by omega), if_neg (by omega)]
      by_cases k : b0 / 16 = 14 ∧ (1 < N ∧ b1 / 64 = 2) ∧ (2 < N ∧ b2 / 64 = 2)
      · rw [if_pos k, if_neg (by omega)]
      · rw [if_neg k, if_neg (by omega)]
    unfold nextN ptN
    rw [if_neg (by omega), if_neg (by omega), if_pos (by omega), if_neg (by rw [charB_iff]; omega), e, if_pos rfl]
    exact Prod.ext (by simp) rfl
theorem nextN_4 (N b0 b1 b2 b3 : Nat) (h : 240 ≤ b0 ∧ b0 < 248) (c1 : b1 < 256) (c2 : b2 < 256) (c3 : b3 < 256) : nextN N b0 b1 b2 b3 = (((ptN N b0 b1 b2 b3).1 : Int), ((ptN N b0 b1 b2 b3).2 : Int)) := by
  by_cases g : (3 < N ∧ 128 ≤ b1 ∧ b1 ≤ 191 ∧ 128 ≤ b2 ∧ b2 ≤ 191 ∧ 128 ≤ b3 ∧ b3 ≤ 191) ∧ 65536 ≤ (((b0 - 240) * 64 + (b1 - 128)) * 64 + (b2 - 128)) * 64 + (b3 - 128) ∧ (((b0 - 240) * 64 + (b1 - 128)) * 64 + (b2 - 128)) * 64 + (b3 - 128) ≤ 1114111
  · have e : decodeN N b0 b1 b2 b3 = ((((b0 - 240) * 64 + (b1 - 128)) * 64 + (b2 - 128)) * 64 + (b3 - 128), 4) := by
      unfold decodeN; rw [if_neg (by omega), if_neg (by omega), if_neg (by omega), if_pos (by omega), if_pos (by omega)]
      exact Prod.ext (by simp; omega) rfl
    unfold nextN ptN
    rw [if_neg (by omega), if_neg (by omega), if_neg (by omega), if_pos (by omega), if_pos (by rw [charB_iff]; omega), e, if_neg (by simp)]
    exact Prod.ext (by simp; omega) rfl
  · have e : decodeN N b0 b1 b2 b3 = (65533, 1) := by
      unfold decodeN; rw [if_neg (by omega), if_neg (by omega), if_neg (by omega)]
      by_cases k : b0 / 8 = 30 ∧ (1 < N ∧ b1 / 64 = 2) ∧ (2 < N ∧ b2 / 64 = 2) ∧ (3 < N ∧ b3 / 64 = 2)
      · rw [if_pos k, if_neg (by omega)]
      · rw [if_neg k]
    unfold nextN ptN
    rw [if_neg (by omega), if_neg (by omega), if_neg (by omega), if_pos (by omega), if_neg (by rw [charB_iff]; omega), e, if_pos rfl]
    exact Prod.ext (by simp) rfl
theorem nextN_eq (N b0 b1 b2 b3 : Nat) (_hN : 1 ≤ N) (_c0 : b0 < 256) (c1 : b1 < 256) (c2 : b2 < 256) (c3 : b3 < 256) : nextN N b0 b1 b2 b3 = (((ptN N b0 b1 b2 b3).1 : Int), ((ptN N b0 b1 b2 b3).2 : Int)) := by
  by_cases h0 : b0 < 128
  · have e : decodeN N b0 b1 b2 b3 = (b0, 1) := by unfold decodeN; rw [if_pos h0]
    unfold nextN ptN
    rw [if_pos (by omega), e, if_neg (by simp; omega)]
    rfl
  by_cases h2 : 192 ≤ b0 ∧ b0 < 224
  · exact nextN_2 N b0 b1 b2 b3 h2 c1
  by_cases h3 : 224 ≤ b0 ∧ b0 < 240
  · exact nextN_3 N b0 b1 b2 b3 h3 c1 c2
  by_cases h4 : 240 ≤ b0 ∧ b0 < 248
  · exact nextN_4 N b0 b1 b2 b3 h4 c1 c2 c3
  · have e : decodeN N b0 b1 b2 b3 = (65533, 1) := by
      unfold decodeN; rw [if_neg h0, if_neg (by omega), if_neg (by omega), if_neg (by omega)]
    unfold nextN ptN
    rw [if_neg (by omega), if_neg (by omega), if_neg (by omega), if_neg (by omega), e, if_pos rfl]
    exact Prod.ext (by simp) rfl
theorem nextN_at (s : ByteArray) (i : Nat) (h : i < s.size) : nextN ((s.size - i : Nat) : Int) (B s i) (B s (i + 1)) (B s (i + 2)) (B s (i + 3)) = (((ptU s i).1 : Int), ((ptU s i).2 : Int)) := by
  rw [ptU_N]; exact nextN_eq _ _ _ _ _ (by omega) (B_lt _ _) (B_lt _ _) (B_lt _ _) (B_lt _ _)

theorem ptU_wide (s : ByteArray) (i : Nat) (h : i < s.size) : 1 ≤ (ptU s i).2 ∧ (ptU s i).2 ≤ 4 ∧ i + (ptU s i).2 ≤ s.size := by
  rcases unit_at s i h with ⟨_, e⟩ | ⟨w, h1, h4, hw, _, e, _⟩
  · unfold ptU; rw [if_pos e]; simp; omega
  · unfold ptU; split
    · simp; omega
    · omega
theorem ptU_wide_eq (s : ByteArray) (i : Nat) : (ptU s i).2 = (Utf8.decode s i).2 := by
  unfold ptU; split
  · rename_i h; rw [h]
  · rfl
end Go.Proofs.YtbnnhbmnddaafaaGreatDoor
