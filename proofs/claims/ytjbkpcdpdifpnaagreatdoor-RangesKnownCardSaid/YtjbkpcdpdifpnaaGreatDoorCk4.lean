/- Parts of the proof of what the last text says. -/
import Derived.WalkKit
import Derived.Test.YtjbkpcdpdifpnaaGreatDoorCk1
import Derived.Laws.OwnMore
import Derived.Test.YtjbkpcdpdifpnaaGreatDoorCk3
import Derived.Laws.Rows
/- Sets as lists of runs: the mathematics, of no program. -/
namespace Go.Kt.Rg

abbrev Run := Int × Int
abbrev allN : Int := 1112192

def inR (x : Run) (n : Int) : Prop := x.1 ≤ n ∧ n < x.2
def inS (l : List Run) (n : Int) : Prop := ∃ x ∈ l, inR x n
def CanonFrom : Int → List Run → Prop
  | _, [] => True
  | lo, x :: t => lo < x.1 ∧ x.1 < x.2 ∧ x.2 ≤ allN ∧ CanonFrom x.2 t
def Canon (l : List Run) : Prop := CanonFrom (-1) l
def Fit (l : List Run) : Prop := ∀ x ∈ l, 0 ≤ x.1 ∧ x.1 < x.2 ∧ x.2 ≤ allN

theorem inS_nil (n : Int) : ¬ inS [] n := by rintro ⟨_, h, _⟩; cases h
theorem inS_cons (x : Run) (t : List Run) (n : Int) : inS (x :: t) n ↔ inR x n ∨ inS t n := by
  constructor
  · rintro ⟨y, hy, h⟩
    rcases List.mem_cons.1 hy with rfl | hy
    · exact .inl h
    · exact .inr ⟨y, hy, h⟩
  · rintro (h | ⟨y, hy, h⟩)
    · exact ⟨x, by simp, h⟩
    · exact ⟨y, by simp [hy], h⟩
theorem inS_append (l m : List Run) (n : Int) : inS (l ++ m) n ↔ inS l n ∨ inS m n := by
  induction l with
  | nil => simp [inS_nil]
  | cons x t ih => rw [List.cons_append, inS_cons, inS_cons, ih]; exact or_assoc.symm
theorem inS_perm {l m : List Run} (h : l.Perm m) (n : Int) : inS l n ↔ inS m n := by
  constructor
  · rintro ⟨y, hy, h'⟩; exact ⟨y, h.mem_iff.1 hy, h'⟩
  · rintro ⟨y, hy, h'⟩; exact ⟨y, h.mem_iff.2 hy, h'⟩
theorem CanonFrom.mono {l : List Run} {a b : Int} (h : CanonFrom a l) (hab : b ≤ a) : CanonFrom b l := by
  cases l with
  | nil => trivial
  | cons x t => exact ⟨by have := h.1; omega, h.2⟩
theorem CanonFrom.above : ∀ {l : List Run} {lo : Int}, CanonFrom lo l → ∀ n, inS l n → lo < n ∧ n < allN
  | [], _, _, n, h => absurd h (inS_nil n)
  | x :: t, lo, h, n, hn => by
    rcases (inS_cons x t n).1 hn with h1 | h1
    · have := h.1; have := h.2.2.1; unfold inR at h1; omega
    · have := CanonFrom.above h.2.2.2 n h1
      have := h.1; have := h.2.1; omega
theorem CanonFrom.fit : ∀ {l : List Run} {lo : Int}, -1 ≤ lo → CanonFrom lo l → Fit l
  | [], _, _, _ => fun _ h => by cases h
  | x :: t, lo, h0, h => fun y hy => by
    rcases List.mem_cons.1 hy with rfl | hy
    · exact ⟨by have := h.1; omega, h.2.1, h.2.2.1⟩
    · exact CanonFrom.fit (by have := h.1; have := h.2.1; omega) h.2.2.2 y hy
theorem Canon.fit {l : List Run} (h : Canon l) : Fit l := CanonFrom.fit (Int.le_refl _) h

theorem canon_ext : ∀ {l m : List Run} {lo : Int}, CanonFrom lo l → CanonFrom lo m → (∀ n, inS l n ↔ inS m n) → l = m
  | [], [], _, _, _, _ => rfl
  | [], y :: u, _, _, hm, h => absurd ((h y.1).2 ((inS_cons y u _).2 (.inl ⟨Int.le_refl _, hm.2.1⟩))) (inS_nil _)
  | x :: t, [], _, hl, _, h => absurd ((h x.1).1 ((inS_cons x t _).2 (.inl ⟨Int.le_refl _, hl.2.1⟩))) (inS_nil _)
  | x :: t, y :: u, lo, hl, hm, h => by
    have key : ∀ {x y : Run} {t u : List Run} {lo : Int}, CanonFrom lo (x :: t) → CanonFrom lo (y :: u) → (∀ n, inS (x :: t) n → inS (y :: u) n) → y.1 ≤ x.1 ∧ (x.1 = y.1 → x.2 ≤ y.2) := by
      intro x y t u lo hx hy h
      refine ⟨?_, fun e => ?_⟩
      · rcases (inS_cons y u _).1 (h x.1 ((inS_cons x t _).2 (.inl ⟨Int.le_refl _, hx.2.1⟩))) with h1 | h1
        · exact h1.1
        · have := CanonFrom.above hy.2.2.2 _ h1; have := hy.2.1; omega
      · rcases Int.lt_or_le y.2 x.2 with h2 | h2
        · rcases (inS_cons y u _).1 (h y.2 ((inS_cons x t _).2 (.inl ⟨by have := hy.2.1; omega, h2⟩))) with h1 | h1
          · have := h1.2; omega
          · have := CanonFrom.above hy.2.2.2 _ h1; omega
        · exact h2
    have k1 := key hl hm (fun n => (h n).1)
    have k2 := key hm hl (fun n => (h n).2)
    have e1 : x.1 = y.1 := by omega
    have e2 : x.2 = y.2 := by have := k1.2 e1; have := k2.2 e1.symm; omega
    have e : x = y := Prod.ext e1 e2
    subst e
    have ht : t = u := canon_ext hl.2.2.2 hm.2.2.2 fun n => by
      constructor
      · intro hn
        rcases (inS_cons x u n).1 ((h n).1 ((inS_cons x t n).2 (.inr hn))) with h1 | h1
        · have := CanonFrom.above hl.2.2.2 n hn; have := h1.2; omega
        · exact h1
      · intro hn
        rcases (inS_cons x t n).1 ((h n).2 ((inS_cons x u n).2 (.inr hn))) with h1 | h1
        · have := CanonFrom.above hm.2.2.2 n hn; have := h1.2; omega
        · exact h1
    rw [ht]
theorem Canon.ext {l m : List Run} (hl : Canon l) (hm : Canon m) (h : ∀ n, inS l n ↔ inS m n) : l = m := canon_ext hl hm h

def meltF : Run → List Run → List Run
  | c, [] => [c]
  | c, x :: t => if x.1 ≤ c.2 then meltF (c.1, max c.2 x.2) t else c :: meltF x t
def melt : List Run → List Run
  | [] => []
  | x :: t => meltF x t
def Rises (l : List Run) : Prop := l.Pairwise fun a b => a.1 ≤ b.1
theorem meltF_in : ∀ (c : Run) (t : List Run) (n : Int), (∀ x ∈ t, c.1 ≤ x.1 ∧ x.1 < x.2) → c.1 < c.2 → Rises t → (inS (meltF c t) n ↔ inR c n ∨ inS t n)
  | c, [], n, _, _, _ => by rw [meltF, inS_cons]
  | c, x :: t, n, h, hc, hr => by
    obtain ⟨h1, h2⟩ := h x (by simp)
    have hr' := List.pairwise_cons.1 hr
    unfold meltF
    split
    · rename_i hx
      rw [meltF_in (c.1, max c.2 x.2) t n (fun y hy => h y (by simp [hy])) (by show c.1 < max c.2 x.2; omega) hr'.2, inS_cons]
      unfold inR
      constructor
      · rintro (h3 | h3)
        · simp only at h3
          by_cases hn : n < c.2
          · exact .inl ⟨h3.1, hn⟩
          · exact .inr (.inl ⟨by omega, by omega⟩)
        · exact .inr (.inr h3)
      · rintro (h3 | h3 | h3)
        · exact .inl ⟨h3.1, by simp only; omega⟩
        · exact .inl ⟨by simp only; omega, by simp only; omega⟩
        · exact .inr h3
    · rw [inS_cons, meltF_in x t n (fun y hy => ⟨hr'.1 y hy, (h y (by simp [hy])).2⟩) h2 hr'.2, inS_cons]
theorem meltF_canon : ∀ (c : Run) (t : List Run) (lo : Int), (∀ x ∈ t, c.1 ≤ x.1 ∧ x.1 < x.2 ∧ x.2 ≤ allN) → lo < c.1 → c.1 < c.2 → c.2 ≤ allN → Rises t → CanonFrom lo (meltF c t)
  | c, [], lo, _, h1, h2, h3, _ => ⟨h1, h2, h3, trivial⟩
  | c, x :: t, lo, h, h1, h2, h3, hr => by
    obtain ⟨k1, k2, k3⟩ := h x (by simp)
    have hr' := List.pairwise_cons.1 hr
    unfold meltF
    split
    · exact meltF_canon (c.1, max c.2 x.2) t lo (fun y hy => h y (by simp [hy])) h1 (by show c.1 < max c.2 x.2; omega) (by show max c.2 x.2 ≤ allN; omega) hr'.2
    · exact ⟨h1, h2, h3, meltF_canon x t c.2 (fun y hy => ⟨hr'.1 y hy, (h y (by simp [hy])).2⟩) (by omega) k2 k3 hr'.2⟩
theorem melt_in (l : List Run) (n : Int) (h : Fit l) (hr : Rises l) : inS (melt l) n ↔ inS l n := by
  cases l with
  | nil => exact Iff.rfl
  | cons x t =>
    have hr' := List.pairwise_cons.1 hr
    rw [melt, meltF_in x t n (fun y hy => ⟨hr'.1 y hy, (h y (by simp [hy])).2.1⟩) (h x (by simp)).2.1 hr'.2, inS_cons]
theorem melt_canon (l : List Run) (h : Fit l) (hr : Rises l) : Canon (melt l) := by
  cases l with
  | nil => trivial
  | cons x t =>
    have hr' := List.pairwise_cons.1 hr
    have hx := h x (by simp)
    exact meltF_canon x t (-1) (fun y hy => ⟨hr'.1 y hy, (h y (by simp [hy])).2⟩) (by omega) hx.2.1 hx.2.2 hr'.2

def commonR (a b : Run) : Run := if min a.2 b.2 ≤ max a.1 b.1 then (0, 0) else (max a.1 b.1, min a.2 b.2)
def oneR (x : Run) : List Run := if x = (0, 0) then [] else [x]
def bothL : List Run → List Run → List Run
  | [], _ => []
  | _ :: _, [] => []
  | a :: s, b :: t => if a.2 < b.2 then oneR (commonR a b) ++ bothL s (b :: t) else oneR (commonR a b) ++ bothL (a :: s) t
termination_by s t => s.length + t.length
theorem bothL_nil_r (s : List Run) : bothL s [] = [] := by cases s <;> simp [bothL]
theorem oneR_in (a b : Run) (ha : 0 ≤ a.1) (hb : 0 ≤ b.1) (n : Int) : inS (oneR (commonR a b)) n ↔ inR a n ∧ inR b n := by
  unfold oneR commonR inR
  by_cases h : min a.2 b.2 ≤ max a.1 b.1
  · rw [if_pos h, if_pos rfl]
    refine ⟨fun h' => absurd h' (inS_nil n), fun h' => ?_⟩
    omega
  · rw [if_neg h, if_neg (by intro e; have := congrArg Prod.snd e; simp only at this; omega), inS_cons]
    simp only [inS_nil, or_false, inR]
    omega
theorem bothL_in (s t : List Run) (p q : Int) (hs : CanonFrom p s) (ht : CanonFrom q t) (hp : -1 ≤ p) (hq : -1 ≤ q) (n : Int) : inS (bothL s t) n ↔ inS s n ∧ inS t n := by
  fun_induction bothL s t generalizing p q with
  | case1 t => simp [inS_nil]
  | case2 a s => simp [inS_nil]
  | case3 a s b t h ih =>
    rw [inS_append, oneR_in a b (by have := hs.1; omega) (by have := ht.1; omega), ih a.2 q hs.2.2.2 ht (by have := hs.1; have := hs.2.1; omega) hq, inS_cons, inS_cons]
    constructor
    · rintro (h1 | h1)
      · exact ⟨.inl h1.1, .inl h1.2⟩
      · exact ⟨.inr h1.1, h1.2⟩
    · rintro ⟨h1 | h1, h2 | h2⟩
      · exact .inl ⟨h1, h2⟩
      · have := CanonFrom.above ht.2.2.2 n h2; have := h1.2; omega
      · exact .inr ⟨h1, .inl h2⟩
      · exact .inr ⟨h1, .inr h2⟩
  | case4 a s b t h ih =>
    rw [inS_append, oneR_in a b (by have := hs.1; omega) (by have := ht.1; omega), ih p b.2 hs ht.2.2.2 hp (by have := ht.1; have := ht.2.1; omega), inS_cons, inS_cons]
    constructor
    · rintro (h1 | h1)
      · exact ⟨.inl h1.1, .inl h1.2⟩
      · exact ⟨h1.1, .inr h1.2⟩
    · rintro ⟨h1 | h1, h2 | h2⟩
      · exact .inl ⟨h1, h2⟩
      · exact .inr ⟨.inl h1, h2⟩
      · have := CanonFrom.above hs.2.2.2 n h1; have := h2.2; omega
      · exact .inr ⟨.inr h1, h2⟩
theorem canon_one (x : Run) (l : List Run) (lo : Int) (h1 : x = (0, 0) ∨ (lo < x.1 ∧ x.1 < x.2 ∧ x.2 ≤ allN)) (h2 : x = (0, 0) → CanonFrom lo l) (h3 : x ≠ (0, 0) → CanonFrom x.2 l) : CanonFrom lo (oneR x ++ l) := by
  unfold oneR
  by_cases h : x = (0, 0)
  · rw [if_pos h]; exact h2 h
  · rw [if_neg h]
    rcases h1 with h1 | h1
    · exact absurd h1 h
    · exact ⟨h1.1, h1.2.1, h1.2.2, h3 h⟩
theorem common_may (p q : Int) (a b : Run) (h1 : p < a.1) (h2 : q < b.1) (h3 : a.2 ≤ allN) : commonR a b = (0, 0) ∨ (max p q < (commonR a b).1 ∧ (commonR a b).1 < (commonR a b).2 ∧ (commonR a b).2 ≤ allN) := by
  unfold commonR
  split
  · exact .inl rfl
  · right; simp only; omega
theorem bothL_canon (s t : List Run) (p q : Int) (hs : CanonFrom p s) (ht : CanonFrom q t) (hp : -1 ≤ p) (hq : -1 ≤ q) : CanonFrom (max p q) (bothL s t) := by
  fun_induction bothL s t generalizing p q with
  | case1 t => trivial
  | case2 a s => trivial
  | case3 a s b t h ih =>
    have h1 := hs.1; have h2 := ht.1; have h3 := hs.2.1
    have hi := ih a.2 q hs.2.2.2 ht (by omega) hq
    refine canon_one _ _ _ (common_may p q a b hs.1 ht.1 hs.2.2.1) (fun _ => hi.mono (by omega)) (fun hn => ?_)
    unfold commonR at hn ⊢
    split
    · rename_i h'; rw [if_pos h'] at hn; exact absurd rfl hn
    · exact hi.mono (by simp only; omega)
  | case4 a s b t h ih =>
    have h1 := hs.1; have h2 := ht.1; have h3 := ht.2.1
    have hi := ih p b.2 hs ht.2.2.2 hp (by omega)
    refine canon_one _ _ _ (common_may p q a b hs.1 ht.1 hs.2.2.1) (fun _ => hi.mono (by omega)) (fun hn => ?_)
    unfold commonR at hn ⊢
    split
    · rename_i h'; rw [if_pos h'] at hn; exact absurd rfl hn
    · exact hi.mono (by simp only; omega)

def notL : Int → List Run → List Run
  | b, [] => if b < allN then [(b, allN)] else []
  | b, x :: t => if b < x.1 then (b, x.1) :: notL x.2 t else notL x.2 t
theorem notL_in : ∀ (b lo : Int) (l : List Run) (n : Int), CanonFrom lo l → lo + 1 = b ∨ lo = b → (inS (notL b l) n ↔ b ≤ n ∧ n < allN ∧ ¬ inS l n)
  | b, lo, [], n, _, _ => by
    unfold notL
    split
    · rw [inS_cons]; simp only [inS_nil, or_false, inR, not_false_eq_true, and_true]
    · simp only [inS_nil, not_false_eq_true, and_true, false_iff]; omega
  | b, lo, x :: t, n, h, hb => by
    have hi := notL_in x.2 x.2 t n h.2.2.2 (.inr rfl)
    have h1 := h.1; have h2 := h.2.1; have h3 := h.2.2.1
    have ha := fun hn => CanonFrom.above h.2.2.2 n hn
    unfold notL
    rw [inS_cons]
    split
    · rw [inS_cons, hi]
      unfold inR
      simp only
      constructor
      · rintro (k | k)
        · exact ⟨k.1, by omega, fun h' => h'.elim (by omega) (fun h' => by have := ha h'; omega)⟩
        · exact ⟨by omega, k.2.1, fun h' => h'.elim (by omega) k.2.2⟩
      · rintro ⟨k1, k2, k3⟩
        by_cases k4 : n < x.1
        · exact .inl ⟨k1, k4⟩
        · exact .inr ⟨by rcases Int.lt_or_le n x.2 with k5 | k5; exact absurd (Or.inl ⟨by omega, k5⟩) k3; exact k5, k2, fun h' => k3 (.inr h')⟩
    · rw [hi]
      unfold inR
      constructor
      · rintro k; exact ⟨by omega, k.2.1, fun h' => h'.elim (by omega) k.2.2⟩
      · rintro ⟨k1, k2, k3⟩
        exact ⟨by rcases Int.lt_or_le n x.2 with k5 | k5; exact absurd (Or.inl ⟨by omega, k5⟩) k3; exact k5, k2, fun h' => k3 (.inr h')⟩
theorem notL_canon : ∀ (b lo : Int) (l : List Run), CanonFrom lo l → lo + 1 = b ∨ lo = b → CanonFrom (b - 1) (notL b l)
  | b, lo, [], _, _ => by
    unfold notL
    split
    · exact ⟨by omega, by assumption, Int.le_refl _, trivial⟩
    · trivial
  | b, lo, x :: t, h, hb => by
    have hi := notL_canon x.2 x.2 t h.2.2.2 (.inr rfl)
    have h1 := h.1; have h2 := h.2.1; have h3 := h.2.2.1
    unfold notL
    split
    · exact ⟨by omega, by assumption, by simp only; omega, hi.mono (by simp only; omega)⟩
    · exact hi.mono (by omega)
theorem not_in (l : List Run) (h : Canon l) (n : Int) : inS (notL 0 l) n ↔ 0 ≤ n ∧ n < allN ∧ ¬ inS l n := notL_in 0 (-1) l n h (.inl (by omega))
theorem not_canon (l : List Run) (h : Canon l) : Canon (notL 0 l) := notL_canon 0 (-1) l h (.inl (by omega))
theorem both_in (s t : List Run) (hs : Canon s) (ht : Canon t) (n : Int) : inS (bothL s t) n ↔ inS s n ∧ inS t n := bothL_in s t _ _ hs ht (Int.le_refl _) (Int.le_refl _) n
theorem both_canon (s t : List Run) (hs : Canon s) (ht : Canon t) : Canon (bothL s t) := (bothL_canon s t _ _ hs ht (Int.le_refl _) (Int.le_refl _)).mono (by omega)
theorem Canon.in_bd {l : List Run} (h : Canon l) {n : Int} (hn : inS l n) : 0 ≤ n ∧ n < allN := by have := CanonFrom.above h n hn; omega

def cntL : List Run → Int
  | [] => 0
  | x :: t => x.2 - x.1 + cntL t
def card (f : Int → Bool) : Nat → Int
  | 0 => 0
  | k + 1 => card f k + if f k then 1 else 0
theorem card_congr {f g : Int → Bool} : ∀ (k : Nat), (∀ n : Int, 0 ≤ n → n < k → f n = g n) → card f k = card g k
  | 0, _ => rfl
  | k + 1, h => by
    show card f k + (if f k then 1 else 0) = card g k + (if g k then 1 else 0)
    rw [card_congr k (fun n h1 h2 => h n h1 (by omega)), h k (by omega) (by omega)]
theorem card_or_and (f g : Int → Bool) : ∀ k : Nat, card (fun n => f n || g n) k + card (fun n => f n && g n) k = card f k + card g k
  | 0 => rfl
  | k + 1 => by
    have := card_or_and f g k
    show card _ k + (if f k || g k then 1 else 0) + (card _ k + (if f k && g k then 1 else 0)) = card f k + (if f k then 1 else 0) + (card g k + (if g k then 1 else 0))
    cases f k <;> cases g k <;> simp <;> omega
theorem card_not (f : Int → Bool) : ∀ k : Nat, card f k + card (fun n => !f n) k = k
  | 0 => rfl
  | k + 1 => by
    have := card_not f k
    show card f k + (if f k then 1 else 0) + (card _ k + (if !f k then 1 else 0)) = ((k + 1 : Nat) : Int)
    cases f k <;> simp <;> omega
theorem card_false : ∀ k : Nat, card (fun _ => false) k = 0
  | 0 => rfl
  | k + 1 => by
    show card _ k + (if false then 1 else 0) = 0
    rw [card_false k]; rfl
theorem card_run (a b : Int) (ha : 0 ≤ a) (hab : a ≤ b) : ∀ k : Nat, card (fun n => decide (a ≤ n ∧ n < b)) k = if (k : Int) ≤ a then 0 else if (k : Int) ≤ b then k - a else b - a
  | 0 => by rw [if_pos (by omega)]; rfl
  | k + 1 => by
    show card _ k + (if decide (a ≤ (k : Int) ∧ (k : Int) < b) then 1 else 0) = _
    rw [card_run a b ha hab k]
    have e : (if decide (a ≤ (k : Int) ∧ (k : Int) < b) then (1 : Int) else 0) = if a ≤ (k : Int) ∧ (k : Int) < b then 1 else 0 := by simp only [decide_eq_true_eq]
    rw [e]
    repeat' split
    all_goals omega
noncomputable def memB (l : List Run) (n : Int) : Bool := @decide (inS l n) (Classical.propDecidable _)
theorem memB_iff (l : List Run) (n : Int) : memB l n = true ↔ inS l n := by unfold memB; exact @decide_eq_true_iff _ (Classical.propDecidable _)
theorem cnt_card : ∀ (l : List Run) (lo : Int) (N : Nat), CanonFrom lo l → -1 ≤ lo → allN ≤ N → cntL l = card (memB l) N
  | [], _, N, _, _, _ => by
    rw [card_congr (g := fun _ => false) N (fun n _ _ => by rw [Bool.eq_false_iff]; intro h; exact inS_nil n ((memB_iff _ _).1 h)), card_false]; rfl
  | x :: t, lo, N, h, h0, hN => by
    have h1 := h.1; have h2 := h.2.1; have h3 := h.2.2.1
    have ih := cnt_card t x.2 N h.2.2.2 (by omega) hN
    have e1 : card (memB (x :: t)) N = card (fun n => decide (x.1 ≤ n ∧ n < x.2) || memB t n) N := card_congr N fun n _ _ => by
      rw [Bool.eq_iff_iff, memB_iff, inS_cons, Bool.or_eq_true, decide_eq_true_iff, memB_iff]; rfl
    have e2 : card (fun n => decide (x.1 ≤ n ∧ n < x.2) && memB t n) N = 0 := by
      rw [← card_false N]
      refine card_congr N fun n _ _ => ?_
      rw [Bool.eq_false_iff]
      intro h'
      rw [Bool.and_eq_true, decide_eq_true_iff, memB_iff] at h'
      have := CanonFrom.above h.2.2.2 n h'.2
      omega
    have e3 := card_or_and (fun n => decide (x.1 ≤ n ∧ n < x.2)) (memB t) N
    have e4 := card_run x.1 x.2 (by omega) (by omega) N
    rw [if_neg (by omega)] at e4
    rw [e2, ← e1, e4, ← ih] at e3
    show x.2 - x.1 + cntL t = _
    split at e3 <;> omega
def allNat : Nat := 1112192
theorem cnt_eq {l : List Run} (h : Canon l) : cntL l = card (memB l) allNat := cnt_card l (-1) allNat h (Int.le_refl _) (by unfold allN allNat; decide)
theorem cnt_not {a : List Run} (ha : Canon a) : cntL a + cntL (notL 0 a) = allN := by
  rw [cnt_eq ha, cnt_eq (not_canon a ha), card_congr (f := memB (notL 0 a)) (g := fun n => !memB a n) allNat (fun n h1 h2 => by
    have h2' : n < allN := by have e : (allNat : Int) = allN := by unfold allNat allN; rfl
                              omega
    rw [Bool.eq_iff_iff, memB_iff, not_in a ha, Bool.not_eq_true', Bool.eq_false_iff, Ne, memB_iff]
    exact ⟨fun h => h.2.2, fun h => ⟨h1, h2', h⟩⟩), card_not]
  rfl
theorem cnt_join {a b j : List Run} (ha : Canon a) (hb : Canon b) (hj : Canon j) (h : ∀ n, inS j n ↔ inS a n ∨ inS b n) : cntL j + cntL (bothL a b) = cntL a + cntL b := by
  rw [cnt_eq ha, cnt_eq hb, cnt_eq hj, cnt_eq (both_canon a b ha hb), ← card_or_and (memB a) (memB b),
    card_congr (f := memB j) (g := fun n => memB a n || memB b n) allNat (fun n _ _ => by rw [Bool.eq_iff_iff, Bool.or_eq_true, memB_iff, memB_iff, memB_iff, h n]),
    card_congr (f := memB (bothL a b)) (g := fun n => memB a n && memB b n) allNat (fun n _ _ => by rw [Bool.eq_iff_iff, Bool.and_eq_true, memB_iff, memB_iff, memB_iff, both_in a b ha hb n])]
theorem cnt_bd : ∀ {l : List Run} {lo : Int}, CanonFrom lo l → -1 ≤ lo → lo < allN → 0 ≤ cntL l ∧ cntL l ≤ allN - lo - 1
  | [], lo, _, _, h1 => ⟨Int.le_refl _, by show (0 : Int) ≤ _; omega⟩
  | x :: t, lo, h, h0, h1 => by
    have k1 := h.1; have k2 := h.2.1; have k3 := h.2.2.1
    show 0 ≤ x.2 - x.1 + cntL t ∧ x.2 - x.1 + cntL t ≤ _
    rcases Int.lt_or_le x.2 allN with h2 | h2
    · have := cnt_bd h.2.2.2 (by omega) h2; omega
    · have : t = [] := by
        cases t with
        | nil => rfl
        | cons y u => have := h.2.2.2.1; have := h.2.2.2.2.1; have := h.2.2.2.2.2.1; omega
      subst this
      show 0 ≤ x.2 - x.1 + 0 ∧ x.2 - x.1 + 0 ≤ _
      omega
theorem canon_len : ∀ {l : List Run} {lo : Int}, CanonFrom lo l → -1 ≤ lo → (l.length : Int) ≤ max 0 (allN - lo - 1)
  | [], lo, _, _ => by simp; omega
  | x :: t, lo, h, h0 => by
    have k1 := h.1; have k2 := h.2.1; have k3 := h.2.2.1
    have := canon_len h.2.2.2 (by omega)
    rw [List.length_cons]; omega

def canonOf (l : List Run) : List Run := melt (l.mergeSort fun x y => decide (x.1 ≤ y.1))
def joinL (a b : List Run) : List Run := canonOf (a ++ b)
def lessL (a b : List Run) : List Run := bothL a (notL 0 b)
theorem sort_rises (l : List Run) : Rises (l.mergeSort fun x y => decide (x.1 ≤ y.1)) := by
  have := List.pairwise_mergeSort (le := fun x y : Run => decide (x.1 ≤ y.1)) (fun a b c h1 h2 => by simp only [decide_eq_true_eq] at *; omega) (fun a b => by simp only [Bool.or_eq_true, decide_eq_true_eq]; omega) l
  exact this.imp fun h => by simpa using h
theorem Fit.perm {l m : List Run} (h : Fit l) (hp : m.Perm l) : Fit m := fun x hx => h x (hp.mem_iff.1 hx)
theorem canonOf_in (l : List Run) (h : Fit l) (n : Int) : inS (canonOf l) n ↔ inS l n :=
  (melt_in _ n (h.perm (List.mergeSort_perm _ _)) (sort_rises l)).trans (inS_perm (List.mergeSort_perm _ _) n)
theorem canonOf_canon (l : List Run) (h : Fit l) : Canon (canonOf l) := melt_canon _ (h.perm (List.mergeSort_perm _ _)) (sort_rises l)
theorem melt_any {l m : List Run} (h : Fit l) (hp : m.Perm l) (hr : Rises m) : melt m = canonOf l :=
  (melt_canon m (h.perm hp) hr).ext (canonOf_canon l h) fun n => by rw [melt_in m n (h.perm hp) hr, canonOf_in l h, inS_perm hp]
theorem Fit.append {l m : List Run} (h : Fit l) (k : Fit m) : Fit (l ++ m) := fun x hx => (List.mem_append.1 hx).elim (h x) (k x)
theorem canonOf_self {l : List Run} (h : Canon l) : canonOf l = l := (canonOf_canon l h.fit).ext h (canonOf_in l h.fit)
theorem join_in {a b : List Run} (ha : Canon a) (hb : Canon b) (n : Int) : inS (joinL a b) n ↔ inS a n ∨ inS b n := by
  rw [joinL, canonOf_in _ (ha.fit.append hb.fit), inS_append]
theorem join_canon {a b : List Run} (ha : Canon a) (hb : Canon b) : Canon (joinL a b) := canonOf_canon _ (ha.fit.append hb.fit)
theorem less_canon {a b : List Run} (ha : Canon a) (hb : Canon b) : Canon (lessL a b) := both_canon a _ ha (not_canon b hb)
theorem less_in {a b : List Run} (ha : Canon a) (hb : Canon b) (n : Int) : inS (lessL a b) n ↔ inS a n ∧ ¬ inS b n := by
  rw [lessL, both_in a _ ha (not_canon b hb), not_in b hb]
  constructor
  · rintro ⟨h1, h2⟩; exact ⟨h1, h2.2.2⟩
  · rintro ⟨h1, h2⟩; exact ⟨h1, (ha.in_bd h1).1, (ha.in_bd h1).2, h2⟩

theorem law1 {a b : List Run} (ha : Canon a) (hb : Canon b) : notL 0 (joinL a b) = bothL (notL 0 a) (notL 0 b) :=
  (not_canon _ (join_canon ha hb)).ext (both_canon _ _ (not_canon a ha) (not_canon b hb)) fun n => by
    rw [not_in _ (join_canon ha hb), join_in ha hb, both_in _ _ (not_canon a ha) (not_canon b hb), not_in a ha, not_in b hb]
    constructor
    · rintro ⟨h1, h2, h3⟩; exact ⟨⟨h1, h2, fun h => h3 (.inl h)⟩, h1, h2, fun h => h3 (.inr h)⟩
    · rintro ⟨⟨h1, h2, h3⟩, _, _, h4⟩; exact ⟨h1, h2, fun h => h.elim h3 h4⟩
theorem law2 {a b : List Run} (ha : Canon a) (hb : Canon b) : notL 0 (bothL a b) = joinL (notL 0 a) (notL 0 b) :=
  (not_canon _ (both_canon a b ha hb)).ext (join_canon (not_canon a ha) (not_canon b hb)) fun n => by
    rw [not_in _ (both_canon a b ha hb), both_in a b ha hb, join_in (not_canon a ha) (not_canon b hb), not_in a ha, not_in b hb]
    constructor
    · rintro ⟨h1, h2, h3⟩
      by_cases h : inS a n
      · exact .inr ⟨h1, h2, fun h' => h3 ⟨h, h'⟩⟩
      · exact .inl ⟨h1, h2, h⟩
    · rintro (⟨h1, h2, h3⟩ | ⟨h1, h2, h3⟩)
      · exact ⟨h1, h2, fun h => h3 h.1⟩
      · exact ⟨h1, h2, fun h => h3 h.2⟩
theorem law3 {a : List Run} (ha : Canon a) : notL 0 (notL 0 a) = a :=
  (not_canon _ (not_canon a ha)).ext ha fun n => by
    rw [not_in _ (not_canon a ha), not_in a ha]
    constructor
    · rintro ⟨h1, h2, h3⟩
      by_cases h : inS a n
      · exact h
      · exact absurd ⟨h1, h2, h⟩ h3
    · intro h; exact ⟨(ha.in_bd h).1, (ha.in_bd h).2, fun h' => h'.2.2 h⟩
theorem law4 {a b c : List Run} (ha : Canon a) (hb : Canon b) (hc : Canon c) : bothL a (joinL b c) = joinL (bothL a b) (bothL a c) :=
  (both_canon a _ ha (join_canon hb hc)).ext (join_canon (both_canon a b ha hb) (both_canon a c ha hc)) fun n => by
    rw [both_in a _ ha (join_canon hb hc), join_in hb hc, join_in (both_canon a b ha hb) (both_canon a c ha hc), both_in a b ha hb, both_in a c ha hc]
    exact and_or_left
theorem law5 {a b : List Run} (ha : Canon a) (hb : Canon b) : joinL (lessL a b) (bothL a b) = a :=
  (join_canon (less_canon ha hb) (both_canon a b ha hb)).ext ha fun n => by
    rw [join_in (less_canon ha hb) (both_canon a b ha hb), less_in ha hb, both_in a b ha hb]
    constructor
    · rintro (h | h) <;> exact h.1
    · intro h
      by_cases k : inS b n
      · exact .inr ⟨h, k⟩
      · exact .inl ⟨h, k⟩
theorem law6 {a b : List Run} (ha : Canon a) (hb : Canon b) : joinL a b = joinL b a :=
  (join_canon ha hb).ext (join_canon hb ha) fun n => by rw [join_in ha hb, join_in hb ha]; exact or_comm
theorem law7 {a b : List Run} (ha : Canon a) (hb : Canon b) : cntL (joinL a b) + cntL (bothL a b) = cntL a + cntL b := cnt_join ha hb (join_canon ha hb) (join_in ha hb)

def numB (r : Int) : Int × Bool :=
  if r < 0 then (0, false) else if r ≤ 55295 then (r, true) else if r < 57344 then (0, false) else if r ≤ 1114111 then (r - 2048, true)
  else if r < 1114240 then (0, false) else if r ≤ 1114367 then (r - 2176, true) else (0, false)
def pntI (n : Int) : Int := if n < 55296 then n else if n < 1112064 then n + 2048 else if n < 1112192 then n + 2176 else 1114367
theorem numB_bd (r : Int) : 0 ≤ (numB r).1 ∧ (numB r).1 < allN := by
  unfold numB allN
  repeat' split
  all_goals simp only
  all_goals omega
theorem pntI_bd {n : Int} (h0 : 0 ≤ n) : 0 ≤ pntI n ∧ pntI n ≤ 1114367 := by
  unfold pntI
  repeat' split
  all_goals omega
theorem num_pnt {n : Int} (h0 : 0 ≤ n) (h1 : n < allN) : numB (pntI n) = (n, true) := by
  unfold numB pntI allN at *
  repeat' split
  all_goals first | omega | (congr 1 <;> omega)
noncomputable def hasB (l : List Run) (r : Int) : Bool := (numB r).2 && memB l (numB r).1
theorem has_not {a : List Run} (ha : Canon a) (r : Int) : ((hasB a r || hasB (notL 0 a) r) = (numB r).2) ∧ (hasB a r && hasB (notL 0 a) r) = false := by
  have hb := numB_bd r
  have e : memB (notL 0 a) (numB r).1 = !memB a (numB r).1 := by
    rw [Bool.eq_iff_iff, memB_iff, not_in a ha, Bool.not_eq_true', Bool.eq_false_iff, Ne, memB_iff]
    exact ⟨fun h => h.2.2, fun h => ⟨hb.1, hb.2, h⟩⟩
  unfold hasB
  rw [e]
  cases (numB r).2 <;> cases memB a (numB r).1 <;> simp
theorem has_both {a b : List Run} (ha : Canon a) (hb : Canon b) (r : Int) : hasB (bothL a b) r = (hasB a r && hasB b r) := by
  have e : memB (bothL a b) (numB r).1 = (memB a (numB r).1 && memB b (numB r).1) := by
    rw [Bool.eq_iff_iff, Bool.and_eq_true, memB_iff, memB_iff, memB_iff, both_in a b ha hb]
  unfold hasB
  rw [e]
  cases (numB r).2 <;> cases memB a (numB r).1 <;> simp

theorem canon_mem : ∀ {l : List Run} {lo : Int}, CanonFrom lo l → ∀ y ∈ l, lo < y.1 ∧ y.1 < y.2 ∧ y.2 ≤ allN
  | [], _, _, _, h => by cases h
  | x :: t, lo, h, y, hy => by
    rcases List.mem_cons.1 hy with rfl | hy
    · exact ⟨h.1, h.2.1, h.2.2.1⟩
    · have := canon_mem h.2.2.2 y hy
      have := h.1; have := h.2.1
      omega
theorem canon_pw : ∀ {l : List Run} {lo : Int}, CanonFrom lo l → l.Pairwise (fun a b => a.2 < b.1)
  | [], _, _ => List.Pairwise.nil
  | _ :: _, _, h => List.pairwise_cons.2 ⟨fun y hy => (canon_mem h.2.2.2 y hy).1, canon_pw h.2.2.2⟩
theorem canon_ix {l : List Run} {lo : Int} (h : CanonFrom lo l) {i j : Nat} {x y : Run} (hij : i < j) (hx : l[i]? = some x) (hy : l[j]? = some y) : x.2 < y.1 := by
  obtain ⟨hi, rfl⟩ := List.getElem?_eq_some_iff.1 hx
  obtain ⟨hj, rfl⟩ := List.getElem?_eq_some_iff.1 hy
  exact List.pairwise_iff_getElem.1 (canon_pw h) i j hi hj hij
def behB (l : List Run) (n : Int) (i : Nat) : Bool := match l[i]? with | some x => decide (n < x.2) | none => true
theorem beh_some {l : List Run} {n : Int} {i : Nat} {x : Run} (h : l[i]? = some x) : behB l n i = decide (n < x.2) := by unfold behB; rw [h]
theorem beh_mono {l : List Run} {lo : Int} (n : Int) (h : CanonFrom lo l) : ∀ a b, a ≤ b → behB l n a = true → behB l n b = true := by
  intro a b hab ha
  cases hb : l[b]? with
  | none => unfold behB; rw [hb]
  | some y =>
    rw [beh_some hb]
    obtain ⟨x, hx⟩ : ∃ x, l[a]? = some x := ⟨_, List.getElem?_eq_getElem (by have := (List.getElem?_eq_some_iff.1 hb).1; omega)⟩
    rw [beh_some hx] at ha
    rcases Nat.lt_or_ge a b with h1 | h1
    · have := canon_ix h h1 hx hb
      have := (canon_mem h y (List.mem_of_getElem? hb)).2.1
      simp at ha ⊢; omega
    · obtain rfl : a = b := by omega
      rw [hx] at hb; cases hb; exact ha
theorem has_at {l : List Run} {lo : Int} (h : CanonFrom lo l) (n : Int) (j : Nat) (h1 : ∀ t, t < j → behB l n t = false) (h2 : ∀ t, j ≤ t → t < l.length → behB l n t = true) : inS l n ↔ ∃ x, l[j]? = some x ∧ x.1 ≤ n := by
  constructor
  · rintro ⟨y, hy, hy1, hy2⟩
    obtain ⟨i, hi⟩ := List.mem_iff_getElem?.1 hy
    have hb := beh_some (n := n) hi
    rw [decide_eq_true hy2] at hb
    rcases Nat.lt_trichotomy i j with hij | hij | hij
    · rw [h1 i hij] at hb; cases hb
    · subst hij; exact ⟨y, hi, hy1⟩
    · obtain ⟨x, hx⟩ : ∃ x, l[j]? = some x := ⟨_, List.getElem?_eq_getElem (by have := (List.getElem?_eq_some_iff.1 hi).1; omega)⟩
      have := canon_ix h hij hx hi
      have h3 := h2 j (Nat.le_refl _) (List.getElem?_eq_some_iff.1 hx).1
      rw [beh_some hx] at h3
      simp at h3; omega
  · rintro ⟨x, hx, h3⟩
    have h4 := h2 j (Nat.le_refl _) (List.getElem?_eq_some_iff.1 hx).1
    rw [beh_some hx] at h4
    exact ⟨x, List.mem_of_getElem? hx, h3, by simpa using h4⟩
end Go.Kt.Rg
/- ranges.wide, number, point. -/
namespace Go.Proofs.YtjbkpcdpdifpnaaGreatDoor
open Go Go.RowKit Go.Kt Go.Kt.Rg

def PTab (w : World) : Prop :=
  w.cell? ⟨0, 0, none⟩ = some (.int .i32 0) ∧ w.cell? ⟨0, 1, none⟩ = some (.int .i32 55295) ∧ w.cell? ⟨0, 2, none⟩ = some (.int .i32 57344) ∧
  w.cell? ⟨0, 3, none⟩ = some (.int .i32 1114111) ∧ w.cell? ⟨0, 4, none⟩ = some (.int .i32 1114240) ∧ w.cell? ⟨0, 5, none⟩ = some (.int .i32 1114367)
theorem PTab.below {w w' : World} (h : PTab w) {n : Nat} (hn : 0 < n) (hb : Below n w w') : PTab w' :=
  ⟨(hb.cell hn).trans h.1, (hb.cell hn).trans h.2.1, (hb.cell hn).trans h.2.2.1, (hb.cell hn).trans h.2.2.2.1, (hb.cell hn).trans h.2.2.2.2.1, (hb.cell hn).trans h.2.2.2.2.2⟩
theorem PTab.lt {w : World} (h : PTab w) : 0 < w.heap.size := lt_of_cell h.1
theorem PTab.next {w w' : World} (h : PTab w) (hb : Below w.heap.size w w') : PTab w' := h.below h.lt hb

set_option maxRecDepth 100000 in
theorem rwide_any (lo hi : Int) (w : World) (h0 : 0 ≤ lo) (h1 : lo ≤ hi) (h2 : hi ≤ 1114367) :
    Calls Tryz.prog 95 #[.agg #[.int .i32 lo, .int .i32 hi]] w fun e w' => e = .returned (.int .i64 (hi - lo + 1)) ∧ Below w.heap.size w w' := by
  go_enter Tryz.func95, Tryz.ntmps95
  go_wp2
  go_ret
  exact ⟨rfl, (Below.refl _ _).alloc (Nat.le_refl _) _⟩

abbrev partsA : Value := .agg #[.int .i32 0, .int .i32 55295, .int .i32 57344, .int .i32 1114111, .int .i32 1114240, .int .i32 1114367]
theorem parts_ix0 : ∀ w : World, (Instr.index 157 (.agg #[.int .i32 0, .int .i32 55295, .int .i32 57344, .int .i32 1114111, .int .i32 1114240, .int .i32 1114367]) (.int .i64 0)).run Tryz.prog w = .ok (.agg #[.int .i32 0, .int .i32 55295]) w := fun _ => by kernel_rfl
theorem parts_ix1 : ∀ w : World, (Instr.index 157 (.agg #[.int .i32 0, .int .i32 55295, .int .i32 57344, .int .i32 1114111, .int .i32 1114240, .int .i32 1114367]) (.int .i64 1)).run Tryz.prog w = .ok (.agg #[.int .i32 57344, .int .i32 1114111]) w := fun _ => by kernel_rfl
theorem parts_ix2 : ∀ w : World, (Instr.index 157 (.agg #[.int .i32 0, .int .i32 55295, .int .i32 57344, .int .i32 1114111, .int .i32 1114240, .int .i32 1114367]) (.int .i64 2)).run Tryz.prog w = .ok (.agg #[.int .i32 1114240, .int .i32 1114367]) w := fun _ => by kernel_rfl

set_option maxRecDepth 100000 in
set_option maxHeartbeats 1000000 in
theorem rnumber_any (r : Int) (w : World) (hT : PTab w) (hr : -2147483648 ≤ r ∧ r ≤ 2147483647) :
    Calls Tryz.prog 41 #[.int .i32 r] w fun e w' => e = .returned (.tuple #[.int .i64 (numB r).1, .bool (numB r).2]) ∧ Below w.heap.size w w' := by
  obtain ⟨R, hR⟩ : ∃ R, numB r = R := ⟨_, rfl⟩
  rw [hR]
  have HR := Lib.hid hR
  obtain ⟨q0, q1, q2, q3, q4, q5⟩ := hT
  have i0 := parts_ix0
  have i1 := parts_ix1
  have i2 := parts_ix2
  have C1 := Lib.hid (fun W => rwide_any 0 55295 W (by omega) (by omega) (by omega))
  have C2 := Lib.hid (fun W => rwide_any 57344 1114111 W (by omega) (by omega) (by omega))
  have C3 := Lib.hid (fun W => rwide_any 1114240 1114367 W (by omega) (by omega) (by omega))
  clear hR
  go_enter Tryz.func41, Tryz.ntmps41
  go_wp2
  go_loopw [4, 8] (fun a x wr => ∃ k : Nat, x = .int .i64 k ∧ Below w.heap.size w wr ∧ ((k = 0 ∧ a = .int .i64 0) ∨ (k = 1 ∧ a = .int .i64 55296 ∧ 55295 < r) ∨ (k = 2 ∧ a = .int .i64 1112064 ∧ 1114111 < r) ∨ (k = 3 ∧ a = .int .i64 1112192 ∧ 1114367 < r))) (fun _ x _ => 3 - (RowKit.intOf x).toNat)
  case atStart => exact ⟨0, rfl, Below.refl _ _, .inl ⟨rfl, rfl⟩⟩
  case round =>
    obtain ⟨k, rfl, hb, hk⟩ := hrel
    have HB := Lib.hid hb
    clear hb
    have hz := HB.out.size
    have fin : ∀ (x : Int) (b : Bool) (W : World), Below w.heap.size wr W → (numB r = (x, b)) → Ending.returned (.tuple #[.int .i64 x, .bool b]) = Ending.returned (.tuple #[.int .i64 R.1, .bool R.2]) ∧ Below w.heap.size w W := fun x b W h e => by
      rw [HR.out] at e; subst e; exact ⟨rfl, HB.out.trans h⟩
    have FIN := Lib.hid fin
    have AL := Lib.hid (fun o => (Below.refl w.heap.size wr).alloc hz o)
    have hzo : ∀ o : Obj, w.heap.size ≤ (wr.alloc o).heap.size := fun o => by simp; omega
    have STEP := Lib.hid (fun (o : Obj) (W : World) (h : Below (wr.alloc o).heap.size (wr.alloc o) W) => HB.out.trans ((AL.out o).trans (h.mono (hzo o))))
    clear fin hz hzo
    rcases hk with ⟨rfl, rfl⟩ | ⟨rfl, rfl, hk⟩ | ⟨rfl, rfl, hk⟩ | ⟨rfl, rfl, hk⟩
    · by_cases h1 : r < 0
      · go_wp2
        go_ret2
        exact FIN.out 0 false _ (AL.out _) (by unfold numB; repeat' split
                                               all_goals first | omega | rfl)
      · by_cases h2 : r ≤ 55295
        · go_wp2
          go_ret2
          refine FIN.out _ true _ (AL.out _) ?_
          unfold numB
          repeat' split
          all_goals first | omega | (congr 1 <;> omega)
        · go_wp2_with fail
          refine (C1.out _).mono ?_
          rintro e w1 ⟨rfl, hb1⟩
          have HB1 := Lib.hid (STEP.out _ _ hb1)
          clear hb1
          go_wp2
          go_roundw
          case rel => exact ⟨1, by go_num, HB1.out, .inr (.inl ⟨rfl, by go_num, by omega⟩)⟩
          case measure => simp [RowKit.intOf]
    · by_cases h1 : r < 57344
      · go_wp2
        go_ret2
        exact FIN.out 0 false _ (AL.out _) (by unfold numB; repeat' split
                                               all_goals first | omega | rfl)
      · by_cases h2 : r ≤ 1114111
        · go_wp2
          go_ret2
          refine FIN.out _ true _ (AL.out _) ?_
          unfold numB
          repeat' split
          all_goals first | omega | (congr 1 <;> omega)
        · go_wp2_with fail
          refine (C2.out _).mono ?_
          rintro e w1 ⟨rfl, hb1⟩
          have HB1 := Lib.hid (STEP.out _ _ hb1)
          clear hb1
          go_wp2
          go_roundw
          case rel => exact ⟨2, by go_num, HB1.out, .inr (.inr (.inl ⟨rfl, by go_num, by omega⟩))⟩
          case measure => simp [RowKit.intOf]
    · by_cases h1 : r < 1114240
      · go_wp2
        go_ret2
        exact FIN.out 0 false _ (AL.out _) (by unfold numB; repeat' split
                                               all_goals first | omega | rfl)
      · by_cases h2 : r ≤ 1114367
        · go_wp2
          go_ret2
          refine FIN.out _ true _ (AL.out _) ?_
          unfold numB
          repeat' split
          all_goals first | omega | (congr 1 <;> omega)
        · go_wp2_with fail
          refine (C3.out _).mono ?_
          rintro e w1 ⟨rfl, hb1⟩
          have HB1 := Lib.hid (STEP.out _ _ hb1)
          clear hb1
          go_wp2
          go_roundw
          case rel => exact ⟨3, by go_num, HB1.out, .inr (.inr (.inr ⟨rfl, by go_num, by omega⟩))⟩
          case measure => simp [RowKit.intOf]
    · go_wp2
      go_ret2
      exact FIN.out 0 false _ (Below.refl _ _) (by unfold numB; repeat' split
                                                   all_goals first | omega | rfl)

set_option maxRecDepth 100000 in
set_option maxHeartbeats 1000000 in
theorem rpoint_any (n : Int) (w : World) (hT : PTab w) (hn : 0 ≤ n ∧ n < 1112192) :
    Calls Tryz.prog 89 #[.int .i64 n] w fun e w' => e = .returned (.int .i32 (pntI n)) ∧ Below w.heap.size w w' := by
  obtain ⟨R, hR⟩ : ∃ R, pntI n = R := ⟨_, rfl⟩
  rw [hR]
  have HR := Lib.hid hR
  obtain ⟨q0, q1, q2, q3, q4, q5⟩ := hT
  have i0 := parts_ix0
  have i1 := parts_ix1
  have i2 := parts_ix2
  have C1 := Lib.hid (fun W => rwide_any 0 55295 W (by omega) (by omega) (by omega))
  have C2 := Lib.hid (fun W => rwide_any 57344 1114111 W (by omega) (by omega) (by omega))
  have C3 := Lib.hid (fun W => rwide_any 1114240 1114367 W (by omega) (by omega) (by omega))
  clear hR
  go_enter Tryz.func89, Tryz.ntmps89
  go_wp2
  go_loopw [0, 6] (fun a x wr => ∃ k : Nat, x = .int .i64 k ∧ Below w.heap.size w wr ∧ ((k = 0 ∧ a = .int .i64 n) ∨ (k = 1 ∧ a = .int .i64 (n - 55296) ∧ 55296 ≤ n) ∨ (k = 2 ∧ a = .int .i64 (n - 1112064) ∧ 1112064 ≤ n))) (fun _ x _ => 3 - (RowKit.intOf x).toNat)
  case atStart => exact ⟨0, rfl, Below.refl _ _, .inl ⟨rfl, rfl⟩⟩
  case round =>
    obtain ⟨k, rfl, hb, hk⟩ := hrel
    have HB := Lib.hid hb
    clear hb
    have hz := HB.out.size
    have fin : ∀ (x : Int) (W : World), Below w.heap.size w W → pntI n = x → Ending.returned (.int .i32 x) = Ending.returned (.int .i32 R) ∧ Below w.heap.size w W := fun x W h e => by
      rw [HR.out] at e; subst e; exact ⟨rfl, h⟩
    have FIN := Lib.hid fin
    have AL := Lib.hid (fun o => (Below.refl w.heap.size wr).alloc hz o)
    have hzo : ∀ o : Obj, w.heap.size ≤ (wr.alloc o).heap.size := fun o => by simp; omega
    have STEP := Lib.hid (fun (o : Obj) (W : World) (h : Below (wr.alloc o).heap.size (wr.alloc o) W) => HB.out.trans ((AL.out o).trans (h.mono (hzo o))))
    clear fin hz hzo
    rcases hk with ⟨rfl, rfl⟩ | ⟨rfl, rfl, hk⟩ | ⟨rfl, rfl, hk⟩
    · go_wp2_with fail
      refine (C1.out _).mono ?_
      rintro e w1 ⟨rfl, hb1⟩
      have k1 := (hb1.cell (by simp)).trans (Lib.cell_of_heap (World.alloc_heap_new wr (.cells #[.int .i32 0, .int .i32 55295] 27)) 0)
      have k2 := (hb1.cell (by simp)).trans (Lib.cell_of_heap (World.alloc_heap_new wr (.cells #[.int .i32 0, .int .i32 55295] 27)) 1)
      have hb2 := STEP.out _ _ hb1
      simp at k1 k2
      have HB2 := Lib.hid hb2
      have hz2 := hb1.size
      clear hb1 hb2
      by_cases h1 : n < 55296
      · go_wp2
        go_ret
        refine FIN.out _ _ HB2.out ?_
        unfold pntI
        repeat' split
        all_goals omega
      · go_wp2_with fail
        refine (C1.out _).mono ?_
        rintro e w2 ⟨rfl, hb3⟩
        have HB3 := Lib.hid (HB2.out.trans (hb3.mono HB2.out.size))
        clear hb3 k1 k2
        go_wp2
        go_roundw
        case rel => exact ⟨1, by go_num, HB3.out, .inr (.inl ⟨rfl, by go_num, by omega⟩)⟩
        case measure => simp [RowKit.intOf]
    · go_wp2_with fail
      refine (C2.out _).mono ?_
      rintro e w1 ⟨rfl, hb1⟩
      have k1 := (hb1.cell (by simp)).trans (Lib.cell_of_heap (World.alloc_heap_new wr (.cells #[.int .i32 57344, .int .i32 1114111] 27)) 0)
      have k2 := (hb1.cell (by simp)).trans (Lib.cell_of_heap (World.alloc_heap_new wr (.cells #[.int .i32 57344, .int .i32 1114111] 27)) 1)
      have hb2 := STEP.out _ _ hb1
      simp at k1 k2
      have HB2 := Lib.hid hb2
      have hz2 := hb1.size
      clear hb1 hb2
      by_cases h1 : n < 1112064
      · go_wp2
        go_ret
        refine FIN.out _ _ HB2.out ?_
        unfold pntI
        repeat' split
        all_goals omega
      · go_wp2_with fail
        refine (C2.out _).mono ?_
        rintro e w2 ⟨rfl, hb3⟩
        have HB3 := Lib.hid (HB2.out.trans (hb3.mono HB2.out.size))
        clear hb3 k1 k2
        go_wp2
        go_roundw
        case rel => exact ⟨2, by go_num, HB3.out, .inr (.inr ⟨rfl, by go_num, by omega⟩)⟩
        case measure => simp [RowKit.intOf]
    · go_wp2_with fail
      refine (C3.out _).mono ?_
      rintro e w1 ⟨rfl, hb1⟩
      have k1 := (hb1.cell (by simp)).trans (Lib.cell_of_heap (World.alloc_heap_new wr (.cells #[.int .i32 1114240, .int .i32 1114367] 27)) 0)
      have k2 := (hb1.cell (by simp)).trans (Lib.cell_of_heap (World.alloc_heap_new wr (.cells #[.int .i32 1114240, .int .i32 1114367] 27)) 1)
      have hb2 := STEP.out _ _ hb1
      simp at k1 k2
      have HB2 := Lib.hid hb2
      have hz2 := hb1.size
      clear hb1 hb2
      by_cases h1 : n < 1112192
      · go_wp2
        go_ret
        refine FIN.out _ _ HB2.out ?_
        unfold pntI
        repeat' split
        all_goals omega
      · omega
end Go.Proofs.YtjbkpcdpdifpnaaGreatDoor
/- What is the same of any program: more on rows of one's own, and on worlds that keep their blocks. -/
namespace Go.Kt
open Go Go.RowKit

theorem Keep.plus {X Z : Nat → Prop} {A B C : World} (h : Keep X A B) (k : Keep Z B C) (hz : ∀ b, b < A.heap.size → Z b → X b) : Keep X A C :=
  ⟨k.os.trans h.os, k.tape.trans h.tape, k.output.trans h.output, Nat.le_trans h.size k.size, fun b hb hX => (k.same b (Nat.lt_of_lt_of_le hb h.size) (fun e => hX (hz b hb e))).trans (h.same b hb hX)⟩

theorem OwnS.shape {Y : Nat → Prop} {e : TypeId} {size n : Nat} {v : Value} {xs : List Value} {W : World} (h : OwnS Y e size v n xs W) :
    (v = .slice none 0 0 ∧ n = 0) ∨ ∃ g cap, v = .slice (some ⟨g, 0, none⟩) n cap ∧ Y g ∧ g < W.heap.size := by
  rcases h.1.2 with h1 | ⟨g, cap, cur, rfl, _, hg, _⟩
  · exact .inl h1
  · exact .inr ⟨g, cap, rfl, h.2 g rfl, (Array.getElem?_eq_some_iff.1 hg).1⟩
theorem OwnS.at0 {Y : Nat → Prop} {e : TypeId} {n g cap : Nat} {xs : List Value} {W : World} (h : OwnS Y e 1 (.slice (some ⟨g, 0, none⟩) n cap) n xs W) {i : Nat} {u : Value} (hi : xs[i]? = some u) : W.cell? ⟨g, i, none⟩ = some u := by
  have := h.1.cells (g := g) rfl i u hi
  rwa [Addr.add_lit, Nat.zero_add] at this
theorem OwnS.frozen {Y : Nat → Prop} {e : TypeId} {n g cap : Nat} {xs : List Value} {W : World} (h : OwnS Y e 1 (.slice (some ⟨g, 0, none⟩) n cap) n xs W) (i : Nat) : W.frozen? ⟨g, i, none⟩ = false := by
  rcases h.1.2 with ⟨h1, _⟩ | ⟨g', cap', cur, h1, _, hg, _⟩
  · cases h1
  · injection h1 with e1 _ _
    injection e1 with e1
    injection e1 with e1
    subst e1
    exact Lib.frozen_of_heap hg i

theorem OwnS.self {Y : Nat → Prop} {e : TypeId} {size n : Nat} {v : Value} {xs : List Value} {A : World} (h : OwnS Y e size v n xs A) : OwnS (fun b => v.ownBlock = some b) e size v n xs A := ⟨h.1, fun _ hg => hg⟩
theorem OwnS.keepX {X Y : Nat → Prop} {e : TypeId} {size n : Nat} {v : Value} {xs : List Value} {A B : World} (h : OwnS Y e size v n xs A) (hk : Keep X A B) (hX : ∀ b, X b → v.ownBlock ≠ some b) : OwnS Y e size v n xs B :=
  ⟨(h.self.keep hk (fun b hb hy => hX b hb hy)).1, h.2⟩

end Go.Kt
/- Sets in memory; common, Count, Has. -/
namespace Go.Proofs.YtjbkpcdpdifpnaaGreatDoor
open Go Go.RowKit Go.Kt Go.Kt.Rg Go.Kt.Bits

def encR (l : List Run) : List Value := l.flatMap fun x => [.int .i64 x.1, .int .i64 x.2]
def SlR (W : World) (v : Value) (l : List Run) : Prop :=
  ∃ ao cap, v = .slice ao l.length cap ∧ (l = [] ∨ ∃ g, ao = some ⟨g, 0, none⟩ ∧ ∀ (i : Nat) (x : Run), l[i]? = some x → W.cell? ⟨g, i * 2, none⟩ = some (.int .i64 x.1) ∧ W.cell? ⟨g, i * 2 + 1, none⟩ = some (.int .i64 x.2))
theorem SlR.below {A B : World} {v : Value} {l : List Run} (h : SlR A v l) (hb : Below A.heap.size A B) : SlR B v l := by
  obtain ⟨ao, cap, rfl, h⟩ := h
  refine ⟨ao, cap, rfl, ?_⟩
  rcases h with h | ⟨g, rfl, h⟩
  · exact .inl h
  · exact .inr ⟨g, rfl, fun i x hx => ⟨(hb.cell (lt_of_cell (h i x hx).1)).trans (h i x hx).1, (hb.cell (lt_of_cell (h i x hx).2)).trans (h i x hx).2⟩⟩
def SetAt (l : List Run) (b : Nat) (W : World) : Prop := ∃ v, W.cell? ⟨b, 0, none⟩ = some v ∧ SlR W v l
theorem SetAt.below {A B : World} {b : Nat} {l : List Run} (h : SetAt l b A) (hb : Below A.heap.size A B) : SetAt l b B := by
  obtain ⟨v, h1, h2⟩ := h
  exact ⟨v, (hb.cell (lt_of_cell h1)).trans h1, h2.below hb⟩
abbrev ptrV (b : Nat) : Value := .pointer (some ⟨b, 0, none⟩)

set_option maxRecDepth 100000 in
theorem rcommon_any (a b : Run) (w : World) (ha : 0 ≤ a.1 ∧ a.1 < a.2 ∧ a.2 ≤ allN) (hb : 0 ≤ b.1 ∧ b.1 < b.2 ∧ b.2 ≤ allN) :
    Calls Tryz.prog 92 #[.agg #[.int .i64 a.1, .int .i64 a.2], .agg #[.int .i64 b.1, .int .i64 b.2]] w fun e w' => e = .returned (.agg #[.int .i64 (commonR a b).1, .int .i64 (commonR a b).2]) ∧ Below w.heap.size w w' := by
  obtain ⟨R, hR⟩ : ∃ R, commonR a b = R := ⟨_, rfl⟩
  rw [hR]
  have HR := Lib.hid hR
  clear hR
  obtain ⟨a1, a2⟩ := a
  obtain ⟨b1, b2⟩ := b
  simp only at ha hb ⊢
  go_enter Tryz.func92, Tryz.ntmps92
  go_wp2
  · rename_i hlt
    (try simp only [Exit.inBlock, Exit.then])
    refine bodyPost_ret (results_cell_row rfl _ _ (w.heap.size + 1 + 1) 98 _ (0, 0) _ rfl (alloc_old (alloc_at (by simp))) Tryz.underlying98 rfl (by kernel_rfl)) rfl ?_
    refine ⟨?_, ((((Below.refl _ _).alloc (Nat.le_refl _) _).alloc (by simp) _).alloc (by simp; omega) _).alloc (by simp; omega) _⟩
    have := HR.out
    unfold commonR at this
    rw [if_pos (by simp only; omega)] at this
    subst this; rfl
  · rename_i hlt
    (try simp only [Exit.inBlock, Exit.then])
    refine bodyPost_ret (results_cell_row rfl _ _ (w.heap.size + 1 + 1) 98 _ (0, 0) _ rfl (alloc_old (alloc_at (by simp))) Tryz.underlying98 rfl (by kernel_rfl)) rfl ?_
    refine ⟨?_, ((((Below.refl _ _).alloc (Nat.le_refl _) _).alloc (by simp) _).alloc (by simp; omega) _).alloc (by simp; omega) _⟩
    have := HR.out
    unfold commonR at this
    rw [if_neg (by simp only; omega)] at this
    subst this; rfl

theorem cnt_take (l : List Run) (k : Nat) (x : Run) (h : l[k]? = some x) : cntL (l.take (k + 1)) = cntL (l.take k) + (x.2 - x.1) := by
  induction l generalizing k with
  | nil => simp at h
  | cons y t ih =>
    cases k with
    | zero => simp at h; subst h; simp [cntL]
    | succ k =>
      simp at h
      have := ih k h
      simp only [List.take_succ_cons, cntL]
      omega
theorem CanonFrom.take : ∀ {l : List Run} {lo : Int} (k : Nat), CanonFrom lo l → CanonFrom lo (l.take k)
  | [], _, k, h => by simp; exact h
  | x :: t, lo, 0, _ => trivial
  | x :: t, lo, k + 1, h => ⟨h.1, h.2.1, h.2.2.1, CanonFrom.take k h.2.2.2⟩

set_option maxRecDepth 100000 in
theorem rcount_any (l : List Run) (b : Nat) (w : World) (h : SetAt l b w) (hc : Canon l) :
    Calls Tryz.prog 29 #[ptrV b] w fun e w' => e = .returned (.int .i64 (cntL l)) ∧ Below w.heap.size w w' := by
  obtain ⟨v, h1, ao, cap, rfl, h2⟩ := h
  have hlen := canon_len hc (Int.le_refl _)
  have hl : l.length ≤ 1112192 := by unfold allN at hlen; omega
  have H2 := Lib.hid h2
  have HC := Lib.hid hc
  clear h2 hc hlen
  go_enter Tryz.func29, Tryz.ntmps29
  go_wp2
  obtain ⟨n, hn⟩ : ∃ n, l.length = n := ⟨_, rfl⟩
  have HN := Lib.hid hn
  rw [hn] at hl ⊢
  clear hn
  go_loopw [3, 11] (fun a x wr => ∃ k : Nat, x = .int .i64 k ∧ k ≤ n ∧ a = .int .i64 (cntL (l.take k)) ∧ Below w.heap.size w wr) (fun _ x _ => n - (RowKit.intOf x).toNat)
  case atStart => exact ⟨0, rfl, by omega, rfl, Below.refl _ _⟩
  case round =>
    obtain ⟨k, rfl, hk, rfl, hb⟩ := hrel
    have HB := Lib.hid hb
    clear hb
    by_cases hlt : k < n
    · have hlt' : (k : Int) < n := by omega
      obtain ⟨x, hx⟩ : ∃ x, l[k]? = some x := ⟨_, List.getElem?_eq_getElem (by rw [HN.out]; exact hlt)⟩
      obtain ⟨g, rfl, r1, r2⟩ : ∃ g, ao = some ⟨g, 0, none⟩ ∧ wr.cell? ⟨g, k * 2, none⟩ = some (.int .i64 x.1) ∧ wr.cell? ⟨g, k * 2 + 1, none⟩ = some (.int .i64 x.2) := by
        rcases H2.out with h | ⟨g, e, h⟩
        · subst h; simp at hx
        · exact ⟨g, e, (HB.out.cell (lt_of_cell (h k x hx).1)).trans (h k x hx).1, (HB.out.cell (lt_of_cell (h k x hx).2)).trans (h k x hx).2⟩
      have hf := Canon.fit HC.out x (List.mem_of_getElem? hx)
      have hcb := cnt_bd (CanonFrom.take k HC.out) (Int.le_refl _) (by decide)
      have hcs := Lib.hid (cnt_take l k x hx)
      unfold allN at hf hcb
      obtain ⟨x1, x2⟩ := x
      simp only at hf hcs r1 r2
      clear hx
      generalize cntL (l.take k) = A at *
      go_wp2
      go_roundw
      case rel => exact ⟨k + 1, by go_num, by omega, by rw [hcs.out], HB.out.trans ((Below.refl _ _).alloc HB.out.size _)⟩
      case measure => simp [RowKit.intOf]; omega
    · have hlt' : ¬ (k : Int) < n := by omega
      obtain rfl : k = n := by omega
      have e : l.take k = l := by rw [← HN.out, List.take_length]
      rw [e]
      go_wp2
      go_ret
      exact ⟨rfl, HB.out⟩

set_option maxRecDepth 100000 in
theorem rhasc_any (l : List Run) (b pb nb i : Nat) (n : Int) (W : World) (h : SetAt l b W) (hl : l.length ≤ 9223372036854775807) (hi : i < l.length)
    (c1 : W.cell? ⟨pb, 0, none⟩ = some (ptrV b)) (c2 : W.cell? ⟨nb, 0, none⟩ = some (.int .i64 n)) :
    Calls Tryz.prog 87 #[.int .i64 i, .pointer (some ⟨pb, 0, none⟩), .pointer (some ⟨nb, 0, none⟩)] W fun e w' => e = .returned (.bool (behB l n i)) ∧ ∃ q, w' = W.drewN q := by
  obtain ⟨v, h1, ao, cap, rfl, h2⟩ := h
  obtain ⟨x, hx⟩ : ∃ x, l[i]? = some x := ⟨_, List.getElem?_eq_getElem hi⟩
  obtain ⟨g, rfl, r1, r2⟩ : ∃ g, ao = some ⟨g, 0, none⟩ ∧ W.cell? ⟨g, i * 2, none⟩ = some (.int .i64 x.1) ∧ W.cell? ⟨g, i * 2 + 1, none⟩ = some (.int .i64 x.2) := by
    rcases h2 with h | ⟨g, e, h⟩
    · subst h; simp at hx
    · exact ⟨g, e, (h i x hx).1, (h i x hx).2⟩
  rw [beh_some hx]
  have hi' : (i : Int) < (l.length : Nat) := by omega
  generalize l.length = N at *
  clear hx h2
  go_enter Tryz.func87, Tryz.ntmps87
  go_wp2
  go_quiet (fail)
  go_wp2
  go_ret
  exact ⟨by simp, _, rfl⟩

set_option maxRecDepth 100000 in
set_option maxHeartbeats 1000000 in
theorem rhas_any (l : List Run) (b : Nat) (r : Int) (w : World) (h : SetAt l b w) (hc : Canon l) (hT : PTab w) (hr : -2147483648 ≤ r ∧ r ≤ 2147483647) :
    Calls Tryz.prog 27 #[ptrV b, .int .i32 r] w fun e w' => e = .returned (.bool (hasB l r)) ∧ Below w.heap.size w w' := by
  have hlen := canon_len hc (Int.le_refl _)
  have hl : l.length ≤ 1112192 := by unfold allN at hlen; omega
  have H := Lib.hid h
  have HC := Lib.hid hc
  have CN := Lib.hid (fun W (hT : PTab W) => rnumber_any r W hT hr)
  have HT := Lib.hid hT
  have hnb := numB_bd r
  have HP := Lib.hid (show hasB l r = ((numB r).2 && memB l (numB r).1) from rfl)
  generalize numB r = R at *
  obtain ⟨n, pt⟩ := R
  simp only at hnb HP CN
  clear h hc hT hlen
  go_enter Tryz.func27, Tryz.ntmps27
  go_wp2_with fail
  refine (CN.out _ (HT.out.next ((Below.refl _ _).alloc (Nat.le_refl _) _))).mono ?_
  rintro e w1 ⟨rfl, hb1⟩
  have hb2 : Below w.heap.size w w1 := ((Below.refl _ _).alloc (Nat.le_refl _) _).trans (hb1.mono (by simp))
  have hz1 : w.heap.size < w1.heap.size := by have := hb1.size; simp at this; omega
  have p0 : w1.cell? ⟨w.heap.size, 0, none⟩ = some (ptrV b) := by
    have := (hb1.cell (by simp)).trans (Lib.cell_of_heap (World.alloc_heap_new w (.cells #[ptrV b] 36)) 0)
    simpa using this
  have hS := H.out.below hb2
  have hS0 := Lib.hid hS
  obtain ⟨v, h1, ao, cap, rfl, h2⟩ := hS
  have H2 := Lib.hid h2
  have hltb := lt_of_cell h1
  obtain ⟨m, hm⟩ : ∃ m, w.heap.size = m := ⟨_, rfl⟩
  have HM := Lib.hid hm
  rw [hm] at hb2 hz1 p0 ⊢
  have HB2 := Lib.hid hb2
  clear hb1 hb2 h2 hm
  obtain ⟨V, hV⟩ : ∃ V, w1.alloc (.cells #[.int .i64 n] 3) = V := ⟨_, rfl⟩
  have hbV : Below w1.heap.size w1 V := by rw [← hV]; exact (Below.refl _ _).alloc (Nat.le_refl _) _
  have v1 := (hbV.cell hz1).trans p0
  have v2 : V.cell? ⟨w1.heap.size, 0, none⟩ = some (.int .i64 n) := by rw [← hV, Lib.cell_of_heap (World.alloc_heap_new w1 _)]; rfl
  have v3 := (hbV.cell hltb).trans h1
  have hSV := Lib.hid (hS0.out.below hbV)
  have hbmV := HB2.out.trans (hbV.mono (Nat.le_of_lt hz1))
  have HBV := Lib.hid hbmV
  have HV := Lib.hid hV
  clear hbV hbmV hV
  have SC : Hid (Calls Tryz.prog 86 #[.int .i64 (l.length : Nat), .func (.func 87) #[] #[.pointer (some ⟨m, 0, none⟩), .pointer (some ⟨w1.heap.size, 0, none⟩)]] V fun e w' => e = .returned (.int .i64 (cnt (fun i => !behB l n i) l.length : Nat)) ∧ ∃ k, w' = V.drewN k) :=
    Lib.hid (search_any 87 #[.pointer (some ⟨m, 0, none⟩), .pointer (some ⟨w1.heap.size, 0, none⟩)] l.length (behB l n) V (enters_of Tryz.func87 (by kernel_rfl) rfl) (by omega)
      (fun k i hi => rhasc_any l b m w1.heap.size i n (V.drewN k) (hSV.out.below (below_drewN (Below.refl _ _) _)) (by omega) hi v1 v2) (beh_mono n HC.out))
  have CF := Lib.hid (count_front (behB l n) (beh_mono n HC.out) l.length)
  have hjl := cnt_le (fun i => !behB l n i) l.length
  have HA := Lib.hid (fun j h1 h2 => has_at HC.out n j h1 h2)
  have RC : Hid (∀ (i : Nat) (x : Run), l[i]? = some x → ∃ g, ao = some ⟨g, 0, none⟩ ∧ V.cell? ⟨g, i * 2, none⟩ = some (.int .i64 x.1)) := Lib.hid fun i x hx => by
    obtain ⟨v, h1, ao', cap', rfl, h2⟩ := hSV.out
    obtain e := Option.some.inj (v3.symm.trans h1)
    injection e with e1 _ _
    subst e1
    rcases h2 with h | ⟨g, e, h⟩
    · subst h; simp at hx
    · exact ⟨g, e, (h i x hx).1⟩
  generalize cnt (fun i => !behB l n i) l.length = j at *
  have V1 := Lib.hid (And.intro v1 (And.intro v2 v3))
  clear v1 v2 v3
  go_wp2_with fail
  rw [HV.out]
  refine SC.out.mono ?_
  rintro e w2 ⟨rfl, k, rfl⟩
  obtain ⟨v1, v2, v3⟩ := V1.out
  have HAJ : Hid (inS l n ↔ ∃ x, l[j]? = some x ∧ x.1 ≤ n) := Lib.hid (HA.out j CF.out.1 CF.out.2)
  have fin : ∀ (t : Bool) (W : World), Below w.heap.size V W → t = (pt && memB l n) → Ending.returned (.bool t) = Ending.returned (.bool (hasB l r)) ∧ Below w.heap.size w W := fun t W hb e => by
    have := HBV.out
    rw [← HM.out] at this
    rw [HP.out, e]; exact ⟨rfl, this.trans hb⟩
  have FIN := Lib.hid fin
  clear fin
  have mem0 : Hid (¬ (∃ x, l[j]? = some x ∧ x.1 ≤ n) → memB l n = false) := Lib.hid fun h => by rw [Bool.eq_false_iff]; intro h'; exact h (HAJ.out.1 ((memB_iff _ _).1 h'))
  have mem1 : Hid ((∃ x, l[j]? = some x ∧ x.1 ≤ n) → memB l n = true) := Lib.hid fun h => (memB_iff _ _).2 (HAJ.out.2 h)
  cases pt with
  | false =>
    go_wp2_with fail
    go_quiet (fail)
    go_wp2
    go_ret
    exact FIN.out _ _ (below_drewN (below_drewN (Below.refl _ _) _) _) rfl
  | true =>
    by_cases hj : j < l.length
    · obtain ⟨x, hx⟩ : ∃ x, l[j]? = some x := ⟨_, List.getElem?_eq_getElem hj⟩
      obtain ⟨g, rfl, r1⟩ := RC.out j x hx
      have hj' : (j : Int) < (l.length : Nat) := by omega
      have HX := Lib.hid hx
      clear hx
      by_cases hle : x.1 ≤ n
      · have hd : decide (x.1 ≤ n) = true := decide_eq_true hle
        have hm1 := Lib.hid (mem1.out ⟨x, HX.out, hle⟩)
        generalize l.length = N at *
        go_wp2_with fail
        go_quiet (fail)
        go_wp2
        go_ret
        refine FIN.out _ _ (below_drewN (below_drewN (Below.refl _ _) _) _) ?_
        rw [hm1.out]; simp
      · have hd : decide (x.1 ≤ n) = false := decide_eq_false hle
        have hm1 := Lib.hid (mem0.out (by rintro ⟨y, hy, h⟩; rw [HX.out] at hy; cases hy; exact hle h))
        generalize l.length = N at *
        go_wp2_with fail
        go_quiet (fail)
        go_wp2
        go_ret
        refine FIN.out _ _ (below_drewN (below_drewN (Below.refl _ _) _) _) ?_
        rw [hm1.out]; simp
    · have hj' : ¬ (j : Int) < (l.length : Nat) := by omega
      have hd : decide ((j : Int) < (l.length : Nat)) = false := decide_eq_false hj'
      have hm1 := Lib.hid (mem0.out (by rintro ⟨y, hy, h⟩; exact hj (List.getElem?_eq_some_iff.1 hy).1))
      generalize l.length = N at *
      go_wp2_with fail
      go_quiet (fail)
      go_wp2
      go_ret
      refine FIN.out _ _ (below_drewN (below_drewN (Below.refl _ _) _) _) ?_
      rw [hm1.out]; simp
end Go.Proofs.YtjbkpcdpdifpnaaGreatDoor
