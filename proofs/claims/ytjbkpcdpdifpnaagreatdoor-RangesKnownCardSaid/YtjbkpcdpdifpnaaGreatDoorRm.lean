/- The document's sets, put together at the ends of their rows: the mathematics, of no program. -/
import Derived.Test.YtjbkpcdpdifpnaaGreatDoorCk4
namespace Go.Kt.Rg
open Go

def putL : List Int → Int → List Int
  | [], n => [n]
  | x :: t, n => if x < n then x :: putL t n else if x = n then x :: t else n :: x :: t
theorem putL_mem (m n : Int) : ∀ l : List Int, m ∈ putL l n ↔ m ∈ l ∨ m = n
  | [] => by simp [putL]
  | x :: t => by
    rw [putL]
    split
    · rw [List.mem_cons, putL_mem m n t, List.mem_cons]
      exact or_assoc.symm
    · split
      · rename_i h
        subst h
        constructor
        · exact fun h => .inl h
        · rintro (h | h)
          · exact h
          · rw [h]; exact .head _
      · rw [List.mem_cons]
        constructor <;> (intro h; rcases h with h | h <;> simp [h])
def Up (l : List Int) : Prop := l.Pairwise (· < ·)
theorem putL_up (n : Int) : ∀ l : List Int, Up l → Up (putL l n)
  | [], _ => List.pairwise_singleton _ _
  | x :: t, h => by
    obtain ⟨h1, h2⟩ := List.pairwise_cons.1 h
    rw [putL]
    split
    · rename_i hx
      refine List.pairwise_cons.2 ⟨fun y hy => ?_, putL_up n t h2⟩
      rcases (putL_mem y n t).1 hy with h3 | h3
      · exact h1 y h3
      · rw [h3]; exact hx
    · split
      · exact h
      · rename_i h3 h4
        refine List.pairwise_cons.2 ⟨fun y hy => ?_, h⟩
        rcases List.mem_cons.1 hy with rfl | hy
        · omega
        · have := h1 y hy; omega
def edgL : List Run → List Int → List Int
  | [], es => es
  | x :: t, es => edgL t (putL (putL es x.1) x.2)
theorem edgL_up : ∀ (l : List Run) (es : List Int), Up es → Up (edgL l es)
  | [], _, h => h
  | _x :: t, _es, h => edgL_up t _ (putL_up _ _ (putL_up _ _ h))
theorem edgL_mem (m : Int) : ∀ (l : List Run) (es : List Int), m ∈ edgL l es ↔ m ∈ es ∨ ∃ x ∈ l, m = x.1 ∨ m = x.2
  | [], es => by simp [edgL]
  | x :: t, es => by
    rw [edgL, edgL_mem m t, putL_mem, putL_mem]
    constructor
    · rintro ((( h | h) | h) | ⟨y, hy, h⟩)
      · exact .inl h
      · exact .inr ⟨x, .head _, .inl h⟩
      · exact .inr ⟨x, .head _, .inr h⟩
      · exact .inr ⟨y, .tail _ hy, h⟩
    · rintro (h | ⟨y, hy, h⟩)
      · exact .inl (.inl (.inl h))
      · rcases List.mem_cons.1 hy with rfl | hy
        · rcases h with h | h
          · exact .inl (.inl (.inr h))
          · exact .inl (.inr h)
        · exact .inr ⟨y, hy, h⟩
def addR (out : List Run) (x y : Int) : List Run := match out.getLast? with
  | some r => if r.2 = x then out.dropLast ++ [(r.1, y)] else out ++ [(x, y)]
  | none => [(x, y)]
def mkR (f : Int → Bool) : List Int → List Run → List Run
  | x :: y :: t, out => mkR f (y :: t) (if f x = true then addR out x y else out)
  | _, out => out
def OutTo (out : List Run) (x : Int) : Prop := Canon out ∧ ∀ r ∈ out, r.2 ≤ x
theorem canon_snoc : ∀ {l : List Run} {lo : Int} {r : Run}, CanonFrom lo l → (∀ y ∈ l, y.2 < r.1) → lo < r.1 → r.1 < r.2 → r.2 ≤ allN → CanonFrom lo (l ++ [r])
  | [], _lo, _r, _, _, h1, h2, h3 => ⟨h1, h2, h3, trivial⟩
  | x :: _t, _lo, _r, h, h1, _h2, h3, h4 => ⟨h.1, h.2.1, h.2.2.1, canon_snoc h.2.2.2 (fun y hy => h1 y (.tail _ hy)) (h1 x (.head _)) h3 h4⟩
theorem canon_init : ∀ {l : List Run} {lo : Int} {r : Run}, CanonFrom lo (l ++ [r]) → CanonFrom lo l ∧ (∀ y ∈ l, y.2 < r.1) ∧ lo < r.1 ∧ r.1 < r.2 ∧ r.2 ≤ allN
  | [], lo, r, h => ⟨trivial, (fun y hy => by cases hy), h.1, h.2.1, h.2.2.1⟩
  | x :: t, lo, r, h => by
    obtain ⟨k1, k2, k3, k4, k5⟩ := canon_init (l := t) (lo := x.2) (r := r) h.2.2.2
    have h1 := h.1
    have h2 := h.2.1
    refine ⟨⟨h.1, h.2.1, h.2.2.1, k1⟩, fun y hy => ?_, by omega, k4, k5⟩
    rcases List.mem_cons.1 hy with rfl | hy
    · exact k3
    · exact k2 y hy
theorem addR_to {out : List Run} {x y : Int} (h : OutTo out x) (hx : 0 ≤ x) (hxy : x < y) (hy : y ≤ allN) : OutTo (addR out x y) y ∧ ∀ n, inS (addR out x y) n ↔ inS out n ∨ x ≤ n ∧ n < y := by
  obtain ⟨h1, h2⟩ := h
  unfold addR
  cases hl : out.getLast? with
  | none =>
    have : out = [] := List.getLast?_eq_none_iff.1 hl
    subst this
    refine ⟨⟨⟨by omega, hxy, hy, trivial⟩, fun r hr => ?_⟩, fun n => ?_⟩
    · rw [List.mem_singleton] at hr
      subst hr
      exact Int.le_refl _
    · rw [inS_cons]
      constructor
      · rintro (h | h)
        · exact .inr h
        · exact .inl h
      · rintro (h | h)
        · exact .inr h
        · exact .inl h
  | some r =>
    obtain ⟨l, rfl⟩ := List.getLast?_eq_some_iff.1 hl
    obtain ⟨k1, k2, k3, k4, k5⟩ := canon_init h1
    simp only
    by_cases he : r.2 = x
    · rw [if_pos he, List.dropLast_concat]
      refine ⟨⟨canon_snoc k1 k2 k3 (by simp only; omega) hy, fun r2 hr => ?_⟩, fun n => ?_⟩
      · rcases List.mem_append.1 hr with hr | hr
        · have h3 := k2 r2 hr
          have h4 := h2 r (List.mem_append_right _ (.head _))
          omega
        · rw [List.mem_singleton] at hr
          subst hr
          exact Int.le_refl _
      · rw [inS_append, inS_append, inS_cons, inS_cons]
        simp only [inS_nil, or_false, inR]
        constructor
        · rintro (h | h)
          · exact .inl (.inl h)
          · by_cases hn : n < x
            · exact .inl (.inr ⟨h.1, by omega⟩)
            · exact .inr ⟨by omega, h.2⟩
        · rintro ((h | h) | h)
          · exact .inl h
          · exact .inr ⟨h.1, by omega⟩
          · exact .inr ⟨by omega, h.2⟩
    · rw [if_neg he]
      have hrx := h2 r (List.mem_append_right _ (.head _))
      refine ⟨⟨canon_snoc h1 (fun y2 hy2 => ?_) (by omega) hxy hy, fun r2 hr => ?_⟩, fun n => ?_⟩
      · rcases List.mem_append.1 hy2 with hy2 | hy2
        · have := k2 y2 hy2
          omega
        · rw [List.mem_singleton] at hy2
          subst hy2
          simp only
          omega
      · rcases List.mem_append.1 hr with hr | hr
        · have := h2 r2 hr
          omega
        · rw [List.mem_singleton] at hr
          subst hr
          exact Int.le_refl _
      · rw [inS_append (l ++ [r])]
        rw [inS_cons]
        simp only [inS_nil, or_false, inR]
theorem mkR_to (f : Int → Bool) : ∀ (es : List Int) (out : List Run) (x : Int), es.head? = some x → Up es → (∀ e ∈ es, 0 ≤ e ∧ e ≤ allN) → OutTo out x →
    Canon (mkR f es out) ∧ ∀ n, inS (mkR f es out) n ↔ inS out n ∨ ∃ (i : Nat) (a b : Int), es[i]? = some a ∧ es[i + 1]? = some b ∧ f a = true ∧ a ≤ n ∧ n < b
  | [], out, x, h, _, _, _ => by cases h
  | [a], out, x, h, hu, hb, ho => by
    refine ⟨ho.1, fun n => ⟨fun h => .inl h, ?_⟩⟩
    rintro (h | ⟨i, a2, b2, h1, h2, _⟩)
    · exact h
    · simp at h2
  | a :: b :: t, out, x, h, hu, hb, ho => by
    have hax : a = x := by simpa using h
    subst hax
    obtain ⟨u1, u2⟩ := List.pairwise_cons.1 hu
    have hab := u1 b (.head _)
    have ba := hb a (.head _)
    have bb := hb b (.tail _ (.head _))
    rw [mkR]
    by_cases hf : f a = true
    · rw [if_pos hf]
      obtain ⟨k1, k2⟩ := addR_to ho ba.1 hab bb.2
      obtain ⟨m1, m2⟩ := mkR_to f (b :: t) (addR out a b) b rfl u2 (fun e he => hb e (.tail _ he)) k1
      refine ⟨m1, fun n => ?_⟩
      rw [m2, k2]
      constructor
      · rintro ((h | h) | ⟨i, a2, b2, h1, h2, h3⟩)
        · exact .inl h
        · exact .inr ⟨0, a, b, rfl, rfl, hf, h⟩
        · exact .inr ⟨i + 1, a2, b2, h1, h2, h3⟩
      · rintro (h | ⟨i, a2, b2, h1, h2, h3⟩)
        · exact .inl (.inl h)
        · cases i with
          | zero =>
            simp at h1 h2
            subst h1 h2
            exact .inl (.inr h3.2)
          | succ i => exact .inr ⟨i, a2, b2, h1, h2, h3⟩
    · rw [if_neg hf]
      obtain ⟨m1, m2⟩ := mkR_to f (b :: t) out b rfl u2 (fun e he => hb e (.tail _ he)) ⟨ho.1, fun r hr => by have := ho.2 r hr; omega⟩
      refine ⟨m1, fun n => ?_⟩
      rw [m2]
      constructor
      · rintro (h | ⟨i, a2, b2, h1, h2, h3⟩)
        · exact .inl h
        · exact .inr ⟨i + 1, a2, b2, h1, h2, h3⟩
      · rintro (h | ⟨i, a2, b2, h1, h2, h3⟩)
        · exact .inl h
        · cases i with
          | zero =>
            simp at h1
            subst h1
            exact absurd h3.1 hf
          | succ i => exact .inr ⟨i, a2, b2, h1, h2, h3⟩
theorem up_between : ∀ (es : List Int) (n lo hi : Int), es.head? = some lo → es.getLast? = some hi → Up es → lo ≤ n → n < hi → ∃ (i : Nat) (a b : Int), es[i]? = some a ∧ es[i + 1]? = some b ∧ a ≤ n ∧ n < b
  | [], _, _, _, h, _, _, _, _ => by cases h
  | [a], n, lo, hi, h, h2, _, h3, h4 => by
    simp at h h2
    omega
  | a :: b :: t, n, lo, hi, h, h2, hu, h3, h4 => by
    have hax : a = lo := by simpa using h
    subst hax
    by_cases hn : n < b
    · exact ⟨0, a, b, rfl, rfl, h3, hn⟩
    · have hu2 := (List.pairwise_cons.1 hu).2
      obtain ⟨i, a2, b2, e1, e2, e3⟩ := up_between (b :: t) n b hi rfl (by rw [← h2, List.getLast?_cons_cons]) hu2 (by omega) h4
      exact ⟨i + 1, a2, b2, e1, e2, e3⟩
theorem same_in {l : List Run} {es : List Int} (_hf : Fit l) (hu : Up es) (he : ∀ x ∈ l, x.1 ∈ es ∧ x.2 ∈ es) {i : Nat} {a b n : Int} (h1 : es[i]? = some a) (h2 : es[i + 1]? = some b) (h3 : a ≤ n) (h4 : n < b) : inS l n ↔ inS l a := by
  have gap : ∀ e ∈ es, e ≤ a ∨ b ≤ e := fun e hm => by
    obtain ⟨j, hj, rfl⟩ := List.getElem_of_mem hm
    obtain ⟨p1, q1⟩ := List.getElem?_eq_some_iff.1 h1
    obtain ⟨p2, q2⟩ := List.getElem?_eq_some_iff.1 h2
    rcases Nat.lt_trichotomy j i with h | h | h
    · left
      have := List.pairwise_iff_getElem.1 hu j i hj p1 h
      omega
    · subst h; left; omega
    · right
      rcases Nat.lt_or_ge (i + 1) j with h5 | h5
      · have := List.pairwise_iff_getElem.1 hu (i + 1) j p2 hj h5
        omega
      · obtain rfl : j = i + 1 := by omega
        omega
  constructor
  · rintro ⟨x, hx, k1, k2⟩
    obtain ⟨e1, e2⟩ := he x hx
    refine ⟨x, hx, ?_, ?_⟩
    · rcases gap _ e1 with h | h <;> omega
    · omega
  · rintro ⟨x, hx, k1, k2⟩
    obtain ⟨e1, e2⟩ := he x hx
    refine ⟨x, hx, by omega, ?_⟩
    rcases gap _ e2 with h | h <;> omega
theorem up_last {l : List Int} {m : Int} (hu : Up l) (hm : m ∈ l) (hall : ∀ e ∈ l, e ≤ m) : l.getLast? = some m := by
  have hne : l ≠ [] := List.ne_nil_of_mem hm
  rw [List.getLast?_eq_some_getLast hne]
  congr 1
  have h1 := hall _ (List.getLast_mem hne)
  obtain ⟨j, hj, e⟩ := List.getElem_of_mem hm
  have h2 : l.getLast hne = l[l.length - 1]'(by omega) := List.getLast_eq_getElem _
  rcases Nat.lt_or_ge j (l.length - 1) with h | h
  · have := List.pairwise_iff_getElem.1 hu j (l.length - 1) hj (by omega) h
    omega
  · have : j = l.length - 1 := by omega
    subst this
    rw [h2, e]
theorem up_head {l : List Int} {m : Int} (hu : Up l) (hm : m ∈ l) (hall : ∀ e ∈ l, m ≤ e) : l.head? = some m := by
  cases l with
  | nil => cases hm
  | cons a t =>
    obtain ⟨h1, _⟩ := List.pairwise_cons.1 hu
    rcases List.mem_cons.1 hm with rfl | hm
    · rfl
    · have h2 := h1 m hm
      have h3 := hall a (.head _)
      omega
theorem made_in {a b : List Run} (ha : Canon a) (hb : Canon b) (f : Bool → Bool → Bool) (A B : Int → Bool) (hA : ∀ n, A n = true ↔ inS a n) (hB : ∀ n, B n = true ↔ inS b n) :
    Canon (mkR (fun x => f (A x) (B x)) (edgL b (edgL a [0, allN])) []) ∧ ∀ n, inS (mkR (fun x => f (A x) (B x)) (edgL b (edgL a [0, allN])) []) n ↔ 0 ≤ n ∧ n < allN ∧ f (A n) (B n) = true := by
  obtain ⟨es, hes⟩ : ∃ es, edgL b (edgL a [0, allN]) = es := ⟨_, rfl⟩
  have hu : Up es := by rw [← hes]; exact edgL_up _ _ (edgL_up _ _ (by unfold Up allN; simp))
  have hm : ∀ m, m ∈ es ↔ (m = 0 ∨ m = allN) ∨ (∃ x ∈ a, m = x.1 ∨ m = x.2) ∨ ∃ x ∈ b, m = x.1 ∨ m = x.2 := fun m => by
    rw [← hes, edgL_mem, edgL_mem]
    simp only [List.mem_cons, List.not_mem_nil, or_false]
    constructor
    · rintro ((h | h) | h)
      · exact .inl h
      · exact .inr (.inl h)
      · exact .inr (.inr h)
    · rintro (h | h | h)
      · exact .inl (.inl h)
      · exact .inl (.inr h)
      · exact .inr h
  have hbd : ∀ e ∈ es, 0 ≤ e ∧ e ≤ allN := fun e he => by
    rcases (hm e).1 he with (h | h) | ⟨x, hx, h⟩ | ⟨x, hx, h⟩
    · subst h; unfold allN; omega
    · subst h; unfold allN; omega
    · have := Canon.fit ha x hx
      rcases h with h | h <;> omega
    · have := Canon.fit hb x hx
      rcases h with h | h <;> omega
  have h0 : es.head? = some 0 := up_head hu ((hm 0).2 (.inl (.inl rfl))) (fun e he => (hbd e he).1)
  have hl : es.getLast? = some allN := up_last hu ((hm allN).2 (.inl (.inr rfl))) (fun e he => (hbd e he).2)
  have ea : ∀ x ∈ a, x.1 ∈ es ∧ x.2 ∈ es := fun x hx => ⟨(hm _).2 (.inr (.inl ⟨x, hx, .inl rfl⟩)), (hm _).2 (.inr (.inl ⟨x, hx, .inr rfl⟩))⟩
  have eb : ∀ x ∈ b, x.1 ∈ es ∧ x.2 ∈ es := fun x hx => ⟨(hm _).2 (.inr (.inr ⟨x, hx, .inl rfl⟩)), (hm _).2 (.inr (.inr ⟨x, hx, .inr rfl⟩))⟩
  rw [hes]
  obtain ⟨k1, k2⟩ := mkR_to (fun x => f (A x) (B x)) es [] 0 h0 hu hbd ⟨trivial, fun r hr => by cases hr⟩
  refine ⟨k1, fun n => ?_⟩
  have same : ∀ {i : Nat} {x y : Int}, es[i]? = some x → es[i + 1]? = some y → x ≤ n → n < y → A n = A x ∧ B n = B x := fun h1 h2 h3 h4 => by
    have s1 := same_in (Canon.fit ha) hu ea h1 h2 h3 h4
    have s2 := same_in (Canon.fit hb) hu eb h1 h2 h3 h4
    rw [← hA, ← hA] at s1
    rw [← hB, ← hB] at s2
    exact ⟨Bool.eq_iff_iff.2 s1, Bool.eq_iff_iff.2 s2⟩
  rw [k2]
  constructor
  · rintro (h | ⟨i, x, y, e1, e2, e3, e4, e5⟩)
    · exact absurd h (inS_nil n)
    · obtain ⟨s1, s2⟩ := same e1 e2 e4 e5
      have b1 := hbd x (List.mem_of_getElem? e1)
      have b2 := hbd y (List.mem_of_getElem? e2)
      exact ⟨by omega, by omega, by rw [s1, s2]; exact e3⟩
  · rintro ⟨n0, n1, hf⟩
    obtain ⟨i, x, y, e1, e2, e4, e5⟩ := up_between es n 0 allN h0 hl hu n0 n1
    obtain ⟨s1, s2⟩ := same e1 e2 e4 e5
    exact .inr ⟨i, x, y, e1, e2, by rw [← s1, ← s2]; exact hf, e4, e5⟩
end Go.Kt.Rg
