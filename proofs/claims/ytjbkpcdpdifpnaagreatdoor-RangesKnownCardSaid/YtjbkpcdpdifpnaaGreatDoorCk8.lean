/- Parts of the proof of what the last text says. -/
import Derived.Test.YtjbkpcdpdifpnaaGreatDoorCk6
import Derived.Shelf.LaysM
import Derived.Shelf.LaysC
import Derived.Shelf.Small.Wraps
import Derived.Shelf.Strconv.ToError
import Derived.Shelf.Strconv.ToErrorRange
import Derived.Shelf.Strconv.Lower
import Derived.Shelf.Strings.Search2
import Derived.Shelf.Strings.Prefix
import Derived.Test.YtjbkpcdpdifpnaaGreatDoorProg
import Derived.Lib.AtoiErrMem
import Derived.Laws.Strings3
import Derived.Laws.Closers25
import Derived.Laws.Closers25b
import Derived.BigCall
import Derived.BigGuard
/- Hexadecimal digits read, a point, a span, a set read: mathematics. -/
namespace Go.Proofs.YtjbkpcdpdifpnaaGreatDoor
open Go Go.RowKit Go.Kt Go.Kt.Rg

def digV (c : Nat) : Option Nat := if 48 ≤ c ∧ c ≤ 57 then some (c - 48) else if 97 ≤ (c ||| 32) ∧ (c ||| 32) ≤ 122 then some ((c ||| 32) - 87) else none
def puF (mx : Nat) : Nat → List UInt8 → Option Nat
  | n, [] => some n
  | n, c :: t => match digV c.toNat with
    | none => none
    | some d => if 16 ≤ d then none else if mx < n * 16 + d then none else puF mx (n * 16 + d) t
def puV (mx : Nat) (l : List UInt8) : Option Nat := if l = [] then none else puF mx 0 l
theorem puF_append (mx : Nat) : ∀ (a b : List UInt8) (n : Nat), puF mx n (a ++ b) = (puF mx n a).bind fun m => puF mx m b
  | [], b, n => rfl
  | c :: t, b, n => by
    simp only [List.cons_append, puF]
    cases digV c.toNat with
    | none => rfl
    | some d =>
      simp only
      by_cases h1 : 16 ≤ d
      · simp [h1]
      · by_cases h2 : mx < n * 16 + d
        · simp [h1, h2]
        · simp only [h1, h2, if_false]
          exact puF_append mx t b _
theorem digV_hex : ∀ d, d < 16 → digV (hexD d).toNat = some d := by decide
theorem hexD_ne : ∀ d, d < 16 → hexD d ≠ 125 ∧ hexD d ≠ 45 := by decide
theorem puF_hexF (mx : Nat) : ∀ (f u : Nat), u < 16 ^ (f + 1) → u ≤ mx → puF mx 0 (hexF f u) = some u
  | 0, u, h, hm => by
    have hu : u < 16 := by simpa using h
    have := digV_hex u hu
    simp only [hexF, Nat.mod_eq_of_lt hu, puF, this]
    rw [if_neg (by omega), if_neg (by omega)]
    simp
  | f + 1, u, h, hm => by
    unfold hexF
    by_cases h16 : u < 16
    · have := digV_hex u h16
      rw [if_pos h16]
      simp only [puF, this]
      rw [if_neg (by omega), if_neg (by omega)]
      simp
    · have hd : u / 16 < 16 ^ (f + 1) := by
        have : u < 16 ^ (f + 1) * 16 := by rw [← Nat.pow_succ]; exact h
        omega
      have h2 := digV_hex (u % 16) (Nat.mod_lt _ (by decide))
      rw [if_neg h16, puF_append, puF_hexF mx f (u / 16) hd (by omega)]
      simp only [Option.bind_some, puF, h2]
      rw [if_neg (by omega), if_neg (by omega)]
      congr 1
      omega
theorem hexF_ne : ∀ (f u : Nat), hexF f u ≠ []
  | 0, u => by simp [hexF]
  | f + 1, u => by unfold hexF; split <;> simp
theorem puV_hex (mx u : Nat) (h : u < 68719476736) (hm : u ≤ mx) : puV mx (hexL u) = some u := by
  unfold puV hexL
  rw [if_neg (hexF_ne 8 u)]
  exact puF_hexF mx 8 u (by simpa using h) hm
theorem hexF_clean : ∀ (f u : Nat), ∀ c ∈ hexF f u, c ≠ 125 ∧ c ≠ 45
  | 0, u, c, h => by
    simp only [hexF, List.mem_singleton] at h
    subst h; exact hexD_ne _ (Nat.mod_lt _ (by decide))
  | f + 1, u, c, h => by
    unfold hexF at h
    split at h
    · simp only [List.mem_singleton] at h
      subst h; exact hexD_ne _ (by omega)
    · rcases List.mem_append.1 h with h | h
      · exact hexF_clean f _ c h
      · simp only [List.mem_singleton] at h
        subst h; exact hexD_ne _ (Nat.mod_lt _ (by decide))
theorem puF_bd (mx : Nat) : ∀ (l : List UInt8) (n m : Nat), n ≤ mx → puF mx n l = some m → m ≤ mx
  | [], n, m, h, e => by simp only [puF, Option.some.injEq] at e; omega
  | c :: t, n, m, h, e => by
    simp only [puF] at e
    cases hd : digV c.toNat with
    | none => rw [hd] at e; cases e
    | some d =>
      rw [hd] at e
      simp only at e
      by_cases h1 : 16 ≤ d
      · rw [if_pos h1] at e; cases e
      · rw [if_neg h1] at e
        by_cases h2 : mx < n * 16 + d
        · rw [if_pos h2] at e; cases e
        · rw [if_neg h2] at e
          exact puF_bd mx t _ m (by omega) e
theorem puV_bd {mx m : Nat} {l : List UInt8} (e : puV mx l = some m) : m ≤ mx := by
  unfold puV at e
  split at e
  · cases e
  · exact puF_bd mx l 0 m (Nat.zero_le _) e

def upB (l : List UInt8) : List UInt8 := l.takeWhile (· != 125)
theorem upB_at (a b : List UInt8) (h : ∀ c ∈ a, c ≠ 125) : upB (a ++ 125 :: b) = a := by
  induction a with
  | nil => simp [upB]
  | cons x t ih =>
    have hx := h x (.head _)
    simp only [upB, List.cons_append, List.takeWhile_cons] at ih ⊢
    rw [if_pos (by simpa using hx)]
    rw [ih fun c hc => h c (.tail _ hc)]
def sptD (l : List UInt8) : Int × List UInt8 :=
  if [92, 117, 123].isPrefixOf l then (0, upB (l.drop 3)) else if [92, 120].isPrefixOf l then (1114112, (l.drop 2).take 2) else (0, [])
def sptR (l : List UInt8) : Int := match puV 2097151 (sptD l).2 with | none => -1 | some n => (sptD l).1 + (n : Int)
theorem sptD_bd (l : List UInt8) : (sptD l).1 = 0 ∨ (sptD l).1 = 1114112 := by
  unfold sptD
  split
  · exact .inl rfl
  · split
    · exact .inr rfl
    · exact .inl rfl
theorem sptR_bd (l : List UInt8) : -1 ≤ sptR l ∧ sptR l ≤ 3211263 := by
  unfold sptR
  have hb := sptD_bd l
  cases h : puV 2097151 (sptD l).2 with
  | none => simp
  | some n =>
    have := puV_bd h
    simp only
    omega
theorem num_true {r : Int} (h : (numB r).2 = true) : pntI (numB r).1 = r ∧ 0 ≤ r ∧ r ≤ 1114367 ∧ (1114111 < r → 1114240 ≤ r) := by
  unfold numB at h ⊢
  by_cases c1 : r < 0
  · rw [if_pos c1] at h; cases h
  rw [if_neg c1] at h ⊢
  by_cases c2 : r ≤ 55295
  · rw [if_pos c2]; unfold pntI; simp only; exact ⟨by rw [if_pos (by omega)], by omega, by omega, by omega⟩
  rw [if_neg c2] at h ⊢
  by_cases c3 : r < 57344
  · rw [if_pos c3] at h; cases h
  rw [if_neg c3] at h ⊢
  by_cases c4 : r ≤ 1114111
  · rw [if_pos c4]; unfold pntI; simp only; exact ⟨by rw [if_neg (by omega), if_pos (by omega)]; omega, by omega, by omega, by omega⟩
  rw [if_neg c4] at h ⊢
  by_cases c5 : r < 1114240
  · rw [if_pos c5] at h; cases h
  rw [if_neg c5] at h ⊢
  by_cases c6 : r ≤ 1114367
  · rw [if_pos c6]; unfold pntI; simp only; exact ⟨by rw [if_neg (by omega), if_neg (by omega), if_pos (by omega)]; omega, by omega, by omega, by omega⟩
  rw [if_neg c6] at h; cases h
theorem hex_two : ∀ u, u < 256 → 16 ≤ u → (hexL u).length = 2 := by decide +kernel
theorem sptR_print {r : Int} (h : (numB r).2 = true) (rest : List UInt8) : sptR (printP r ++ rest) = r := by
  obtain ⟨_, h0, h1, h2⟩ := num_true h
  unfold printP
  split
  · rename_i hr
    obtain ⟨u, hu⟩ : ∃ u : Nat, r - 1114112 = u := ⟨(r - 1114112).toNat, by omega⟩
    have h2' := h2 hr
    have hl := hex_two u (by omega) (by omega)
    have e : sptD ([92, 120] ++ hexL u ++ rest) = (1114112, hexL u) := by
      unfold sptD
      rw [if_neg (by simp [List.isPrefixOf]), if_pos (by simp [List.isPrefixOf])]
      simp only [List.cons_append, List.nil_append, List.drop_succ_cons, List.drop_zero]
      rw [List.take_append_of_le_length (by omega), List.take_of_length_le (by omega)]
    rw [hu, Int.toNat_natCast]
    unfold sptR
    rw [e]
    simp only
    rw [puV_hex _ _ (by omega) (by omega)]
    simp only
    omega
  · rename_i hr
    obtain ⟨u, hu⟩ : ∃ u : Nat, r = u := ⟨r.toNat, by omega⟩
    subst hu
    have e : sptD ([92, 117, 123] ++ hexL u ++ [125] ++ rest) = (0, hexL u) := by
      unfold sptD
      rw [if_pos (by simp [List.isPrefixOf])]
      simp only [List.append_assoc, List.cons_append, List.nil_append, List.drop_succ_cons, List.drop_zero]
      show (0, upB (hexF 8 u ++ 125 :: rest)) = (0, hexF 8 u)
      rw [upB_at _ _ fun c hc => (hexF_clean 8 u c hc).1]
    rw [Int.toNat_natCast]
    unfold sptR
    rw [e]
    simp only
    rw [puV_hex _ _ (by omega) (by omega)]
    simp only
    omega

def ptAt (l : List UInt8) : Option (Int × Nat) := if (numB (sptR l)).2 && (printP (sptR l)).isPrefixOf l then some ((numB (sptR l)).1, (printP (sptR l)).length) else none
theorem ptAt_print {n : Int} (h0 : 0 ≤ n) (h1 : n < allN) (rest : List UInt8) : ptAt (printP (pntI n) ++ rest) = some (n, (printP (pntI n)).length) := by
  have hn := num_pnt h0 h1
  have e := sptR_print (r := pntI n) (by rw [hn]) rest
  unfold ptAt
  rw [e, hn, if_pos]
  rw [Bool.true_and]
  exact List.isPrefixOf_iff_prefix.2 ⟨rest, rfl⟩
theorem ptAt_sound {l : List UInt8} {n : Int} {k : Nat} (h : ptAt l = some (n, k)) : 0 ≤ n ∧ n < allN ∧ k = (printP (pntI n)).length ∧ ∃ rest, l = printP (pntI n) ++ rest := by
  unfold ptAt at h
  split at h
  · rename_i hc
    rw [Bool.and_eq_true] at hc
    obtain ⟨t, ht⟩ := List.isPrefixOf_iff_prefix.1 hc.2
    have e := num_true hc.1
    have hb := numB_bd (sptR l)
    simp only [Option.some.injEq, Prod.mk.injEq] at h
    obtain ⟨rfl, rfl⟩ := h
    rw [e.1]
    exact ⟨hb.1, hb.2, rfl, t, ht.symm⟩
  · cases h
theorem printP_ne (r : Int) : printP r ≠ [] := by unfold printP; split <;> simp
theorem printP_pos (r : Int) : 0 < (printP r).length := by
  rcases Nat.eq_zero_or_pos (printP r).length with h | h
  · exact absurd (List.eq_nil_of_length_eq_zero h) (printP_ne r)
  · exact h

def spAt (s : List UInt8) (p : Nat) : Except (Int × Nat) (Run × Nat) :=
  match ptAt (s.drop p) with
  | none => .error (9, p)
  | some (lo, k) => if s[p + k]? = some 45 then match ptAt (s.drop (p + k + 1)) with
      | none => .error (9, p + k + 1)
      | some (hi, k2) => if hi ≤ lo then .error (4, p) else .ok ((lo, hi + 1), p + k + 1 + k2)
    else .ok ((lo, lo + 1), p + k)
def aboveB (l : List Run) (x : Run) : Bool := match l.getLast? with | none => true | some y => decide (y.2 < x.1)
def prF : Nat → List UInt8 → Nat → List Run → Except (Int × Nat) (List Run)
  | 0, _, p, _ => .error (25, p)
  | f + 1, s, p, l =>
    if s.length ≤ p then .error (25, p)
    else if s[p]? = some 93 then (if p + 1 < s.length then .error (3, p + 1) else .ok l)
    else match spAt s p with
      | .error e => .error e
      | .ok (x, q) => if aboveB l x then prF f s q (l ++ [x]) else .error (4, p)
def prL (s : List UInt8) : Except (Int × Nat) (List Run) := if [91].isPrefixOf s then prF s.length s 1 [] else .error (25, 0)

theorem spAt_sound {s : List UInt8} {p q : Nat} {x : Run} (h : spAt s p = .ok (x, q)) : 0 ≤ x.1 ∧ x.1 < x.2 ∧ x.2 ≤ allN ∧ p < q ∧ q ≤ s.length ∧ s.take q = s.take p ++ printS (spanP x) ∧ p ≤ s.length := by
  unfold spAt at h
  have key : ∀ (p : Nat) (t r : List UInt8), s.drop p = t ++ r → t ≠ [] → p + t.length ≤ s.length ∧ s.take (p + t.length) = s.take p ++ t := by
    intro p t r e ht
    have hl : (s.drop p).length = t.length + r.length := by rw [e, List.length_append]
    rw [List.length_drop] at hl
    have : 0 < t.length := by
      cases t with
      | nil => exact absurd rfl ht
      | cons => simp
    refine ⟨by omega, ?_⟩
    rw [List.take_add, e, List.take_append_of_le_length (Nat.le_refl _), List.take_length]
  cases h1 : ptAt (s.drop p) with
  | none => rw [h1] at h; cases h
  | some a =>
    obtain ⟨lo, k⟩ := a
    obtain ⟨l0, l1, rfl, t1, e1⟩ := ptAt_sound h1
    obtain ⟨k1, k2⟩ := key p _ _ e1 (printP_ne _)
    have kp := printP_pos (pntI lo)
    rw [h1] at h
    simp only at h
    by_cases hc : s[p + (printP (pntI lo)).length]? = some 45
    · rw [if_pos hc] at h
      cases h2 : ptAt (s.drop (p + (printP (pntI lo)).length + 1)) with
      | none => rw [h2] at h; cases h
      | some b =>
        obtain ⟨hi, m⟩ := b
        obtain ⟨m0, m1, rfl, t2, e2⟩ := ptAt_sound h2
        obtain ⟨j1, j2⟩ := key _ _ _ e2 (printP_ne _)
        rw [h2] at h
        simp only at h
        by_cases hlo : hi ≤ lo
        · rw [if_pos hlo] at h; cases h
        · rw [if_neg hlo] at h
          simp only [Except.ok.injEq, Prod.mk.injEq] at h
          obtain ⟨rfl, rfl⟩ := h
          refine ⟨l0, by simp only; omega, by simp only; omega, by omega, j1, ?_, by omega⟩
          rw [j2, List.take_add_one, hc, k2]
          have hne : pntI hi ≠ pntI lo := by
            intro e
            have a1 := num_pnt l0 l1
            have a2 := num_pnt m0 m1
            rw [e, a1] at a2
            injection a2; omega
          simp only [printS, spanP, Int.add_sub_cancel]
          rw [if_neg hne]
          simp
    · rw [if_neg hc] at h
      simp only [Except.ok.injEq, Prod.mk.injEq] at h
      obtain ⟨rfl, rfl⟩ := h
      refine ⟨l0, by simp only; omega, by simp only; omega, by omega, k1, ?_, by omega⟩
      rw [k2]
      simp only [printS, spanP, Int.add_sub_cancel]
      simp
theorem spans_snoc (l : List Run) (x : Run) : printL (spansL (l ++ [x])) = printL (spansL l) ++ printS (spanP x) := by
  rw [spansL, List.map_append, List.map_singleton, printL_snoc]; rfl
theorem canon_snoc : ∀ {l : List Run} {lo : Int} {x : Run}, CanonFrom lo l → lo < x.1 → 0 ≤ x.1 → x.1 < x.2 → x.2 ≤ allN → aboveB l x = true → CanonFrom lo (l ++ [x])
  | [], lo, x, _, h1, _, h2, h3, _ => ⟨h1, h2, h3, trivial⟩
  | y :: t, lo, x, h, h1, h0, h2, h3, ha => by
    refine ⟨h.1, h.2.1, h.2.2.1, canon_snoc h.2.2.2 ?_ h0 h2 h3 ?_⟩
    · unfold aboveB at ha
      cases hl : (y :: t).getLast? with
      | none => simp at hl
      | some z =>
        rw [hl] at ha
        have hz : z ∈ y :: t := List.mem_of_getLast? hl
        simp only [decide_eq_true_eq] at ha
        rcases List.mem_cons.1 hz with rfl | hz
        · exact ha
        · have := canon_mem h.2.2.2 z hz; omega
    · unfold aboveB at ha ⊢
      cases t with
      | nil => simp
      | cons a b => rw [List.getLast?_cons_cons] at ha; exact ha
theorem prF_sound : ∀ (f : Nat) (s : List UInt8) (p : Nat) (l R : List Run), Canon l → s.take p = 91 :: printL (spansL l) → prF f s p l = .ok R → Canon R ∧ s = 91 :: printL (spansL R) ++ [93]
  | 0, s, p, l, R, _, _, h => by simp [prF] at h
  | f + 1, s, p, l, R, hl, ht, h => by
    unfold prF at h
    split at h
    · cases h
    · rename_i hp
      split at h
      · rename_i hc
        split at h
        · cases h
        · rename_i hq
          simp only [Except.ok.injEq] at h
          subst h
          refine ⟨hl, ?_⟩
          have e : s.take (p + 1) = s := List.take_of_length_le (by omega)
          rw [List.take_add_one, hc, ht] at e
          exact e.symm
      · cases hs : spAt s p with
        | error e => rw [hs] at h; cases h
        | ok a =>
          obtain ⟨x, q⟩ := a
          rw [hs] at h
          simp only at h
          have hx := spAt_sound hs
          by_cases ha : aboveB l x = true
          · rw [if_pos ha] at h
            exact prF_sound f s q (l ++ [x]) R (canon_snoc hl (by omega) hx.1 hx.2.1 hx.2.2.1 ha) (by rw [spans_snoc, hx.2.2.2.2.2.1, ht]; rfl) h
          · rw [if_neg ha] at h; cases h
theorem prL_sound {s : List UInt8} {R : List Run} (h : prL s = .ok R) : Canon R ∧ s = 91 :: printL (spansL R) ++ [93] := by
  unfold prL at h
  split at h
  · rename_i hp
    refine prF_sound _ s 1 [] R trivial ?_ h
    cases s with
    | nil => simp [List.isPrefixOf] at hp
    | cons c t => simp [List.isPrefixOf] at hp; subst hp; simp [spansL, printL]
  · cases h

theorem spAt_print (s : List UInt8) (p : Nat) (x : Run) (rest : List UInt8) (h0 : 0 ≤ x.1) (h1 : x.1 < x.2) (h2 : x.2 ≤ allN) (hs : s.drop p = printS (spanP x) ++ rest) (hr : rest.head? ≠ some 45) : spAt s p = .ok (x, p + (printS (spanP x)).length) := by
  obtain ⟨x1, x2⟩ := x
  simp only at h0 h1 h2
  unfold printS spanP at hs ⊢
  simp only at hs ⊢
  by_cases he : pntI (x2 - 1) = pntI x1
  · have e2 : x2 = x1 + 1 := by
      have a1 := num_pnt h0 (show x1 < allN by omega)
      have a2 := num_pnt (show 0 ≤ x2 - 1 by omega) (show x2 - 1 < allN by omega)
      rw [he, a1] at a2
      injection a2; omega
    rw [if_pos he, List.append_nil] at hs ⊢
    have hp := ptAt_print h0 (show x1 < allN by omega) rest
    rw [← hs] at hp
    unfold spAt
    rw [hp]
    simp only
    have hn : s[p + (printP (pntI x1)).length]? ≠ some 45 := by
      rw [← List.getElem?_drop, hs, List.getElem?_append_right (Nat.le_refl _), Nat.sub_self, ← List.head?_eq_getElem?]
      exact hr
    rw [if_neg hn, e2]
  · rw [if_neg he] at hs ⊢
    have hp := ptAt_print h0 (show x1 < allN by omega) (45 :: printP (pntI (x2 - 1)) ++ rest)
    rw [← List.append_assoc, ← hs] at hp
    unfold spAt
    rw [hp]
    simp only
    have hn : s[p + (printP (pntI x1)).length]? = some 45 := by
      rw [← List.getElem?_drop, hs, List.append_assoc, List.getElem?_append_right (Nat.le_refl _), Nat.sub_self]; rfl
    rw [if_pos hn]
    have hd : s.drop (p + (printP (pntI x1)).length + 1) = printP (pntI (x2 - 1)) ++ rest := by
      have e := congrArg (List.drop ((printP (pntI x1)).length + 1)) hs
      rw [List.drop_drop, List.append_assoc, List.drop_append] at e
      rw [show p + (printP (pntI x1)).length + 1 = p + ((printP (pntI x1)).length + 1) by omega, e]
      rw [List.drop_of_length_le (by omega), show (printP (pntI x1)).length + 1 - (printP (pntI x1)).length = 1 by omega]
      rfl
    have hq := ptAt_print (show 0 ≤ x2 - 1 by omega) (show x2 - 1 < allN by omega) rest
    rw [← hd] at hq
    rw [hq]
    simp only
    have hlt : ¬ x2 - 1 ≤ x1 := by
      intro h
      have : x2 - 1 = x1 := by omega
      rw [this] at he; exact he rfl
    rw [if_neg hlt]
    simp only [List.length_append, List.length_cons, Except.ok.injEq, Prod.mk.injEq, true_and]
    exact ⟨by omega, by omega⟩
theorem printS_head (x : Int × Int) (r : List UInt8) : (printS x ++ r).head? = some 92 := by
  unfold printS printP
  split <;> split <;> simp
theorem prF_back : ∀ (f : Nat) (s : List UInt8) (p : Nat) (l t : List Run), s.drop p = printL (spansL t) ++ [93] → Canon (l ++ t) → s.length < p + f → p ≤ s.length → prF f s p l = .ok (l ++ t)
  | 0, s, p, l, t, hd, _, hf, hp => by
    have := congrArg List.length hd
    rw [List.length_drop, List.length_append, List.length_singleton] at this
    omega
  | f + 1, s, p, l, [], hd, hc, hf, hp => by
    simp only [spansL, List.map_nil, printL, List.flatMap_nil, List.nil_append] at hd
    have hl := congrArg List.length hd
    rw [List.length_drop, List.length_singleton] at hl
    have h93 : s[p]? = some 93 := by rw [← Nat.add_zero p, ← List.getElem?_drop, hd]; rfl
    unfold prF
    rw [if_neg (by omega), if_pos h93, if_neg (by omega), List.append_nil]
  | f + 1, s, p, l, x :: t, hd, hc, hf, hp => by
    have hx := canon_mem hc x (by simp)
    have hd' : s.drop p = printS (spanP x) ++ (printL (spansL t) ++ [93]) := by
      rw [hd]; simp [spansL, printL, List.flatMap_cons]
    have hlen := congrArg List.length hd'
    rw [List.length_drop, List.length_append, List.length_append, List.length_singleton] at hlen
    have hc92 : s[p]? = some 92 := by
      rw [← Nat.add_zero p, ← List.getElem?_drop, hd', ← List.head?_eq_getElem?]; exact printS_head _ _
    have hhead : (printL (spansL t) ++ [93]).head? ≠ some 45 := by
      cases t with
      | nil => simp [spansL, printL]
      | cons y u =>
        have : printL (spansL (y :: u)) ++ [93] = printS (spanP y) ++ (printL (spansL u) ++ [93]) := by simp [spansL, printL, List.flatMap_cons]
        rw [this, printS_head]; simp
    have hsp := spAt_print s p x _ (by omega) hx.2.1 hx.2.2 hd' hhead
    have hab : aboveB l x = true := by
      unfold aboveB
      cases hg : l.getLast? with
      | none => rfl
      | some y =>
        have hpw := canon_pw hc
        rw [List.pairwise_append] at hpw
        simpa using hpw.2.2 y (List.mem_of_getLast? hg) x (.head _)
    have hpos : 0 < (printS (spanP x)).length := by unfold printS; rw [List.length_append]; have := printP_pos (spanP x).1; omega
    unfold prF
    rw [if_neg (by omega), if_neg (by rw [hc92]; decide), hsp]
    simp only
    rw [if_pos hab]
    have := prF_back f s (p + (printS (spanP x)).length) (l ++ [x]) t (by
      rw [← List.drop_drop, hd', List.drop_append_of_le_length (Nat.le_refl _), List.drop_length, List.nil_append]) (by rw [List.append_assoc]; exact hc) (by omega) (by omega)
    rw [this, List.append_assoc]; rfl
theorem prL_back {R : List Run} (h : Canon R) : prL (91 :: printL (spansL R) ++ [93]) = .ok R := by
  unfold prL
  rw [if_pos (by simp [List.isPrefixOf])]
  exact prF_back _ _ 1 [] R (by simp) h (by omega) (by simp)
end Go.Proofs.YtjbkpcdpdifpnaaGreatDoor
/- The contracts of the library functions that stage 3's Parse calls (strings.CutPrefix, HasPrefix, strconv's errors, stringslite.Index), laid over this translation. -/
namespace Go.Proofs
open Go.Shelf
def Tryz.lays210_ren : Go.Shelf.Ren := ⟨fun | 210 => 173 | 206 => 126 | n => n, fun | 9 => 9 | 4 => 4 | 3 => 3 | n => n, fun | n => n⟩
def Tryz.lays103_ren : Go.Shelf.Ren := ⟨fun | 103 => 159 | 210 => 173 | 206 => 126 | n => n, fun | 9 => 9 | 4 => 4 | 24 => 283 | 3 => 3 | n => n, fun | n => n⟩
theorem Tryz.lays103 : Go.Proofs.Lays.n103 Tryz.prog Tryz.lays103_ren := {
  mixed := by kernel_rfl
  f103 := Tryz.func159.trans (congrArg some (by kernel_rfl))
  f206 := Tryz.func126.trans (congrArg some (by kernel_rfl))
  f210 := Tryz.func173.trans (congrArg some (by kernel_rfl))
  t3 := Tryz.underlying3
  a3 := Tryz.isAgg3
  z3 := Tryz.sizeOf3
  v3 := Tryz.zeroValue3
  t4 := Tryz.underlying4
  a4 := Tryz.isAgg4
  z4 := Tryz.sizeOf4
  v4 := Tryz.zeroValue4
  t9 := Tryz.underlying9
  a9 := Tryz.isAgg9
  z9 := Tryz.sizeOf9
  v9 := Tryz.zeroValue9
  t24 := Tryz.underlying283
  a24 := Tryz.isAgg283
  z24 := Tryz.sizeOf283
  v24 := Tryz.zeroValue283 }
open Go.RowKit in
theorem Tryz.strings_CutPrefix (s p : ByteArray) (w : World) :
    Calls Tryz.prog 159 #[.string s, .string p] w fun e w' => e = .returned (.tuple #[.string ⟨(Lib.trimPrefix s.data.toList p.data.toList).toArray⟩, .bool (Lib.hasPrefix s.data.toList p.data.toList)]) ∧ w' = w := Any.strings_CutPrefix Tryz.lays103 s p w
def Tryz.laysC245_ren : Go.Shelf.Ren := ⟨fun | 245 => 176 | 279 => 185 | 280 => 186 | 281 => 187 | 282 => 188 | 316 => 195 | 171 => 197 | 205 => 196 | 243 => 200 | 246 => 142 | 283 => 162 | 284 => 163 | 285 => 164 | 286 => 165 | 129 => 152 | 317 => 177 | 318 => 178 | 319 => 179 | 320 => 180 | 337 => 189 | 338 => 190 | n => n, fun | 9 => 9 | 3 => 3 | 75 => 38 | 167 => 323 | 4 => 4 | 168 => 325 | 210 => 331 | 37 => 34 | 0 => 0 | 127 => 245 | 145 => 339 | 143 => 337 | 2 => 2 | 171 => 289 | 53 => 173 | 5 => 5 | 173 => 291 | 212 => 318 | 51 => 192 | 20 => 20 | 213 => 319 | 46 => 246 | 232 => 333 | 233 => 334 | 80 => 105 | n => n, fun | 15 => 4 | 16 => 5 | 17 => 2 | 18 => 6 | 19 => 7 | n => n⟩
theorem Tryz.laysC245 : Go.Proofs.LaysC.n245 Tryz.prog Tryz.laysC245_ren := {
  mixed := by kernel_rfl
  f129 := Tryz.func152.trans (congrArg some (by kernel_rfl))
  f171 := Tryz.func197.trans (congrArg some (by kernel_rfl))
  f205 := Tryz.func196.trans (congrArg some (by kernel_rfl))
  f243 := Tryz.func200.trans (congrArg some (by kernel_rfl))
  f245 := Tryz.func176.trans (congrArg some (by kernel_rfl))
  f246 := Tryz.func142.trans (congrArg some (by kernel_rfl))
  f279 := Tryz.func185.trans (congrArg some (by kernel_rfl))
  f280 := Tryz.func186.trans (congrArg some (by kernel_rfl))
  f281 := Tryz.func187.trans (congrArg some (by kernel_rfl))
  f282 := Tryz.func188.trans (congrArg some (by kernel_rfl))
  f283 := Tryz.func162.trans (congrArg some (by kernel_rfl))
  f284 := Tryz.func163.trans (congrArg some (by kernel_rfl))
  f285 := Tryz.func164.trans (congrArg some (by kernel_rfl))
  f286 := Tryz.func165.trans (congrArg some (by kernel_rfl))
  f316 := Tryz.func195.trans (congrArg some (by kernel_rfl))
  f317 := Tryz.func177.trans (congrArg some (by kernel_rfl))
  f318 := Tryz.func178.trans (congrArg some (by kernel_rfl))
  f319 := Tryz.func179.trans (congrArg some (by kernel_rfl))
  f320 := Tryz.func180.trans (congrArg some (by kernel_rfl))
  f337 := Tryz.func189.trans (congrArg some (by kernel_rfl))
  f338 := Tryz.func190.trans (congrArg some (by kernel_rfl))
  t0 := Tryz.underlying0
  a0 := Tryz.isAgg0
  z0 := Tryz.sizeOf0
  v0 := Tryz.zeroValue0
  t2 := Tryz.underlying2
  a2 := Tryz.isAgg2
  z2 := Tryz.sizeOf2
  v2 := Tryz.zeroValue2
  t3 := Tryz.underlying3
  a3 := Tryz.isAgg3
  z3 := Tryz.sizeOf3
  v3 := Tryz.zeroValue3
  t4 := Tryz.underlying4
  a4 := Tryz.isAgg4
  z4 := Tryz.sizeOf4
  v4 := Tryz.zeroValue4
  t5 := Tryz.underlying5
  a5 := Tryz.isAgg5
  z5 := Tryz.sizeOf5
  v5 := Tryz.zeroValue5
  t9 := Tryz.underlying9
  a9 := Tryz.isAgg9
  z9 := Tryz.sizeOf9
  v9 := Tryz.zeroValue9
  t20 := Tryz.underlying20
  a20 := Tryz.isAgg20
  z20 := Tryz.sizeOf20
  v20 := Tryz.zeroValue20
  t37 := Tryz.underlying34
  a37 := Tryz.isAgg34
  z37 := Tryz.sizeOf34
  v37 := Tryz.zeroValue34
  t46 := Tryz.underlying246
  a46 := Tryz.isAgg246
  z46 := Tryz.sizeOf246
  v46 := Tryz.zeroValue246
  t51 := Tryz.underlying192
  a51 := Tryz.isAgg192
  z51 := Tryz.sizeOf192
  v51 := Tryz.zeroValue192
  t53 := Tryz.underlying173
  a53 := Tryz.isAgg173
  z53 := Tryz.sizeOf173
  v53 := Tryz.zeroValue173
  t75 := Tryz.underlying38
  a75 := Tryz.isAgg38
  z75 := Tryz.sizeOf38
  v75 := Tryz.zeroValue38
  t127 := Tryz.underlying245
  a127 := Tryz.isAgg245
  z127 := Tryz.sizeOf245
  v127 := Tryz.zeroValue245
  t143 := Tryz.underlying337
  a143 := Tryz.isAgg337
  z143 := Tryz.sizeOf337
  v143 := Tryz.zeroValue337
  t145 := Tryz.underlying339
  a145 := Tryz.isAgg339
  z145 := Tryz.sizeOf339
  v145 := Tryz.zeroValue339
  t167 := Tryz.underlying323
  a167 := Tryz.isAgg323
  z167 := Tryz.sizeOf323
  v167 := Tryz.zeroValue323
  t168 := Tryz.underlying325
  a168 := Tryz.isAgg325
  z168 := Tryz.sizeOf325
  v168 := Tryz.zeroValue325
  t171 := Tryz.underlying289
  a171 := Tryz.isAgg289
  z171 := Tryz.sizeOf289
  v171 := Tryz.zeroValue289
  t173 := Tryz.underlying291
  a173 := Tryz.isAgg291
  z173 := Tryz.sizeOf291
  v173 := Tryz.zeroValue291
  t210 := Tryz.underlying331
  a210 := Tryz.isAgg331
  z210 := Tryz.sizeOf331
  v210 := Tryz.zeroValue331
  t212 := Tryz.underlying318
  a212 := Tryz.isAgg318
  z212 := Tryz.sizeOf318
  v212 := Tryz.zeroValue318
  t213 := Tryz.underlying319
  a213 := Tryz.isAgg319
  z213 := Tryz.sizeOf319
  t232 := Tryz.underlying333
  a232 := Tryz.isAgg333
  z232 := Tryz.sizeOf333
  v232 := Tryz.zeroValue333
  t233 := Tryz.underlying334
  a233 := Tryz.isAgg334
  z233 := Tryz.sizeOf334
  v233 := Tryz.zeroValue334
  g15 := by kernel_rfl
  g16 := by kernel_rfl
  g17 := by kernel_rfl
  g18 := by kernel_rfl
  g19 := by kernel_rfl
  t80 := Tryz.underlying105
  a80 := Tryz.isAgg105
  z80 := Tryz.sizeOf105
  v80 := Tryz.zeroValue105
  i0 := by kernel_rfl
  i2 := by kernel_rfl
  i3 := by kernel_rfl
  i4 := by kernel_rfl
  i5 := by kernel_rfl
  i9 := by kernel_rfl
  i20 := by kernel_rfl
  i37 := by kernel_rfl
  i46 := by kernel_rfl
  i51 := by kernel_rfl
  i53 := by kernel_rfl
  i75 := by kernel_rfl
  i80 := by kernel_rfl
  i127 := by kernel_rfl
  i143 := by kernel_rfl
  i145 := by kernel_rfl
  i167 := by kernel_rfl
  i168 := by kernel_rfl
  i171 := by kernel_rfl
  i173 := by kernel_rfl
  i210 := by kernel_rfl
  i212 := by kernel_rfl
  i232 := by kernel_rfl
  i233 := by kernel_rfl
  m15 := by kernel_rfl
  m16 := by kernel_rfl
  m17 := by kernel_rfl
  m18 := by kernel_rfl
  m19 := by kernel_rfl
  c0 := by kernel_rfl
  c2 := by kernel_rfl
  c3 := by kernel_rfl
  c4 := by kernel_rfl
  c5 := by kernel_rfl
  c9 := by kernel_rfl
  c20 := by kernel_rfl
  c37 := by kernel_rfl
  c46 := by kernel_rfl
  c51 := by kernel_rfl
  c53 := by kernel_rfl
  c75 := by kernel_rfl
  c80 := by kernel_rfl
  c127 := by kernel_rfl
  c143 := by kernel_rfl
  c145 := by kernel_rfl
  c167 := by kernel_rfl
  c168 := by kernel_rfl
  c171 := by kernel_rfl
  c173 := by kernel_rfl
  c210 := by kernel_rfl
  c212 := by kernel_rfl
  c213 := by kernel_rfl
  c232 := by kernel_rfl
  c233 := by kernel_rfl }
open Go.RowKit in
theorem Tryz.strconv_toError_syntax (fn s : ByteArray) (base bits : Int) (ev : Value) (w : World) (hlim : s.size ≤ 281474976710656) (hv : w.cell? ⟨4, 0, none⟩ = some ev) (hev : ev = .nilIface ∨ ∃ te pe, ev = .iface te pe) :
    Calls Tryz.prog 176 #[.string fn, .string s, .int .i64 base, .int .i64 bits, .iface 323 (.int .i64 2)] w fun e w' => ∃ N, e = .returned (.iface 325 (.pointer (some ⟨N, 0, none⟩))) ∧ w.heap.size ≤ N ∧ w'.heap[N]? = some (.cells #[.string fn, .string s, ev] 331 (0, 0)) ∧ Below w.heap.size w w' := Any.strconv_toError_syntax Tryz.laysC245 fn s base bits ev w hlim hv hev
def Tryz.lays321_ren : Go.Shelf.Ren := ⟨fun | 321 => 183 | n => n, fun | 5 => 5 | n => n, fun | n => n⟩
theorem Tryz.lays321 : Go.Proofs.Lays.n321 Tryz.prog Tryz.lays321_ren := {
  mixed := by kernel_rfl
  f321 := Tryz.func183.trans (congrArg some (by kernel_rfl))
  t5 := Tryz.underlying5
  a5 := Tryz.isAgg5
  z5 := Tryz.sizeOf5
  v5 := Tryz.zeroValue5 }
open Go.RowKit in
theorem Tryz.internal_strconv_lower (c : Int) (w : World) :
    Calls Tryz.prog 183 #[.int .u8 c] w fun e w' => e = .returned (.int .u8 (bits .or .u8 c 32)) ∧ w' = w := Any.internal_strconv_lower Tryz.lays321 c w
open Go.RowKit in
theorem Tryz.strconv_toError_range (fn s : ByteArray) (base bits : Int) (ev : Value) (w : World) (hlim : s.size ≤ 281474976710656) (hv : w.cell? ⟨5, 0, none⟩ = some ev) (hev : ev = .nilIface ∨ ∃ te pe, ev = .iface te pe) :
    Calls Tryz.prog 176 #[.string fn, .string s, .int .i64 base, .int .i64 bits, .iface 323 (.int .i64 1)] w fun e w' => ∃ N, e = .returned (.iface 325 (.pointer (some ⟨N, 0, none⟩))) ∧ w.heap.size ≤ N ∧ w'.heap[N]? = some (.cells #[.string fn, .string s, ev] 331 (0, 0)) ∧ Below w.heap.size w w' := Any.strconv_toError_range Tryz.laysC245 fn s base bits ev w hlim hv hev
def Tryz.lays219_ren : Go.Shelf.Ren := ⟨fun | 219 => 182 | 217 => 191 | 225 => 192 | 224 => 193 | 267 => 194 | 266 => 198 | 314 => 199 | n => n, fun | 9 => 9 | 3 => 3 | 4 => 4 | 5 => 5 | 46 => 246 | 146 => 335 | 51 => 192 | n => n, fun | 1 => 3 | n => n⟩
theorem Tryz.lays219 : Go.Proofs.Lays.n219 Tryz.prog Tryz.lays219_ren := {
  mixed := by kernel_rfl
  f217 := Tryz.func191.trans (congrArg some (by kernel_rfl))
  f219 := Tryz.func182.trans (congrArg some (by kernel_rfl))
  f224 := Tryz.func193.trans (congrArg some (by kernel_rfl))
  f225 := Tryz.func192.trans (congrArg some (by kernel_rfl))
  f266 := Tryz.func198.trans (congrArg some (by kernel_rfl))
  f267 := Tryz.func194.trans (congrArg some (by kernel_rfl))
  f314 := Tryz.func199.trans (congrArg some (by kernel_rfl))
  t3 := Tryz.underlying3
  a3 := Tryz.isAgg3
  z3 := Tryz.sizeOf3
  v3 := Tryz.zeroValue3
  t4 := Tryz.underlying4
  a4 := Tryz.isAgg4
  z4 := Tryz.sizeOf4
  v4 := Tryz.zeroValue4
  t5 := Tryz.underlying5
  a5 := Tryz.isAgg5
  z5 := Tryz.sizeOf5
  v5 := Tryz.zeroValue5
  t9 := Tryz.underlying9
  a9 := Tryz.isAgg9
  z9 := Tryz.sizeOf9
  v9 := Tryz.zeroValue9
  t46 := Tryz.underlying246
  a46 := Tryz.isAgg246
  z46 := Tryz.sizeOf246
  v46 := Tryz.zeroValue246
  t51 := Tryz.underlying192
  a51 := Tryz.isAgg192
  z51 := Tryz.sizeOf192
  v51 := Tryz.zeroValue192
  t146 := Tryz.underlying335
  a146 := Tryz.isAgg335
  z146 := Tryz.sizeOf335
  v146 := Tryz.zeroValue335
  g1 := by kernel_rfl }
open Go.RowKit Go.Lib in
theorem Tryz.stringslite_Index_one (s : ByteArray) (c : UInt8) (w : World) :
    Calls Tryz.prog 182 #[.string s, .string ⟨#[c]⟩] w fun e w' => e = .returned (.int .i64 (Lib.indexByte s.data.toList c)) ∧ w' = w := Any.stringslite_Index_one Tryz.lays219 s c w
def Tryz.lays206_ren : Go.Shelf.Ren := ⟨fun | 206 => 126 | n => n, fun | 9 => 9 | 4 => 4 | 3 => 3 | n => n, fun | n => n⟩
def Tryz.lays99_ren : Go.Shelf.Ren := ⟨fun | 99 => 80 | 206 => 126 | n => n, fun | 9 => 9 | 4 => 4 | 3 => 3 | n => n, fun | n => n⟩
theorem Tryz.lays99 : Go.Proofs.Lays.n99 Tryz.prog Tryz.lays99_ren := {
  mixed := by kernel_rfl
  f99 := Tryz.func80.trans (congrArg some (by kernel_rfl))
  f206 := Tryz.func126.trans (congrArg some (by kernel_rfl))
  t3 := Tryz.underlying3
  a3 := Tryz.isAgg3
  z3 := Tryz.sizeOf3
  v3 := Tryz.zeroValue3
  t4 := Tryz.underlying4
  a4 := Tryz.isAgg4
  z4 := Tryz.sizeOf4
  v4 := Tryz.zeroValue4
  t9 := Tryz.underlying9
  a9 := Tryz.isAgg9
  z9 := Tryz.sizeOf9
  v9 := Tryz.zeroValue9 }
open Go.RowKit Go.Lib in
theorem Tryz.strings_HasPrefix (s p : ByteArray) (w : World) :
    Calls Tryz.prog 80 #[.string s, .string p] w fun e w' => e = .returned (.bool (Lib.hasPrefix s.data.toList p.data.toList)) ∧ w' = w := Any.strings_HasPrefix Tryz.lays99 s p w
end Go.Proofs
/- strconv.ParseUint to the base 16. -/
namespace Go.Proofs.YtjbkpcdpdifpnaaGreatDoor
open Go Go.RowKit Go.Kt Go.Kt.Rg

theorem or_32 : ∀ c, c < 256 → bits .or .u8 ((c : Nat) : Int) 32 = ((c ||| 32 : Nat) : Int) := by decide +kernel
theorem or_ge : ∀ c, c < 256 → c ≤ c ||| 32 := by decide +kernel
theorem or_bd : ∀ c, c < 256 → c ||| 32 < 256 := by decide +kernel
theorem or_dig : ∀ c, c < 256 → 97 ≤ c ||| 32 → c ||| 32 ≤ 122 → 57 < c ∧ c ≠ 95 := by decide +kernel
def PuOut (T : TypeId) (K : Value → Prop) (o : Option Nat) (e : Ending) : Prop :=
  match o with
  | some n => e = .returned (.tuple #[.int .u64 (n : Nat), .nilIface])
  | none => ∃ (z : Int) (k : Value), e = .returned (.tuple #[.int .u64 z, .iface T k]) ∧ K k
theorem PuOut.yes {T : TypeId} {K : Value → Prop} {o : Option Nat} {n : Nat} (h : o = some n) : PuOut T K o (.returned (.tuple #[.int .u64 (n : Nat), .nilIface])) := by subst h; rfl
theorem PuOut.no {T : TypeId} {K : Value → Prop} {o : Option Nat} (z : Int) {k : Value} (h : o = none) (hk : K k) : PuOut T K o (.returned (.tuple #[.int .u64 z, .iface T k])) := by subst h; exact ⟨z, k, rfl, hk⟩
def PuErr (k : Value) : Prop := k = .int .i64 1 ∨ k = .int .i64 2
theorem puF_some {mx n d : Nat} {c : UInt8} {t : List UInt8} (h : digV c.toNat = some d) (h1 : d < 16) (h2 : n * 16 + d ≤ mx) : puF mx n (c :: t) = puF mx (n * 16 + d) t := by
  rw [puF, h]; simp only; rw [if_neg (by omega), if_neg (by omega)]
theorem puF_over {mx n d : Nat} {c : UInt8} {t : List UInt8} (h : digV c.toNat = some d) (h1 : d < 16) (h2 : mx < n * 16 + d) : puF mx n (c :: t) = none := by
  rw [puF, h]; simp only; rw [if_neg (by omega), if_pos h2]
theorem puF_big {mx n d : Nat} {c : UInt8} {t : List UInt8} (h : digV c.toNat = some d) (h1 : 16 ≤ d) : puF mx n (c :: t) = none := by
  rw [puF, h]; simp only; rw [if_pos h1]
theorem puF_bad {mx n : Nat} {c : UInt8} {t : List UInt8} (h : digV c.toNat = none) : puF mx n (c :: t) = none := by
  rw [puF, h]
theorem digV_dig {c : Nat} (h1 : 48 ≤ c) (h2 : c ≤ 57) : digV c = some (c - 48) := by unfold digV; rw [if_pos ⟨h1, h2⟩]
theorem digV_let {c : Nat} (h : 57 < c) (h1 : 97 ≤ c ||| 32) (h2 : c ||| 32 ≤ 122) : digV c = some ((c ||| 32) - 87) := by unfold digV; rw [if_neg (by omega), if_pos ⟨h1, h2⟩]
theorem digV_no {c : Nat} (h : ¬ (48 ≤ c ∧ c ≤ 57)) (h1 : ¬ (97 ≤ c ||| 32 ∧ c ||| 32 ≤ 122)) : digV c = none := by unfold digV; rw [if_neg h, if_neg h1]

end Go.Proofs.YtjbkpcdpdifpnaaGreatDoor
/- strconv.ParseUint to the base 16, of 21 bits. -/
namespace Go.Proofs.YtjbkpcdpdifpnaaGreatDoor
open Go Go.RowKit Go.Kt Go.Kt.Rg

set_option maxRecDepth 100000 in
set_option maxHeartbeats 8000000 in
theorem ipu21_any (s : ByteArray) (w : World) (hs : s.size ≤ 281474976710656) :
    Calls Tryz.prog 175 #[.string s, .int .i64 16, .int .i64 21] w fun e w' => PuOut 323 PuErr (puV 2097151 s.data.toList) e ∧ Below w.heap.size w w' := by
  obtain ⟨l, hl⟩ : ∃ l, s.data.toList = l := ⟨_, rfl⟩
  have hln : l.length = s.size := by rw [← hl]; exact (Lib.size_eq s).symm
  rw [hl]
  by_cases h0 : s.size = 0
  · have hn : l = [] := List.eq_nil_of_length_eq_zero (by omega)
    have hsn : s.toList = [] := by
      have : s.toList.length = 0 := by rw [ByteArray.toList_eq, hl, hn]; rfl
      exact List.eq_nil_of_length_eq_zero this
    have hsn2 : (!s.toList.isEmpty) = false := by rw [hsn]; rfl
    have HF : Hid (PuOut 323 PuErr (puV 2097151 l) (.returned (.tuple #[.int .u64 0, .iface 323 (.int .i64 2)])) ∧ Below w.heap.size w w) := Lib.hid ⟨.no 0 (by rw [hn]; rfl) (.inr rfl), Below.refl _ _⟩
    clear hn hl hln h0
    go_enter Tryz.func175, Tryz.ntmps175
    go_wp2
    go_ret2
    exact HF.out
  · have hemp : s.toList.isEmpty = false := by
      cases h : s.toList with
      | nil => rw [ByteArray.toList_eq, hl] at h; rw [h] at hln; exact absurd hln.symm h0
      | cons => rfl
    have hcv := Lib.run_convert_string_bytes (P := Tryz.prog) w 9 34 5 s (u := .string) Tryz.underlying9 Tryz.underlying34 Tryz.underlying5
    have hB : ∀ j, j < s.size → (Lib.bytesWorld w 5 s).cell? ⟨w.heap.size, j, none⟩ = some (.int .u8 (s.data.toList.getD j 0).toNat) := fun j hj => Lib.bytesWorld_cell w 5 s j hj
    have hBel : Below w.heap.size w (Lib.bytesWorld w 5 s) := Lib.bytesWorld_below w _ s
    obtain ⟨W1, hW1⟩ : ∃ W1, Lib.bytesWorld w 5 s = W1 := ⟨_, rfl⟩
    rw [hW1] at hcv hB hBel
    rw [hl] at hB
    have HB := Lib.hid hB
    have HBel := Lib.hid hBel
    obtain ⟨n, hn⟩ : ∃ n, s.size = n := ⟨_, rfl⟩
    rw [hn] at hs h0 hcv hln HB
    have HLN := Lib.hid hln
    have hV : Hid (puV 2097151 l = puF 2097151 0 l) := Lib.hid (by unfold puV; rw [if_neg]; intro e; rw [e] at hln; exact h0 hln.symm)
    clear hW1 hB hBel hl hln
    go_enter Tryz.func175, Tryz.ntmps175
    go_wp2
    go_loop [12, 13, 101] (fun vu vn vi => ∃ (k acc : Nat) (a : Int), vu = .bool false ∧ vn = .int .u64 a ∧ vi = .int .i64 k ∧ k ≤ n ∧ Hid (a = (acc : Int) ∧ acc ≤ 2097151 ∧ puF 2097151 acc (l.drop k) = puF 2097151 0 l)) (fun _ _ vi => n - (RowKit.intOf vi).toNat)
    case atStart => exact ⟨0, 0, 0, rfl, rfl, rfl, by omega, Lib.hid ⟨rfl, by omega, rfl⟩⟩
    case round =>
      obtain ⟨k, acc, a, rfl, rfl, rfl, hk, hh⟩ := hrel
      have a0 : 0 ≤ a := by have := hh.out.1; omega
      have a1 : a ≤ 2097151 := by have := hh.out; omega
      by_cases hkn : k < n
      · have hkn' : (k : Int) < n := by omega
        have hc := HB.out k hkn
        have hdrop : l.drop k = l[k]'(by rw [HLN.out]; exact hkn) :: l.drop (k + 1) := List.drop_eq_getElem_cons (by rw [HLN.out]; exact hkn)
        have hget : l.getD k 0 = l[k]'(by rw [HLN.out]; exact hkn) := by simp [List.getD, List.getElem?_eq_getElem (show k < l.length by rw [HLN.out]; exact hkn)]
        rw [hget] at hc
        generalize l[k]'(by rw [HLN.out]; exact hkn) = c at hc hdrop
        have HD := Lib.hid hdrop
        have hc256 : c.toNat < 256 := c.toNat_lt
        have q1 := or_32 c.toNat hc256
        have q2 := or_ge c.toNat hc256
        have q3 := or_bd c.toNat hc256
        have q4 := or_dig c.toNat hc256
        have e1 := @digV_dig c.toNat
        have e2 := @digV_let c.toNat
        have e3 := @digV_no c.toNat
        obtain ⟨L, hL⟩ : ∃ L, c.toNat ||| 32 = L := ⟨_, rfl⟩
        rw [hL] at q1 q2 q3 q4 e2 e3
        have FIN : ∀ d, digV c.toNat = some d → d < 16 → acc * 16 + d ≤ 2097151 → Hid (puF 2097151 (acc * 16 + d) (l.drop (k + 1)) = puF 2097151 0 l) := fun d h1 h2 h3 => Lib.hid (by rw [← hh.out.2.2, HD.out, puF_some h1 h2 h3])
        have OVR : ∀ d, digV c.toNat = some d → d < 16 → 2097151 < acc * 16 + d → Hid (puV 2097151 l = none) := fun d h1 h2 h3 => Lib.hid (by rw [hV.out, ← hh.out.2.2, HD.out, puF_over h1 h2 h3])
        have BIG : ∀ d, digV c.toNat = some d → 16 ≤ d → Hid (puV 2097151 l = none) := fun d h1 h2 => Lib.hid (by rw [hV.out, ← hh.out.2.2, HD.out, puF_big h1 h2])
        have BAD : digV c.toNat = none → Hid (puV 2097151 l = none) := fun h1 => Lib.hid (by rw [hV.out, ← hh.out.2.2, HD.out, puF_bad h1])
        have hacc := hh.out.1
        generalize c.toNat = cn at *
        clear hdrop hget hL
        by_cases hdig : 48 ≤ cn ∧ cn ≤ 57
        · obtain ⟨hd0, hd1⟩ := hdig
          have hdv := e1 hd0 hd1
          have i0 : (48 : Int) ≤ cn := by omega
          have i1 : (cn : Int) ≤ 57 := by omega
          by_cases hov : 2097151 < acc * 16 + (cn - 48)
          · have HF := OVR _ hdv (by omega) hov
            have iov : (2097151 : Int) < a * 16 + ((cn : Int) - 48) := by omega
            clear FIN OVR BIG BAD hdv e1 e2 e3 q1 q2 q3 q4 hacc hov hd0 hd1
            go_wp2
            go_ret2
            exact ⟨.no _ HF.out (.inl rfl), HBel.out⟩
          · have HF := FIN _ hdv (by omega) (by omega)
            have iov : a * 16 + ((cn : Int) - 48) ≤ 2097151 := by omega
            have HA : Hid (a * 16 + ((cn : Int) - 48) = ((acc * 16 + (cn - 48) : Nat) : Int) ∧ acc * 16 + (cn - 48) ≤ 2097151) := Lib.hid ⟨by omega, by omega⟩
            clear FIN OVR BIG BAD hdv e1 e2 e3 q1 q2 q3 q4 hacc hov hd0 hd1
            go_wp2
            go_round
            case rel => exact ⟨k + 1, acc * 16 + (cn - 48), a * 16 + ((cn : Int) - 48), rfl, rfl, by go_num, by omega, Lib.hid ⟨HA.out.1, HA.out.2, HF.out⟩⟩
            case measure => simp [RowKit.intOf]; omega
        · by_cases hlet : 97 ≤ L ∧ L ≤ 122
          · obtain ⟨hd0, hd1⟩ := hlet
            obtain ⟨g1, g2⟩ := q4 hd0 hd1
            have hdv := e2 g1 hd0 hd1
            have i0 : (97 : Int) ≤ L := by omega
            have i1 : (L : Int) ≤ 122 := by omega
            have i2 : (57 : Int) < cn := by omega
            have i3 : ((cn : Int) == 95) = false := by rw [beq_eq_false_iff_ne]; omega
            by_cases hbig : 102 < L
            · have HF := BIG _ hdv (by omega)
              have i4 : (102 : Int) < L := by omega
              clear FIN OVR BIG BAD hdv e1 e2 e3 q2 q3 q4 hacc hd0 hd1 g1 g2 hdig hbig
              go_wp2_with (go_at_call 183; refine (Tryz.internal_strconv_lower _ _).mono ?_; rintro e w' ⟨rfl, rfl⟩)
              go_ret2
              exact ⟨.no _ HF.out (.inr rfl), HBel.out⟩
            · have i4 : (L : Int) ≤ 102 := by omega
              by_cases hov : 2097151 < acc * 16 + (L - 87)
              · have HF := OVR _ hdv (by omega) hov
                have iov : (2097151 : Int) < a * 16 + ((L : Int) - 97 + 10) := by omega
                clear FIN OVR BIG BAD hdv e1 e2 e3 q2 q3 q4 hacc hov hd0 hd1 g1 g2 hdig hbig
                go_wp2_with (go_at_call 183; refine (Tryz.internal_strconv_lower _ _).mono ?_; rintro e w' ⟨rfl, rfl⟩)
                go_ret2
                exact ⟨.no _ HF.out (.inl rfl), HBel.out⟩
              · have HF := FIN _ hdv (by omega) (by omega)
                have iov : a * 16 + ((L : Int) - 97 + 10) ≤ 2097151 := by omega
                have HA : Hid (a * 16 + ((L : Int) - 97 + 10) = ((acc * 16 + (L - 87) : Nat) : Int) ∧ acc * 16 + (L - 87) ≤ 2097151) := Lib.hid ⟨by omega, by omega⟩
                clear FIN OVR BIG BAD hdv e1 e2 e3 q2 q3 q4 hacc hov hd0 hd1 g1 g2 hdig hbig
                go_wp2_with (go_at_call 183; refine (Tryz.internal_strconv_lower _ _).mono ?_; rintro e w' ⟨rfl, rfl⟩)
                go_round
                case rel => exact ⟨k + 1, acc * 16 + (L - 87), a * 16 + ((L : Int) - 97 + 10), rfl, rfl, by go_num, by omega, Lib.hid ⟨HA.out.1, HA.out.2, HF.out⟩⟩
                case measure => simp [RowKit.intOf]; omega
          · have HF := BAD (e3 hdig hlet)
            have u0 : (cn : Int) < 48 ∨ (57 : Int) < cn := by omega
            have u1 : (L : Int) < 97 ∨ (122 : Int) < L := by omega
            have hb0 : 0 ≤ (L : Int) := by omega
            have hb1 : (L : Int) < 256 := by omega
            clear FIN OVR BIG BAD e1 e2 e3 q2 q3 q4 hacc hdig hlet
            rcases u0 with u0 | u0
            all_goals rcases u1 with u1 | u1
            all_goals
              go_wp2_with (go_at_call 183; refine (Tryz.internal_strconv_lower _ _).mono ?_; rintro e w' ⟨rfl, rfl⟩)
            all_goals go_ret2
            all_goals exact ⟨.no _ HF.out (.inr rfl), HBel.out⟩
      · have hkn' : ¬ (k : Int) < n := by omega
        obtain rfl : k = n := by omega
        have HF : Hid (puV 2097151 l = some acc) := Lib.hid (by rw [hV.out, ← hh.out.2.2, List.drop_eq_nil_of_le (by rw [HLN.out]; exact Nat.le_refl _)]; rfl)
        have HA := hh.out.1
        subst HA
        go_wp2
        go_ret2
        exact ⟨.yes HF.out, HBel.out⟩
end Go.Proofs.YtjbkpcdpdifpnaaGreatDoor
