/- Hexadecimal digits read, a point, a span, a set read: mathematics. -/
import Derived.Test.YtmcmdijfdhlnaaaDoorY2
namespace Go.Proofs.YtmcmdijfdhlnaaaDoor
open Go Go.RowKit Go.Kt Go.Kt.Rg

/-- What a digit is worth, to whatever base. -/
def digV (c : Nat) : Option Nat := if 48 ≤ c ∧ c ≤ 57 then some (c - 48) else if 97 ≤ (c ||| 32) ∧ (c ||| 32) ≤ 122 then some ((c ||| 32) - 87) else none
def puF (mx : Nat) : Nat → List UInt8 → Option Nat
  | n, [] => some n
  | n, c :: t => match digV c.toNat with
    | none => none
    | some d => if 16 ≤ d then none else if mx < n * 16 + d then none else puF mx (n * 16 + d) t
def puV (mx : Nat) (l : List UInt8) : Option Nat := if l = [] then none else puF mx 0 l
theorem puF_append (mx : Nat) : ∀ (a b : List UInt8) (n : Nat), puF mx n (a ++ b) = (puF mx n a).bind fun m => puF mx m b
  | [], b, n => rfl
  | c :: t, b, n => by
    simp only [List.cons_append, puF]
    cases digV c.toNat with
    | none => rfl
    | some d =>
      simp only
      by_cases h1 : 16 ≤ d
      · simp [h1]
      · by_cases h2 : mx < n * 16 + d
        · simp [h1, h2]
        · simp only [h1, h2, if_false]
          exact puF_append mx t b _
theorem digV_hex : ∀ d, d < 16 → digV (hexD d).toNat = some d := by decide
theorem hexD_ne : ∀ d, d < 16 → hexD d ≠ 125 ∧ hexD d ≠ 45 := by decide
theorem puF_hexF (mx : Nat) : ∀ (f u : Nat), u < 16 ^ (f + 1) → u ≤ mx → puF mx 0 (hexF f u) = some u
  | 0, u, h, hm => by
    have hu : u < 16 := by simpa using h
    have := digV_hex u hu
    simp only [hexF, Nat.mod_eq_of_lt hu, puF, this]
    rw [if_neg (by omega), if_neg (by omega)]
    simp
  | f + 1, u, h, hm => by
    unfold hexF
    by_cases h16 : u < 16
    · have := digV_hex u h16
      rw [if_pos h16]
      simp only [puF, this]
      rw [if_neg (by omega), if_neg (by omega)]
      simp
    · have hd : u / 16 < 16 ^ (f + 1) := by
        have : u < 16 ^ (f + 1) * 16 := by rw [← Nat.pow_succ]; exact h
        omega
      have h2 := digV_hex (u % 16) (Nat.mod_lt _ (by decide))
      rw [if_neg h16, puF_append, puF_hexF mx f (u / 16) hd (by omega)]
      simp only [Option.bind_some, puF, h2]
      rw [if_neg (by omega), if_neg (by omega)]
      congr 1
      omega
theorem hexF_ne : ∀ (f u : Nat), hexF f u ≠ []
  | 0, u => by simp [hexF]
  | f + 1, u => by unfold hexF; split <;> simp
theorem puV_hex (mx u : Nat) (h : u < 68719476736) (hm : u ≤ mx) : puV mx (hexL u) = some u := by
  unfold puV hexL
  rw [if_neg (hexF_ne 8 u)]
  exact puF_hexF mx 8 u (by simpa using h) hm
theorem hexF_clean : ∀ (f u : Nat), ∀ c ∈ hexF f u, c ≠ 125 ∧ c ≠ 45
  | 0, u, c, h => by
    simp only [hexF, List.mem_singleton] at h
    subst h; exact hexD_ne _ (Nat.mod_lt _ (by decide))
  | f + 1, u, c, h => by
    unfold hexF at h
    split at h
    · simp only [List.mem_singleton] at h
      subst h; exact hexD_ne _ (by omega)
    · rcases List.mem_append.1 h with h | h
      · exact hexF_clean f _ c h
      · simp only [List.mem_singleton] at h
        subst h; exact hexD_ne _ (Nat.mod_lt _ (by decide))
theorem puF_bd (mx : Nat) : ∀ (l : List UInt8) (n m : Nat), n ≤ mx → puF mx n l = some m → m ≤ mx
  | [], n, m, h, e => by simp only [puF, Option.some.injEq] at e; omega
  | c :: t, n, m, h, e => by
    simp only [puF] at e
    cases hd : digV c.toNat with
    | none => rw [hd] at e; cases e
    | some d =>
      rw [hd] at e
      simp only at e
      by_cases h1 : 16 ≤ d
      · rw [if_pos h1] at e; cases e
      · rw [if_neg h1] at e
        by_cases h2 : mx < n * 16 + d
        · rw [if_pos h2] at e; cases e
        · rw [if_neg h2] at e
          exact puF_bd mx t _ m (by omega) e
theorem puV_bd {mx m : Nat} {l : List UInt8} (e : puV mx l = some m) : m ≤ mx := by
  unfold puV at e
  split at e
  · cases e
  · exact puF_bd mx l 0 m (Nat.zero_le _) e

/-- What stands ahead of the first }, or all. -/
def upB (l : List UInt8) : List UInt8 := l.takeWhile (· != 125)
theorem upB_at (a b : List UInt8) (h : ∀ c ∈ a, c ≠ 125) : upB (a ++ 125 :: b) = a := by
  induction a with
  | nil => simp [upB]
  | cons x t ih =>
    have hx := h x (.head _)
    simp only [upB, List.cons_append, List.takeWhile_cons] at ih ⊢
    rw [if_pos (by simpa using hx)]
    rw [ih fun c hc => h c (.tail _ hc)]
/-- The point that a text may begin with. -/
def sptD (l : List UInt8) : Int × List UInt8 :=
  if [92, 117, 123].isPrefixOf l then (0, upB (l.drop 3)) else if [92, 120].isPrefixOf l then (1114112, (l.drop 2).take 2) else (0, [])
def sptR (l : List UInt8) : Int := match puV 2097151 (sptD l).2 with | none => -1 | some n => (sptD l).1 + (n : Int)
theorem sptD_bd (l : List UInt8) : (sptD l).1 = 0 ∨ (sptD l).1 = 1114112 := by
  unfold sptD
  split
  · exact .inl rfl
  · split
    · exact .inr rfl
    · exact .inl rfl
theorem sptR_bd (l : List UInt8) : -1 ≤ sptR l ∧ sptR l ≤ 3211263 := by
  unfold sptR
  have hb := sptD_bd l
  cases h : puV 2097151 (sptD l).2 with
  | none => simp
  | some n =>
    have := puV_bd h
    simp only
    omega
theorem num_true {r : Int} (h : (numB r).2 = true) : pntI (numB r).1 = r ∧ 0 ≤ r ∧ r ≤ 1114367 ∧ (1114111 < r → 1114240 ≤ r) := by
  unfold numB at h ⊢
  by_cases c1 : r < 0
  · rw [if_pos c1] at h; cases h
  rw [if_neg c1] at h ⊢
  by_cases c2 : r ≤ 55295
  · rw [if_pos c2]; unfold pntI; simp only; exact ⟨by rw [if_pos (by omega)], by omega, by omega, by omega⟩
  rw [if_neg c2] at h ⊢
  by_cases c3 : r < 57344
  · rw [if_pos c3] at h; cases h
  rw [if_neg c3] at h ⊢
  by_cases c4 : r ≤ 1114111
  · rw [if_pos c4]; unfold pntI; simp only; exact ⟨by rw [if_neg (by omega), if_pos (by omega)]; omega, by omega, by omega, by omega⟩
  rw [if_neg c4] at h ⊢
  by_cases c5 : r < 1114240
  · rw [if_pos c5] at h; cases h
  rw [if_neg c5] at h ⊢
  by_cases c6 : r ≤ 1114367
  · rw [if_pos c6]; unfold pntI; simp only; exact ⟨by rw [if_neg (by omega), if_neg (by omega), if_pos (by omega)]; omega, by omega, by omega, by omega⟩
  rw [if_neg c6] at h; cases h
theorem hex_two : ∀ u, u < 256 → 16 ≤ u → (hexL u).length = 2 := by decide +kernel
theorem sptR_print {r : Int} (h : (numB r).2 = true) (rest : List UInt8) : sptR (printP r ++ rest) = r := by
  obtain ⟨_, h0, h1, h2⟩ := num_true h
  unfold printP
  split
  · rename_i hr
    obtain ⟨u, hu⟩ : ∃ u : Nat, r - 1114112 = u := ⟨(r - 1114112).toNat, by omega⟩
    have h2' := h2 hr
    have hl := hex_two u (by omega) (by omega)
    have e : sptD ([92, 120] ++ hexL u ++ rest) = (1114112, hexL u) := by
      unfold sptD
      rw [if_neg (by simp [List.isPrefixOf]), if_pos (by simp [List.isPrefixOf])]
      simp only [List.append_assoc, List.cons_append, List.nil_append, List.drop_succ_cons, List.drop_zero]
      rw [List.take_append_of_le_length (by omega), List.take_of_length_le (by omega)]
    rw [hu, Int.toNat_natCast]
    unfold sptR
    rw [e]
    simp only
    rw [puV_hex _ _ (by omega) (by omega)]
    simp only
    omega
  · rename_i hr
    obtain ⟨u, hu⟩ : ∃ u : Nat, r = u := ⟨r.toNat, by omega⟩
    subst hu
    have e : sptD ([92, 117, 123] ++ hexL u ++ [125] ++ rest) = (0, hexL u) := by
      unfold sptD
      rw [if_pos (by simp [List.isPrefixOf])]
      simp only [List.append_assoc, List.cons_append, List.nil_append, List.drop_succ_cons, List.drop_zero]
      show (0, upB (hexF 8 u ++ 125 :: rest)) = (0, hexF 8 u)
      rw [upB_at _ _ fun c hc => (hexF_clean 8 u c hc).1]
    rw [Int.toNat_natCast]
    unfold sptR
    rw [e]
    simp only
    rw [puV_hex _ _ (by omega) (by omega)]
    simp only
    omega

/-- The point at the head of a text: its number, and how many bytes it has. -/
def ptAt (l : List UInt8) : Option (Int × Nat) := if (numB (sptR l)).2 && (printP (sptR l)).isPrefixOf l then some ((numB (sptR l)).1, (printP (sptR l)).length) else none
theorem ptAt_print {n : Int} (h0 : 0 ≤ n) (h1 : n < allN) (rest : List UInt8) : ptAt (printP (pntI n) ++ rest) = some (n, (printP (pntI n)).length) := by
  have hn := num_pnt h0 h1
  have e := sptR_print (r := pntI n) (by rw [hn]) rest
  unfold ptAt
  rw [e, hn, if_pos]
  rw [Bool.true_and]
  exact List.isPrefixOf_iff_prefix.2 ⟨rest, rfl⟩
theorem ptAt_sound {l : List UInt8} {n : Int} {k : Nat} (h : ptAt l = some (n, k)) : 0 ≤ n ∧ n < allN ∧ k = (printP (pntI n)).length ∧ ∃ rest, l = printP (pntI n) ++ rest := by
  unfold ptAt at h
  split at h
  · rename_i hc
    rw [Bool.and_eq_true] at hc
    obtain ⟨t, ht⟩ := List.isPrefixOf_iff_prefix.1 hc.2
    have e := num_true hc.1
    have hb := numB_bd (sptR l)
    simp only [Option.some.injEq, Prod.mk.injEq] at h
    obtain ⟨rfl, rfl⟩ := h
    rw [e.1]
    exact ⟨hb.1, hb.2, rfl, t, ht.symm⟩
  · cases h
theorem printP_ne (r : Int) : printP r ≠ [] := by unfold printP; split <;> simp
theorem printP_pos (r : Int) : 0 < (printP r).length := by
  rcases Nat.eq_zero_or_pos (printP r).length with h | h
  · exact absurd (List.eq_nil_of_length_eq_zero h) (printP_ne r)
  · exact h

/-- The span at a byte: it, and the byte behind it; or the error's number, and its byte. -/
def spAt (s : List UInt8) (p : Nat) : Except (Int × Nat) (Run × Nat) :=
  match ptAt (s.drop p) with
  | none => .error (9, p)
  | some (lo, k) => if s[p + k]? = some 45 then match ptAt (s.drop (p + k + 1)) with
      | none => .error (9, p + k + 1)
      | some (hi, k2) => if hi ≤ lo then .error (4, p) else .ok ((lo, hi + 1), p + k + 1 + k2)
    else .ok ((lo, lo + 1), p + k)
/-- Does a run lie above all of a list's, without touching? -/
def aboveB (l : List Run) (x : Run) : Bool := match l.getLast? with | none => true | some y => decide (y.2 < x.1)
/-- A set read from a byte on, behind the runs that were read. -/
def prF : Nat → List UInt8 → Nat → List Run → Except (Int × Nat) (List Run)
  | 0, _, p, _ => .error (25, p)
  | f + 1, s, p, l =>
    if s.length ≤ p then .error (25, p)
    else if s[p]? = some 93 then (if p + 1 < s.length then .error (3, p + 1) else .ok l)
    else match spAt s p with
      | .error e => .error e
      | .ok (x, q) => if aboveB l x then prF f s q (l ++ [x]) else .error (4, p)
def prL (s : List UInt8) : Except (Int × Nat) (List Run) := if [91].isPrefixOf s then prF s.length s 1 [] else .error (25, 0)

theorem spAt_sound {s : List UInt8} {p q : Nat} {x : Run} (h : spAt s p = .ok (x, q)) : 0 ≤ x.1 ∧ x.1 < x.2 ∧ x.2 ≤ allN ∧ p < q ∧ q ≤ s.length ∧ s.take q = s.take p ++ printS (spanP x) ∧ p ≤ s.length := by
  unfold spAt at h
  have key : ∀ (p : Nat) (t r : List UInt8), s.drop p = t ++ r → t ≠ [] → p + t.length ≤ s.length ∧ s.take (p + t.length) = s.take p ++ t := by
    intro p t r e ht
    have hl : (s.drop p).length = t.length + r.length := by rw [e, List.length_append]
    rw [List.length_drop] at hl
    have : 0 < t.length := by
      cases t with
      | nil => exact absurd rfl ht
      | cons => simp
    refine ⟨by omega, ?_⟩
    rw [List.take_add, e, List.take_append_of_le_length (Nat.le_refl _), List.take_length]
  cases h1 : ptAt (s.drop p) with
  | none => rw [h1] at h; cases h
  | some a =>
    obtain ⟨lo, k⟩ := a
    obtain ⟨l0, l1, rfl, t1, e1⟩ := ptAt_sound h1
    obtain ⟨k1, k2⟩ := key p _ _ e1 (printP_ne _)
    have kp := printP_pos (pntI lo)
    rw [h1] at h
    simp only at h
    by_cases hc : s[p + (printP (pntI lo)).length]? = some 45
    · rw [if_pos hc] at h
      cases h2 : ptAt (s.drop (p + (printP (pntI lo)).length + 1)) with
      | none => rw [h2] at h; cases h
      | some b =>
        obtain ⟨hi, m⟩ := b
        obtain ⟨m0, m1, rfl, t2, e2⟩ := ptAt_sound h2
        obtain ⟨j1, j2⟩ := key _ _ _ e2 (printP_ne _)
        rw [h2] at h
        simp only at h
        by_cases hlo : hi ≤ lo
        · rw [if_pos hlo] at h; cases h
        · rw [if_neg hlo] at h
          simp only [Except.ok.injEq, Prod.mk.injEq] at h
          obtain ⟨rfl, rfl⟩ := h
          refine ⟨l0, by simp only; omega, by simp only; omega, by omega, j1, ?_, by omega⟩
          rw [j2, List.take_add_one, hc, k2]
          have hne : pntI hi ≠ pntI lo := by
            intro e
            have a1 := num_pnt l0 l1
            have a2 := num_pnt m0 m1
            rw [e, a1] at a2
            injection a2; omega
          simp only [printS, spanP, Int.add_sub_cancel]
          rw [if_neg hne]
          simp
    · rw [if_neg hc] at h
      simp only [Except.ok.injEq, Prod.mk.injEq] at h
      obtain ⟨rfl, rfl⟩ := h
      refine ⟨l0, by simp only; omega, by simp only; omega, by omega, k1, ?_, by omega⟩
      rw [k2]
      simp only [printS, spanP, Int.add_sub_cancel]
      simp
theorem spans_snoc (l : List Run) (x : Run) : printL (spansL (l ++ [x])) = printL (spansL l) ++ printS (spanP x) := by
  rw [spansL, List.map_append, List.map_singleton, printL_snoc]; rfl
theorem canon_snoc : ∀ {l : List Run} {lo : Int} {x : Run}, CanonFrom lo l → lo < x.1 → 0 ≤ x.1 → x.1 < x.2 → x.2 ≤ allN → aboveB l x = true → CanonFrom lo (l ++ [x])
  | [], lo, x, _, h1, _, h2, h3, _ => ⟨h1, h2, h3, trivial⟩
  | y :: t, lo, x, h, h1, h0, h2, h3, ha => by
    refine ⟨h.1, h.2.1, h.2.2.1, canon_snoc h.2.2.2 ?_ h0 h2 h3 ?_⟩
    · unfold aboveB at ha
      cases hl : (y :: t).getLast? with
      | none => simp at hl
      | some z =>
        rw [hl] at ha
        have hz : z ∈ y :: t := List.mem_of_getLast? hl
        simp only [decide_eq_true_eq] at ha
        rcases List.mem_cons.1 hz with rfl | hz
        · exact ha
        · have := canon_mem h.2.2.2 z hz; omega
    · unfold aboveB at ha ⊢
      cases t with
      | nil => simp
      | cons a b => rw [List.getLast?_cons_cons] at ha; exact ha
theorem prF_sound : ∀ (f : Nat) (s : List UInt8) (p : Nat) (l R : List Run), Canon l → s.take p = 91 :: printL (spansL l) → prF f s p l = .ok R → Canon R ∧ s = 91 :: printL (spansL R) ++ [93]
  | 0, s, p, l, R, _, _, h => by simp [prF] at h
  | f + 1, s, p, l, R, hl, ht, h => by
    unfold prF at h
    split at h
    · cases h
    · rename_i hp
      split at h
      · rename_i hc
        split at h
        · cases h
        · rename_i hq
          simp only [Except.ok.injEq] at h
          subst h
          refine ⟨hl, ?_⟩
          have e : s.take (p + 1) = s := List.take_of_length_le (by omega)
          rw [List.take_add_one, hc, ht] at e
          exact e.symm
      · cases hs : spAt s p with
        | error e => rw [hs] at h; cases h
        | ok a =>
          obtain ⟨x, q⟩ := a
          rw [hs] at h
          simp only at h
          have hx := spAt_sound hs
          by_cases ha : aboveB l x = true
          · rw [if_pos ha] at h
            exact prF_sound f s q (l ++ [x]) R (canon_snoc hl (by omega) hx.1 hx.2.1 hx.2.2.1 ha) (by rw [spans_snoc, hx.2.2.2.2.2.1, ht]; rfl) h
          · rw [if_neg ha] at h; cases h
theorem prL_sound {s : List UInt8} {R : List Run} (h : prL s = .ok R) : Canon R ∧ s = 91 :: printL (spansL R) ++ [93] := by
  unfold prL at h
  split at h
  · rename_i hp
    refine prF_sound _ s 1 [] R trivial ?_ h
    cases s with
    | nil => simp [List.isPrefixOf] at hp
    | cons c t => simp [List.isPrefixOf] at hp; subst hp; simp [spansL, printL]
  · cases h

theorem spAt_print (s : List UInt8) (p : Nat) (x : Run) (rest : List UInt8) (h0 : 0 ≤ x.1) (h1 : x.1 < x.2) (h2 : x.2 ≤ allN) (hs : s.drop p = printS (spanP x) ++ rest) (hr : rest.head? ≠ some 45) : spAt s p = .ok (x, p + (printS (spanP x)).length) := by
  obtain ⟨x1, x2⟩ := x
  simp only at h0 h1 h2
  unfold printS spanP at hs ⊢
  simp only at hs ⊢
  by_cases he : pntI (x2 - 1) = pntI x1
  · have e2 : x2 = x1 + 1 := by
      have a1 := num_pnt h0 (show x1 < allN by omega)
      have a2 := num_pnt (show 0 ≤ x2 - 1 by omega) (show x2 - 1 < allN by omega)
      rw [he, a1] at a2
      injection a2; omega
    rw [if_pos he, List.append_nil] at hs ⊢
    have hp := ptAt_print h0 (show x1 < allN by omega) rest
    rw [← hs] at hp
    unfold spAt
    rw [hp]
    simp only
    have hn : s[p + (printP (pntI x1)).length]? ≠ some 45 := by
      rw [← List.getElem?_drop, hs, List.getElem?_append_right (Nat.le_refl _), Nat.sub_self, ← List.head?_eq_getElem?]
      exact hr
    rw [if_neg hn, e2]
  · rw [if_neg he] at hs ⊢
    have hp := ptAt_print h0 (show x1 < allN by omega) (45 :: printP (pntI (x2 - 1)) ++ rest)
    rw [← List.append_assoc, ← hs] at hp
    unfold spAt
    rw [hp]
    simp only
    have hn : s[p + (printP (pntI x1)).length]? = some 45 := by
      rw [← List.getElem?_drop, hs, List.append_assoc, List.getElem?_append_right (Nat.le_refl _), Nat.sub_self]; rfl
    rw [if_pos hn]
    have hd : s.drop (p + (printP (pntI x1)).length + 1) = printP (pntI (x2 - 1)) ++ rest := by
      have e := congrArg (List.drop ((printP (pntI x1)).length + 1)) hs
      rw [List.drop_drop, List.append_assoc, List.drop_append] at e
      rw [show p + (printP (pntI x1)).length + 1 = p + ((printP (pntI x1)).length + 1) by omega, e]
      rw [List.drop_of_length_le (by omega), show (printP (pntI x1)).length + 1 - (printP (pntI x1)).length = 1 by omega]
      rfl
    have hq := ptAt_print (show 0 ≤ x2 - 1 by omega) (show x2 - 1 < allN by omega) rest
    rw [← hd] at hq
    rw [hq]
    simp only
    have hlt : ¬ x2 - 1 ≤ x1 := by
      intro h
      have : x2 - 1 = x1 := by omega
      rw [this] at he; exact he rfl
    rw [if_neg hlt]
    simp only [List.length_append, List.length_cons, Except.ok.injEq, Prod.mk.injEq, true_and]
    exact ⟨by omega, by omega⟩
theorem printS_head (x : Int × Int) (r : List UInt8) : (printS x ++ r).head? = some 92 := by
  unfold printS printP
  split <;> split <;> simp
theorem prF_back : ∀ (f : Nat) (s : List UInt8) (p : Nat) (l t : List Run), s.drop p = printL (spansL t) ++ [93] → Canon (l ++ t) → s.length < p + f → p ≤ s.length → prF f s p l = .ok (l ++ t)
  | 0, s, p, l, t, hd, _, hf, hp => by
    have := congrArg List.length hd
    rw [List.length_drop, List.length_append, List.length_singleton] at this
    omega
  | f + 1, s, p, l, [], hd, hc, hf, hp => by
    simp only [spansL, List.map_nil, printL, List.flatMap_nil, List.nil_append] at hd
    have hl := congrArg List.length hd
    rw [List.length_drop, List.length_singleton] at hl
    have h93 : s[p]? = some 93 := by rw [← Nat.add_zero p, ← List.getElem?_drop, hd]; rfl
    unfold prF
    rw [if_neg (by omega), if_pos h93, if_neg (by omega), List.append_nil]
  | f + 1, s, p, l, x :: t, hd, hc, hf, hp => by
    have hx := canon_mem hc x (by simp)
    have hd' : s.drop p = printS (spanP x) ++ (printL (spansL t) ++ [93]) := by
      rw [hd]; simp [spansL, printL, List.flatMap_cons]
    have hlen := congrArg List.length hd'
    rw [List.length_drop, List.length_append, List.length_append, List.length_singleton] at hlen
    have hc92 : s[p]? = some 92 := by
      rw [← Nat.add_zero p, ← List.getElem?_drop, hd', ← List.head?_eq_getElem?]; exact printS_head _ _
    have hhead : (printL (spansL t) ++ [93]).head? ≠ some 45 := by
      cases t with
      | nil => simp [spansL, printL]
      | cons y u =>
        have : printL (spansL (y :: u)) ++ [93] = printS (spanP y) ++ (printL (spansL u) ++ [93]) := by simp [spansL, printL, List.flatMap_cons]
        rw [this, printS_head]; simp
    have hsp := spAt_print s p x _ (by omega) hx.2.1 hx.2.2 hd' hhead
    have hab : aboveB l x = true := by
      unfold aboveB
      cases hg : l.getLast? with
      | none => rfl
      | some y =>
        have hpw := canon_pw hc
        rw [List.pairwise_append] at hpw
        simpa using hpw.2.2 y (List.mem_of_getLast? hg) x (.head _)
    have hpos : 0 < (printS (spanP x)).length := by unfold printS; rw [List.length_append]; have := printP_pos (spanP x).1; omega
    unfold prF
    rw [if_neg (by omega), if_neg (by rw [hc92]; decide), hsp]
    simp only
    rw [if_pos hab]
    have := prF_back f s (p + (printS (spanP x)).length) (l ++ [x]) t (by
      rw [← List.drop_drop, hd', List.drop_append_of_le_length (Nat.le_refl _), List.drop_length, List.nil_append]) (by rw [List.append_assoc]; exact hc) (by omega) (by omega)
    rw [this, List.append_assoc]; rfl
theorem prL_back {R : List Run} (h : Canon R) : prL (91 :: printL (spansL R) ++ [93]) = .ok R := by
  unfold prL
  rw [if_pos (by simp [List.isPrefixOf])]
  exact prF_back _ _ 1 [] R (by simp) h (by omega) (by simp)
end Go.Proofs.YtmcmdijfdhlnaaaDoor
