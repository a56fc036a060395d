/- Parts of the proof of what the last text says. -/
import Derived.Test.YtlfdpdlhppgakaaGreatDoorQj6
import Derived.Test.YtlfdpdlhppgakaaGreatDoorQj2
import Derived.Test.YtlfdpdlhppgakaaGreatDoorQj4
import Derived.Test.YtlfdpdlhppgakaaGreatDoorCards
/- A text that is quoted is read as that text: the scanner's run over quoV. No run in this text. -/
namespace Go.Proofs.YtlfdpdlhppgakaaGreatDoor
open Go Go.RowKit Go.Kt Go.Kt.Rg Go.Shelf Go.Lib

theorem decN_pre {N N' b0 b1 b2 b3 d1 d2 d3 r w : Nat} (h : decodeN N b0 b1 b2 b3 = (r, w)) (hne : ¬ (r = 65533 ∧ w = 1)) (hN : w ≤ N') (h1 : 1 < w → d1 = b1) (h2 : 2 < w → d2 = b2) (h3 : 3 < w → d3 = b3) : decodeN N' b0 d1 d2 d3 = (r, w) := by
  unfold decodeN at h ⊢
  split at h
  · rename_i g; rw [if_pos g]; exact h
  rename_i g0
  rw [if_neg g0]
  split at h
  · rename_i g1
    split at h
    · rename_i g2
      cases h
      have e := h1 (by decide); subst e
      rw [if_pos ⟨g1.1, by omega, g1.2.2⟩, if_pos g2]
    · cases h; exact absurd ⟨rfl, rfl⟩ hne
  split at h
  · rename_i g1 g2
    split at h
    · rename_i g3
      cases h
      have e := h1 (by decide); subst e
      have e := h2 (by decide); subst e
      rw [if_neg (by omega), if_pos ⟨g2.1, ⟨by omega, g2.2.1.2⟩, by omega, g2.2.2.2⟩, if_pos g3]
    · cases h; exact absurd ⟨rfl, rfl⟩ hne
  split at h
  · rename_i g1 g2 g3
    split at h
    · rename_i g4
      cases h
      have e := h1 (by decide); subst e
      have e := h2 (by decide); subst e
      have e := h3 (by decide); subst e
      rw [if_neg (by omega), if_neg (by omega), if_pos ⟨g3.1, ⟨by omega, g3.2.1.2⟩, ⟨by omega, g3.2.2.1.2⟩, by omega, g3.2.2.2.2⟩, if_pos g4]
    · cases h; exact absurd ⟨rfl, rfl⟩ hne
  · cases h; exact absurd ⟨rfl, rfl⟩ hne

section
variable {Q : ByteArray} {p : Nat} {E rest : List UInt8}
theorem drop_len (h : Q.data.toList.drop p = E ++ rest) (hp : p ≤ Q.size) : p + E.length ≤ Q.size := by
  have h1 := congrArg List.length h
  rw [List.length_drop, List.length_append, ← Lib.size_eq] at h1
  omega
theorem B_drop (h : Q.data.toList.drop p = E ++ rest) {j : Nat} (hj : j < E.length) : B Q (p + j) = (E.getD j 0).toNat := by
  unfold B
  have h1 : Q.data.toList[p + j]? = E[j]? := by
    rw [← List.getElem?_drop, h, List.getElem?_append_left hj]
  rw [List.getD_eq_getElem?_getD, h1, List.getD_eq_getElem?_getD]
theorem drop_more (h : Q.data.toList.drop p = E ++ rest) : Q.data.toList.drop (p + E.length) = rest := by
  rw [← List.drop_drop, h, List.drop_left]
theorem seg_drop (h : Q.data.toList.drop p = E ++ rest) : seg Q p (p + E.length) = E := by
  rw [seg_eq, List.drop_take, Nat.add_sub_cancel_left, h, List.take_left]
theorem ext_rest (h : Q.data.toList.drop p = E ++ rest) : (Q.extract p Q.size).data.toList = E ++ rest := by
  have : (Q.extract p Q.size).data.toList = seg Q p Q.size := rfl
  rw [this, seg_eq, List.take_of_length_le (by rw [← Lib.size_eq]; omega), h]
end
theorem dec_lo (Q : ByteArray) (p : Nat) (h : B Q p < 128) : Utf8.decode Q p = (B Q p, 1) := by
  rw [decode_B]; unfold decodeN; rw [if_pos h]

/-- A text that is open at its next piece. -/
structure Bd (p : Nat) (c : Sc) (x : List UInt8) : Prop where
  fr : c.from = (1, 1, 0)
  toks : c.toks = []
  text : c.text = x
  st : c.st = 4 ∨ c.st = 7 ∧ c.behind ≤ p
def okr (r : Int) : Prop := isBlk r = false ∧ (r = 92 ∨ isSgs r = false) ∧ isSgn (encL r) = false
/-- The scanner is ready for a text's next piece. -/
def Rd (Q : ByteArray) (p : Nat) (c : Sc) (x : List UInt8) : Prop :=
  ∃ c1 : Sc, c1.here.2.2 = p ∧ c1.from = (1, 1, 0) ∧ c1.toks = [] ∧ c1.text = x ∧ ∀ r c', okr r → plainS Q c1 r = .took c' → tokenS Q { c with here := plNext Q c.here p } r = .ok c'
theorem Bd.token {p : Nat} {c : Sc} {x : List UInt8} (h : Bd p c x) (Q : ByteArray) (r : Int) : tokenS Q { c with here := plNext Q c.here p } r = textS Q { c with here := plNext Q c.here p } r ∧ pieceS Q { c with here := plNext Q c.here p } r = plainS Q { c with here := plNext Q c.here p } r := by
  have hx := (plNext_ix Q c.here p).1
  rcases h.st with h4 | ⟨h7, hb⟩
  · exact ⟨by unfold tokenS; simp [h4], by unfold pieceS; simp [h4]⟩
  · refine ⟨by unfold tokenS; simp [h7], ?_⟩
    simp [pieceS, escapeS, h7, hx, hb]
theorem Bd.rd {p : Nat} {c : Sc} {x : List UInt8} (h : Bd p c x) (Q : ByteArray) : Rd Q p c x := by
  refine ⟨{ c with here := plNext Q c.here p }, (plNext_ix Q c.here p).1, h.fr, h.toks, h.text, fun r c' _ hp => ?_⟩
  obtain ⟨h1, h2⟩ := h.token Q r
  rw [h1]
  unfold textS
  rw [h2, hp]
theorem rd_first (Q : ByteArray) : Rd Q 0 c0S [] := by
  refine ⟨⟨4, (1, 1, 0), (1, 1, 0), [], (0, 0, 0), 0, []⟩, rfl, rfl, rfl, rfl, fun r c' hr hp => ?_⟩
  obtain ⟨h1, h2, h3⟩ := hr
  have h35 : r ≠ 35 := by rintro rfl; rcases h2 with h | h; cases h; exact absurd h (by decide)
  have h91 : r ≠ 91 := by rintro rfl; rcases h2 with h | h; cases h; exact absurd h (by decide)
  have h93 : r ≠ 93 := by rintro rfl; rcases h2 with h | h; cases h; exact absurd h (by decide)
  have h42 : r ≠ 42 := by rintro rfl; rcases h2 with h | h; cases h; exact absurd h (by decide)
  have e : tokenS Q { c0S with here := plNext Q c0S.here 0 } r = betweenS Q { c0S with here := plNext Q c0S.here 0 } r := by simp [tokenS, c0S]
  rw [e]
  unfold betweenS
  rw [if_neg (by rw [h1]; decide), if_neg h35, if_neg (by rw [h3]; decide), if_neg h91, if_neg h93, if_neg h42]
  show (plainS Q ⟨4, (1, 1, 0), (1, 1, 0), [], (0, 0, 0), 0, []⟩ r).out = _
  rw [hp]
  rfl
theorem runS_one {Q : ByteArray} {f i v r : Nat} {c c' : Sc} (hi : i < Q.size + 1) (hd : Utf8.decode (Q ++ nlB) i = (r, v)) (ht : tokenS Q { c with here := plNext Q c.here i } (r : Nat) = .ok c') : runS Q (f + 1) i c = runS Q f (i + v) c' := by
  rw [runS, if_pos hi, hd, ht]
theorem dec_in {Q : ByteArray} {p : Nat} (h : p < Q.size) (hb : B Q p < 128) : Utf8.decode (Q ++ nlB) p = (B Q p, 1) := by
  rw [decode_nl Q p h, dec_lo Q p hb]
/-- The units of an escape pass. -/
theorem run_pass (Q : ByteArray) : ∀ (n p : Nat) (c : Sc) (F : Nat), (∀ j, j < n → B Q (p + j) < 128) → p + n ≤ Q.size → c.st = 7 → c.behind = p + n → Q.size + 1 ≤ p + F →
    ∃ F' c', runS Q F p c = runS Q F' (p + n) c' ∧ c'.from = c.from ∧ c'.toks = c.toks ∧ c'.text = c.text ∧ c'.st = 7 ∧ c'.behind = p + n ∧ Q.size + 1 ≤ p + n + F' := by
  intro n
  induction n with
  | zero => intro p c F _ _ hs hb hF; exact ⟨F, c, rfl, rfl, rfl, rfl, hs, hb, hF⟩
  | succ n ih =>
    intro p c F hB hp hs hb hF
    obtain ⟨F, rfl⟩ : ∃ f, F = f + 1 := ⟨F - 1, by omega⟩
    have hx := (plNext_ix Q c.here p).1
    have ht : tokenS Q { c with here := plNext Q c.here p } (B Q p : Nat) = .ok { c with here := plNext Q c.here p } := by
      have hnl : ¬ p + (n + 1) ≤ p := by omega
      simp [tokenS, textS, pieceS, escapeS, hs, hx, hb]
      rw [if_neg hnl]
    have hB0 := hB 0 (by omega)
    rw [Nat.add_zero] at hB0
    have h1 := runS_one (f := F) (by omega) (dec_in (by omega) hB0) ht
    obtain ⟨F', c', e1, e2, e3, e4, e5, e6, e7⟩ := ih (p + 1) { c with here := plNext Q c.here p } F (fun j hj => by have := hB (j + 1) (by omega); rw [show p + 1 + j = p + (j + 1) by omega]; exact this) (by omega) hs (by simp only; omega) (by omega)
    refine ⟨F', c', ?_, e2, e3, e4, e5, by omega, by omega⟩
    rw [h1, e1, show p + 1 + n = p + (n + 1) by omega]
/-- An escape E, that stands for t, is taken. -/
theorem run_esc {Q : ByteArray} {p : Nat} {c : Sc} {x E rest t : List UInt8} {F : Nat} (hE : Q.data.toList.drop p = (92 :: E) ++ rest) (hp : p ≤ Q.size) (ha : ∀ b ∈ E, b.toNat < 128) (hF : Q.size + 1 ≤ p + F) (hrd : Rd Q p c x)
    (hu : unescV (Q.extract p Q.size) = some (t, E.length + 1)) :
    ∃ F' c', runS Q F p c = runS Q F' (p + (E.length + 1)) c' ∧ Bd (p + (E.length + 1)) c' (x ++ t) ∧ Q.size + 1 ≤ p + (E.length + 1) + F' := by
  obtain ⟨c1, g1, g2, g3, g4, g5⟩ := hrd
  have hln := drop_len hE hp
  rw [List.length_cons] at hln
  obtain ⟨F, rfl⟩ : ∃ f, F = f + 1 := ⟨F - 1, by omega⟩
  have hB0 : B Q p = 92 := by have := B_drop hE (j := 0) (by simp); simpa using this
  have hpl : plainS Q c1 92 = .took { c1 with st := 7, text := c1.text ++ t, behind := c1.here.2.2 + (E.length + 1) } := by
    unfold plainS
    rw [if_neg (by decide), if_pos rfl, g1, hu]
  have ht := g5 92 _ ⟨by decide, .inl rfl, by decide⟩ hpl
  have h1 := runS_one (f := F) (v := 1) (r := 92) (by omega) (by rw [dec_in (by omega) (by omega), hB0]) ht
  obtain ⟨F', c', e1, e2, e3, e4, e5, e6, e7⟩ := run_pass Q E.length (p + 1) { c1 with st := 7, text := c1.text ++ t, behind := c1.here.2.2 + (E.length + 1) } F (fun j hj => by
      have := B_drop hE (j := j + 1) (by simp; omega)
      rw [show p + 1 + j = p + (j + 1) by omega, this]
      simp only [List.getD_cons_succ]
      rw [List.getD_eq_getElem?_getD, List.getElem?_eq_getElem hj]
      exact ha _ (List.getElem_mem hj)) (by omega) rfl (by simp only; omega) (by omega)
  refine ⟨F', c', ?_, ⟨e2.trans g2, e3.trans g3, by rw [e4]; simp only [g4], .inr ⟨e5, by omega⟩⟩, by omega⟩
  rw [h1, e1, show p + 1 + E.length = p + (E.length + 1) by omega]
/-- A unit that is neither a blank's nor a sign's is taken. -/
theorem run_plain {Q : ByteArray} {p r : Nat} {c : Sc} {x E rest : List UInt8} {F : Nat} (hE : Q.data.toList.drop p = E ++ rest) (hp : p ≤ Q.size) (hl : 1 ≤ E.length) (hd : Utf8.decode (Q ++ nlB) p = (r, E.length)) (hF : Q.size + 1 ≤ p + F) (hrd : Rd Q p c x)
    (h1 : isBlk (r : Nat) = false) (h2 : isSgs (r : Nat) = false) (h3 : isSgn (encL (r : Nat)) = false) :
    ∃ F' c', runS Q F p c = runS Q F' (p + E.length) c' ∧ Bd (p + E.length) c' (x ++ E) ∧ Q.size + 1 ≤ p + E.length + F' := by
  obtain ⟨c1, g1, g2, g3, g4, g5⟩ := hrd
  have hln := drop_len hE hp
  obtain ⟨F, rfl⟩ : ∃ f, F = f + 1 := ⟨F - 1, by omega⟩
  have n39 : ((r : Nat) : Int) ≠ 39 := fun h => by rw [h] at h2; exact absurd h2 (by decide)
  have n92 : ((r : Nat) : Int) ≠ 92 := fun h => by rw [h] at h2; exact absurd h2 (by decide)
  have hw : unitW Q p = E.length := by unfold unitW; rw [if_pos (by omega), ← decode_nl Q p (by omega), hd]
  have hU : unitL Q p = E := by unfold unitL; rw [hw]; exact seg_drop hE
  have hpl : plainS Q c1 (r : Nat) = .took { c1 with st := 4, text := c1.text ++ E } := by
    unfold plainS
    rw [if_neg n39, if_neg n92, if_neg (by rw [h1]; decide), if_neg (by rw [h2]; decide), g1, hU]
  have ht := g5 (r : Nat) _ ⟨h1, .inr h2, h3⟩ hpl
  refine ⟨F, _, runS_one (by omega) hd ht, ⟨g2, g3, by simp only [g4], .inl rfl⟩, by omega⟩

section
variable {X : ByteArray} {rest : List UInt8}
theorem xunit_one {u : UInt8} {a : UInt8} (hX : X.data.toList = a :: u :: rest) (hu : u.toNat < 128) : unitW X 1 = 1 ∧ (decP X 1).1 = (u.toNat : Int) ∧ 2 ≤ X.size := by
  have hz : 2 ≤ X.size := by rw [Lib.size_eq, hX]; simp
  have hB : B X 1 = u.toNat := by unfold B; rw [hX]; rfl
  have hd := dec_lo X 1 (by rw [hB]; exact hu)
  refine ⟨by unfold unitW; rw [if_pos (by omega), hd], ?_, hz⟩
  have := decP_in X 1 (by omega)
  rw [show ((1 : Nat) : Int) = 1 from rfl] at this
  rw [this, hd, hB]
theorem unesc_ill {b : Nat} (hX : X.data.toList = 92 :: (120 :: hexL b) ++ rest) (h : 128 ≤ b) (h2 : b < 256) : unescV X = some ([UInt8.ofNat b], 4) := by
  obtain ⟨e1, e2, e3⟩ := xunit_one hX (by decide)
  have hh := hex_two b h2 (by omega)
  unfold unescV
  rw [e1, if_neg (by decide), e2, if_neg (by decide), if_pos (by decide)]
  unfold illV
  have hd2 : (X.data.toList.drop 2).take 2 = hexL b := by
    rw [hX]
    show (hexL b ++ rest).take 2 = hexL b
    rw [← hh, List.take_left]
  rw [hd2, puV_hex 255 b (by omega) (by omega), if_neg (by rw [hX]; simp [hh])]
  simp only
  rw [if_neg (by omega)]
set_option maxRecDepth 100000 in
theorem unesc_chr {r : Nat} (hX : X.data.toList = 92 :: (117 :: 123 :: hexL r ++ [125]) ++ rest) (h : r < 128) : unescV X = some ([UInt8.ofNat r], 4 + (hexL r).length) := by
  have hX2 : X.data.toList = 92 :: 117 :: (123 :: (hexL r ++ 125 :: rest)) := by rw [hX]; simp
  obtain ⟨e1, e2, e3⟩ := xunit_one hX2 (by decide)
  unfold unescV
  rw [e1, if_neg (by decide), e2, if_pos (by decide)]
  unfold chrV
  have ho : opn X.data.toList = true := by rw [hX2]; rfl
  have hr : rst X.data.toList = hexL r ++ 125 :: rest := by unfold rst; rw [if_pos ho, hX2]; rfl
  have hup : upB (rst X.data.toList) = hexL r := by rw [hr]; exact upB_at _ _ (fun c hc => (hexF_clean 8 r c hc).1)
  have hct : (rst X.data.toList).contains 125 = true := by rw [hr]; simp
  have hpu : puV 16777215 (upB (rst X.data.toList)) = some r := by rw [hup]; exact puV_hex _ _ (by omega) (by omega)
  rw [hpu, hup, ho, hct]
  have hl6 : (hexL r).length ≤ 6 := (by decide +kernel : ∀ r, r < 128 → (hexL r).length ≤ 6) r h
  have hv : Lib.validRune (r : Nat) = true := (by decide +kernel : ∀ r : Nat, r < 128 → Lib.validRune (r : Nat) = true) r h
  have he : (Utf8.encode (r : Nat)).data.toList = [UInt8.ofNat r] := (by decide +kernel : ∀ r : Nat, r < 128 → (Utf8.encode (r : Nat)).data.toList = [UInt8.ofNat r]) r h
  unfold chrO
  simp only
  rw [hv, he, decide_eq_true hl6]
  rfl
theorem unesc_sgs {u : UInt8} (hX : X.data.toList = 92 :: [u] ++ rest) (hu : u.toNat < 128) (h1 : u ≠ 117) (h2 : u ≠ 120) : unescV X = some ([u], 2) := by
  obtain ⟨e1, e2, e3⟩ := xunit_one (X := X) (rest := rest) hX hu
  have n1 : (u.toNat : Int) ≠ 117 := fun h => h1 (by apply UInt8.toNat_inj.1; have : (117 : UInt8).toNat = 117 := rfl; omega)
  have n2 : (u.toNat : Int) ≠ 120 := fun h => h2 (by apply UInt8.toNat_inj.1; have : (120 : UInt8).toNat = 120 := rfl; omega)
  unfold unescV
  rw [e1, if_neg (by decide), e2, if_neg n1, if_neg n2]
  have : (X.extract 1 (1 + 1)).data.toList = [u] := by
    have h3 : (X.extract 1 (1 + 1)).data.toList = seg X 1 (1 + 1) := rfl
    rw [h3, seg_eq, hX]
    rfl
  rw [this]
end

theorem dec_r_lo {s : ByteArray} {i : Nat} (h : (Utf8.decode s i).1 < 128) : B s i = (Utf8.decode s i).1 ∧ (Utf8.decode s i).2 = 1 := by
  rw [decode_B] at h ⊢
  revert h
  unfold decodeN
  repeat' split
  all_goals (intro h; first | exact ⟨rfl, rfl⟩ | (exfalso; simp only at h; omega))
set_option maxRecDepth 100000 in
theorem nsgn {s : ByteArray} {i : Nat} (h : isSgs ((Utf8.decode s i).1 : Nat) = false) (_hi : i < s.size) (hw : ¬ ((Utf8.decode s i).1 = 65533 ∧ (Utf8.decode s i).2 = 1)) : isSgn (encL ((Utf8.decode s i).1 : Nat)) = false := by
  by_cases h1 : (Utf8.decode s i).1 < 128
  · generalize (Utf8.decode s i).1 = r at *
    revert h
    exact (by decide +kernel : ∀ r : Nat, r < 128 → isSgs (r : Nat) = false → isSgn (encL (r : Nat)) = false) r h1
  · have hv : Utf8.valid ((Utf8.decode s i).1 : Nat) = true := by
      rw [decode_B] at hw h1 ⊢
      revert hw h1
      unfold decodeN
      repeat' split
      all_goals (intro hw h1; simp only at hw h1 ⊢; first | (exfalso; omega) | (simp only [Utf8.valid, Bool.or_eq_true, Bool.and_eq_true, decide_eq_true_iff]; omega) | (exact absurd ⟨rfl, rfl⟩ hw))
    obtain ⟨q1, q2, q3⟩ := enc_hi ((Utf8.decode s i).1 : Nat) (by omega) hv
    have hl : (encL ((Utf8.decode s i).1 : Nat)).length = (Utf8.encode ((Utf8.decode s i).1 : Nat)).size := (Lib.size_eq _).symm
    have hne : encL ((Utf8.decode s i).1 : Nat) ∉ sgnL := by
      intro hm
      have hall : ∀ l ∈ sgnL, ∃ c ∈ l, c.toNat < 128 := by decide
      obtain ⟨c, hc, hlt⟩ := hall _ hm
      have := q3 c hc
      omega
    unfold isSgn
    simpa using hne
theorem one_byte {s : ByteArray} {i : Nat} (hi : i < s.size) : seg s i (i + 1) = [UInt8.ofNat (B s i)] := by
  rw [seg_range s i 1 (by omega)]
  rfl
theorem hexL_lo : ∀ u, u < 256 → ∀ b ∈ hexL u, b.toNat < 128 := by decide +kernel
theorem sgs_lt {r : Nat} (h : isSgs (r : Nat) = true) : r < 128 ∧ r ≠ 117 ∧ r ≠ 120 := by
  by_cases h1 : r < 128
  · refine ⟨h1, ?_, ?_⟩ <;> (rintro rfl; exact absurd h (by decide))
  · rw [isSgs_hi (r : Nat) (by omega)] at h; cases h
theorem unitW_dec {s : ByteArray} {i : Nat} (hi : i < s.size) : unitW s i = (Utf8.decode s i).2 := by unfold unitW; rw [if_pos hi]
theorem run_unit {s Q : ByteArray} {i p : Nat} {c : Sc} {x rest : List UInt8} {F : Nat} (hi : i < s.size) (hQ : Q.data.toList.drop p = quoU s i ++ rest) (hp : p ≤ Q.size) (hF : Q.size + 1 ≤ p + F) (hrd : Rd Q p c x) :
    ∃ F' c', runS Q F p c = runS Q F' (p + (quoU s i).length) c' ∧ Bd (p + (quoU s i).length) c' (x ++ seg s i (i + unitW s i)) ∧ Q.size + 1 ≤ p + (quoU s i).length + F' := by
  have hw := unitW_dec hi
  obtain ⟨d1, d2, d3⟩ := dec_width s i hi
  have hdP : (decP s (i : Nat)).1 = ((Utf8.decode s i).1 : Int) := by rw [decP_in s i hi]
  have hU : quoU s i = escV (seg s i (i + unitW s i)) ((Utf8.decode s i).1 : Nat) := by unfold quoU; rw [hdP]; rfl
  have hln : (seg s i (i + unitW s i)).length = unitW s i := by rw [seg_len s i _ (by omega) (by omega)]; omega
  unfold escV at hU
  by_cases h1 : ((Utf8.decode s i).1 : Int) = 65533 ∧ (seg s i (i + unitW s i)).length = 1
  · rw [if_pos h1] at hU
    obtain ⟨h1, h2⟩ := h1
    have hw1 : unitW s i = 1 := by omega
    have hb : ¬ B s i < 128 := fun hb => by
      have := dec_lo s i hb
      rw [this] at h1
      simp only at h1
      omega
    have hB := B_lt s i
    rw [hw1, one_byte hi] at hU ⊢
    have hU2 : quoU s i = 92 :: (120 :: hexL (B s i)) := by
      rw [hU]
      have : (([UInt8.ofNat (B s i)] : List UInt8).getD 0 0).toNat = B s i := by simp; omega
      rw [this]; rfl
    have hh := hex_two (B s i) hB (by omega)
    rw [hU2] at hQ ⊢
    exact run_esc (t := [UInt8.ofNat (B s i)]) hQ hp (by
      intro b hb2
      rcases List.mem_cons.1 hb2 with rfl | hb2
      · decide
      · exact hexL_lo _ hB b hb2) hF hrd (by rw [unesc_ill (X := Q.extract p Q.size) (ext_rest hQ) (by omega) hB]; simp [hh])
  rw [if_neg h1] at hU
  by_cases h2 : ((Utf8.decode s i).1 : Int) ≤ 32 ∨ ((Utf8.decode s i).1 : Int) = 127
  · rw [if_pos h2] at hU
    obtain ⟨hb, hw1⟩ := dec_r_lo (s := s) (i := i) (by omega)
    have hw1 : unitW s i = 1 := hw.trans hw1
    rw [hw1, one_byte hi]
    have hU2 : quoU s i = 92 :: (117 :: 123 :: hexL (B s i) ++ [125]) := by
      rw [hU, ← hb]; simp
    rw [hU2] at hQ ⊢
    exact run_esc (t := [UInt8.ofNat (B s i)]) hQ hp (by
      intro b hb2
      simp only [List.cons_append, List.mem_cons, List.mem_append, List.not_mem_nil, or_false] at hb2
      rcases hb2 with rfl | rfl | hb2 | rfl
      · decide
      · decide
      · exact hexL_lo _ (by omega) b hb2
      · decide) hF hrd (by rw [unesc_chr (X := Q.extract p Q.size) (ext_rest hQ) (by omega)]; simp; omega)
  rw [if_neg h2] at hU
  by_cases h3 : isSgs ((Utf8.decode s i).1 : Nat) = true
  · rw [if_pos h3] at hU
    obtain ⟨q1, q2, q3⟩ := sgs_lt h3
    obtain ⟨hb, hw1⟩ := dec_r_lo (s := s) (i := i) q1
    have hw1 : unitW s i = 1 := hw.trans hw1
    rw [hw1, one_byte hi] at hU ⊢
    have hu : (UInt8.ofNat (B s i)).toNat = B s i := by simp; omega
    have hU2 : quoU s i = 92 :: [UInt8.ofNat (B s i)] := by rw [hU]; rfl
    rw [hU2] at hQ ⊢
    exact run_esc (t := [UInt8.ofNat (B s i)]) hQ hp (by
      intro b hb2
      rw [List.mem_singleton] at hb2
      subst hb2
      omega) hF hrd (by
        rw [unesc_sgs (X := Q.extract p Q.size) (ext_rest hQ) (by omega) (fun h => by rw [h] at hu; have : (117 : UInt8).toNat = 117 := rfl; omega) (fun h => by rw [h] at hu; have : (120 : UInt8).toNat = 120 := rfl; omega)]
        rfl)
  have h3 : isSgs ((Utf8.decode s i).1 : Nat) = false := by simpa using h3
  rw [if_neg (by rw [h3]; decide)] at hU
  have hne : ¬ ((Utf8.decode s i).1 = 65533 ∧ (Utf8.decode s i).2 = 1) := fun h => h1 ⟨by omega, by omega⟩
  rw [hU] at hQ ⊢
  have hdl := drop_len hQ hp
  have hBj : ∀ j, j < unitW s i → B (Q ++ nlB) (p + j) = B s (i + j) := fun j hj => by
    rw [nl_B Q _ (by omega), B_drop hQ (by omega), seg_range s i _ (by omega), List.getD_eq_getElem?_getD, List.getElem?_map, List.getElem?_range hj]
    have := B_lt s (i + j)
    simp; omega
  have hd : Utf8.decode (Q ++ nlB) p = ((Utf8.decode s i).1, (seg s i (i + unitW s i)).length) := by
    rw [hln, hw, decode_B]
    have hB0 := hBj 0 (by omega)
    rw [Nat.add_zero, Nat.add_zero] at hB0
    rw [hB0]
    have hnz := nl_size Q
    exact decN_pre (by rw [← decode_B]) hne (by omega) (fun h => hBj 1 (by omega)) (fun h => hBj 2 (by omega)) (fun h => hBj 3 (by omega))
  have hbk : isBlk ((Utf8.decode s i).1 : Nat) = false := by
    unfold isBlk
    simp only [Bool.or_eq_false_iff, beq_eq_false_iff_ne]
    refine ⟨⟨⟨?_, ?_⟩, ?_⟩, ?_⟩ <;> omega
  exact run_plain hQ hp (by omega) hd hF hrd hbk h3 (nsgn h3 hi hne)

theorem run_quo (s Q : ByteArray) : ∀ (f i p : Nat) (F : Nat) (c : Sc) (x : List UInt8), Q.data.toList.drop p = quoF s f i → s.size ≤ i + f → i ≤ s.size → p ≤ Q.size → Q.size + 1 ≤ p + F → Bd p c x →
    ∃ F' c', runS Q F p c = runS Q F' Q.size c' ∧ Bd Q.size c' (x ++ seg s i s.size) ∧ 1 ≤ F' := by
  have hend : ∀ (p F : Nat) (c : Sc) (x : List UInt8), Q.data.toList.drop p = [] → p ≤ Q.size → Q.size + 1 ≤ p + F → Bd p c x → ∃ F' c', runS Q F p c = runS Q F' Q.size c' ∧ Bd Q.size c' (x ++ seg s s.size s.size) ∧ 1 ≤ F' := by
    intro p F c x hq hp hF hb
    have : p = Q.size := by
      have h1 := congrArg List.length hq
      rw [List.length_drop, ← Lib.size_eq] at h1
      simp at h1
      omega
    subst this
    exact ⟨F, c, rfl, by rw [seg_self, List.append_nil]; exact hb, by omega⟩
  intro f
  induction f with
  | zero =>
    intro i p F c x hq hf hi hp hF hb
    have : i = s.size := by omega
    subst this
    exact hend p F c x hq hp hF hb
  | succ f ih =>
    intro i p F c x hq hf hi hp hF hb
    rw [quoF] at hq
    by_cases hlt : i < s.size
    · rw [if_pos hlt] at hq
      obtain ⟨u1, u2, u3⟩ := unitW_bd s i hi
      have u3 := u3 hlt
      obtain ⟨F1, c1, e1, e2, e3⟩ := run_unit hlt hq hp hF (hb.rd Q)
      obtain ⟨F2, c2, e4, e5, e6⟩ := ih (i + unitW s i) (p + (quoU s i).length) F1 c1 _ (drop_more hq) (by omega) (by omega) (drop_len hq hp) e3 e2
      refine ⟨F2, c2, e1.trans e4, ?_, e6⟩
      rw [List.append_assoc, seg_app s i _ _ (by omega) (by omega)] at e5
      exact e5
    · rw [if_neg hlt] at hq
      have : i = s.size := by omega
      subst this
      exact hend p F c x hq hp hF hb
theorem run_end {Q : ByteArray} {F : Nat} {c : Sc} {x : List UInt8} (hF : 1 ≤ F) (hb : Bd Q.size c x) : ∃ l k, runS Q F Q.size c = .ok ⟨0, (l, k, Q.size), (l, k, Q.size), x, c.quote, c.behind, [⟨1, x, (1, 1, 0)⟩]⟩ := by
  obtain ⟨F, rfl⟩ : ∃ f, F = f + 1 := ⟨F - 1, by omega⟩
  obtain ⟨h1, h2⟩ := hb.token Q ((10 : Nat) : Int)
  have hx := (plNext_ix Q c.here Q.size).1
  have hpl : plainS Q { c with here := plNext Q c.here Q.size } ((10 : Nat) : Int) = .left { c with st := 4, here := plNext Q c.here Q.size } := by
    unfold plainS
    rw [if_neg (by decide), if_neg (by decide), if_pos (by decide)]
  have ht : tokenS Q { c with here := plNext Q c.here Q.size } ((10 : Nat) : Int) = .ok ⟨0, plNext Q c.here Q.size, plNext Q c.here Q.size, x, c.quote, c.behind, [⟨1, x, (1, 1, 0)⟩]⟩ := by
    rw [h1]
    unfold textS
    rw [h2, hpl]
    unfold betweenS
    simp only
    rw [if_pos (by decide)]
    unfold addT
    simp only [hb.fr, hb.toks, hb.text, List.nil_append]
  refine ⟨(plNext Q c.here Q.size).1, (plNext Q c.here Q.size).2.1, ?_⟩
  rw [runS_one (by omega) (decode_end Q) ht]
  have hp2 : plNext Q c.here Q.size = ((plNext Q c.here Q.size).1, (plNext Q c.here Q.size).2.1, Q.size) := Prod.ext rfl (Prod.ext rfl hx)
  rw [← hp2]
  cases F with
  | zero => rfl
  | succ f => rw [runS, if_neg (by omega)]

theorem dec_hi_bytes {s : ByteArray} {i : Nat} (h : 128 ≤ (Utf8.decode s i).1) (hne : ¬ ((Utf8.decode s i).1 = 65533 ∧ (Utf8.decode s i).2 = 1)) : ∀ j, j < (Utf8.decode s i).2 → 128 ≤ B s (i + j) := by
  rw [decode_B] at h hne ⊢
  revert h hne
  unfold decodeN
  repeat' split
  all_goals (intro h hne j hj; simp only at h hne hj)
  · omega
  · obtain rfl | rfl : j = 0 ∨ j = 1 := by omega
    · rw [Nat.add_zero]; omega
    · omega
  · exact absurd ⟨trivial, trivial⟩ hne
  · obtain rfl | rfl | rfl : j = 0 ∨ j = 1 ∨ j = 2 := by omega
    · rw [Nat.add_zero]; omega
    · omega
    · omega
  · exact absurd ⟨trivial, trivial⟩ hne
  · obtain rfl | rfl | rfl | rfl : j = 0 ∨ j = 1 ∨ j = 2 ∨ j = 3 := by omega
    · rw [Nat.add_zero]; omega
    · omega
    · omega
    · omega
  · exact absurd ⟨trivial, trivial⟩ hne
  · exact absurd ⟨trivial, trivial⟩ hne
theorem quoU_no10 {s : ByteArray} {i : Nat} (hi : i < s.size) : ∀ b ∈ quoU s i, b ≠ 10 := by
  have hx : ∀ n, n < 256 → ∀ b ∈ hexL n, b ≠ 10 := by decide +kernel
  have hw := unitW_dec hi
  obtain ⟨d1, d2, d3⟩ := dec_width s i hi
  have hdP : (decP s (i : Nat)).1 = ((Utf8.decode s i).1 : Int) := by rw [decP_in s i hi]
  have hU : quoU s i = escV (seg s i (i + unitW s i)) ((Utf8.decode s i).1 : Nat) := by unfold quoU; rw [hdP]; rfl
  have hln : (seg s i (i + unitW s i)).length = unitW s i := by rw [seg_len s i _ (by omega) (by omega)]; omega
  rw [hU]
  unfold escV
  split
  · intro b hb
    simp only [List.cons_append, List.nil_append, List.mem_cons] at hb
    rcases hb with rfl | rfl | hb
    · decide
    · decide
    · exact hx _ (UInt8.toNat_lt _) b hb
  · rename_i h1
    split
    · intro b hb
      simp only [List.cons_append, List.nil_append, List.mem_cons, List.mem_append, List.not_mem_nil, or_false] at hb
      rcases hb with rfl | rfl | rfl | hb | rfl
      · decide
      · decide
      · decide
      · exact hx _ (by omega) b hb
      · decide
    · rename_i h2
      have hne : ¬ ((Utf8.decode s i).1 = 65533 ∧ (Utf8.decode s i).2 = 1) := fun h => h1 ⟨by omega, by omega⟩
      have hs : ∀ b ∈ seg s i (i + unitW s i), b ≠ 10 := by
        intro b hb
        rw [seg_range s i _ (by omega)] at hb
        obtain ⟨j, hj, rfl⟩ := List.mem_map.1 hb
        rw [List.mem_range] at hj
        have hBlt := B_lt s (i + j)
        intro h10
        have h10' : B s (i + j) = 10 := by
          have := congrArg UInt8.toNat h10
          simpa [Nat.mod_eq_of_lt hBlt] using this
        by_cases hlo : (Utf8.decode s i).1 < 128
        · obtain ⟨q1, q2⟩ := dec_r_lo hlo
          obtain rfl : j = 0 := by omega
          rw [Nat.add_zero] at h10'
          omega
        · have := dec_hi_bytes (by omega) hne j (by omega)
          omega
      split
      · intro b hb
        simp only [List.cons_append, List.nil_append, List.mem_cons] at hb
        rcases hb with rfl | hb
        · decide
        · exact hs b hb
      · exact hs
theorem quoF_no10 (s : ByteArray) : ∀ (f i : Nat), ∀ b ∈ quoF s f i, b ≠ 10 := by
  intro f
  induction f with
  | zero => intro i b hb; simp [quoF] at hb
  | succ f ih =>
    intro i b hb
    rw [quoF] at hb
    split at hb
    · rename_i h
      rcases List.mem_append.1 hb with hb | hb
      · exact quoU_no10 h b hb
      · exact ih _ b hb
    · simp at hb
theorem nlN_none {Q : ByteArray} (h : ∀ b ∈ Q.data.toList, b ≠ 10) : nlN Q = 0 := by
  unfold nlN
  have h1 : ∀ b ∈ Lib.trimSuffix Q.data.toList [10], b ≠ 10 := by
    intro b hb
    unfold Lib.trimSuffix at hb
    split at hb
    · exact h b (List.mem_of_mem_take hb)
    · exact h b hb
  generalize Lib.trimSuffix Q.data.toList [10] = l at h1
  induction l with
  | nil => rfl
  | cons a l ih =>
    have h2 := h1 a (by simp)
    have h3 := ih (fun b hb => h1 b (by simp [hb]))
    unfold Lib.countByte at h3 ⊢
    simp_all
/-- Scan of a text that is quoted. -/
theorem scan_quo (s : ByteArray) (hz : (quoV s).length ≤ 1048576) : ∃ l k, scanS ⟨(quoV s).toArray⟩ = .ok [⟨1, s.data.toList, (1, 1, 0)⟩, ⟨0, [], (l, k, (quoV s).length)⟩] := by
  by_cases h0 : s.size = 0
  · have hq : quoV s = [39, 39] := by unfold quoV; rw [if_pos h0]
    have hs : s.data.toList = [] := by apply List.eq_nil_of_length_eq_zero; rw [← Lib.size_eq]; exact h0
    rw [hq, hs]
    exact ⟨1, 3, by kernel_rfl⟩
  · have hq : quoV s = quoF s s.size 0 := by unfold quoV; rw [if_neg h0]
    obtain ⟨Q, hQ⟩ : ∃ Q : ByteArray, Q = ⟨(quoV s).toArray⟩ := ⟨_, rfl⟩
    have hQl : Q.data.toList = quoF s s.size 0 := by rw [hQ]; simp [hq]
    have hQz : Q.size = (quoV s).length := by rw [Lib.size_eq, hQl, hq]
    rw [← hQ]
    obtain ⟨n, hn⟩ : ∃ n, s.size = n + 1 := ⟨s.size - 1, by omega⟩
    have hqu : quoF s s.size 0 = quoU s 0 ++ quoF s n (0 + unitW s 0) := by rw [hn, quoF, if_pos (by omega)]
    obtain ⟨u1, u2, u3⟩ := unitW_bd s 0 (by omega)
    have u3 := u3 (by omega)
    have hd0 : Q.data.toList.drop 0 = quoU s 0 ++ quoF s n (0 + unitW s 0) := by rw [List.drop_zero, hQl, hqu]
    obtain ⟨F1, c1, e1, e2, e3⟩ := run_unit (F := Q.size + 1) (by omega) hd0 (by omega) (by omega) (rd_first Q)
    obtain ⟨F2, c2, e4, e5, e6⟩ := run_quo s Q n (0 + unitW s 0) (0 + (quoU s 0).length) F1 c1 _ (drop_more hd0) (by omega) (by omega) (drop_len hd0 (by omega)) e3 e2
    rw [List.nil_append, seg_app s 0 _ _ (by omega) (by omega), seg_all] at e5
    obtain ⟨l, k, e7⟩ := run_end e6 e5
    refine ⟨l, k, ?_⟩
    have hn10 : nlN Q = 0 := nlN_none (by rw [hQl]; exact quoF_no10 s _ _)
    unfold scanS
    rw [if_neg (by omega), if_neg (by omega), e1, e4, e7]
    simp only [endS]
    rw [if_neg (by decide), if_neg (by decide), hQz]
    rfl
end Go.Proofs.YtlfdpdlhppgakaaGreatDoor
/- The places of the scanner's tokens. No run in this text. -/
namespace Go.Proofs.YtlfdpdlhppgakaaGreatDoor
open Go Go.RowKit Go.Kt Go.Kt.Rg Go.Shelf Go.Lib

/-- The place of the n-th unit: line, column, byte. -/
def plN (s : ByteArray) : Nat → Pl
  | 0 => (1, 1, 0)
  | n + 1 => let p := plN s n; if p.2.2 < s.size then (if (Utf8.decode s p.2.2).1 = 10 then (p.1 + 1, 1, p.2.2 + (Utf8.decode s p.2.2).2) else (p.1, p.2.1 + 1, p.2.2 + (Utf8.decode s p.2.2).2)) else p
theorem plN_at (s : ByteArray) (n : Nat) : (plN s (n + 1)).2.2 = if (plN s n).2.2 < s.size then (plN s n).2.2 + (Utf8.decode s (plN s n).2.2).2 else (plN s n).2.2 := by
  rw [plN]
  split
  · split <;> rfl
  · rfl
theorem plN_le (s : ByteArray) : ∀ n, (plN s n).2.2 ≤ s.size
  | 0 => Nat.zero_le _
  | n + 1 => by
    rw [plN_at]
    split
    · rename_i h
      exact (dec_width s _ h).2.2
    · exact plN_le s n
theorem plN_up (s : ByteArray) (n : Nat) : (plN s n).2.2 ≤ (plN s (n + 1)).2.2 := by rw [plN_at]; split <;> omega
theorem plN_mono (s : ByteArray) (n : Nat) : ∀ k, (plN s n).2.2 ≤ (plN s (n + k)).2.2
  | 0 => Nat.le_refl _
  | k + 1 => Nat.le_trans (plN_mono s n k) (plN_up s (n + k))
theorem plN_stuck (s : ByteArray) (n : Nat) (h : ¬ (plN s n).2.2 < s.size) : ∀ k, plN s (n + k) = plN s n
  | 0 => rfl
  | k + 1 => by
    have ih := plN_stuck s n h k
    show plN s (n + k + 1) = _
    rw [plN]
    rw [ih, if_neg h]
theorem plN_lt (s : ByteArray) {n m : Nat} (h : (plN s n).2.2 < (plN s m).2.2) : n < m := by
  by_cases hnm : n < m
  · exact hnm
  · have := plN_mono s m (n - m)
    rw [show m + (n - m) = n by omega] at this
    omega
theorem plN_next (s : ByteArray) {n m : Nat} (h : (plN s n).2.2 < (plN s m).2.2) : (plN s n).2.2 + (Utf8.decode s (plN s n).2.2).2 ≤ (plN s m).2.2 := by
  have h1 := plN_lt s h
  have h2 := plN_mono s (n + 1) (m - (n + 1))
  rw [show n + 1 + (m - (n + 1)) = m by omega, plN_at, if_pos (by have := plN_le s m; omega)] at h2
  exact h2
/-- One byte, one place. -/
theorem plN_one (s : ByteArray) {n m : Nat} (h : (plN s n).2.2 = (plN s m).2.2) : plN s n = plN s m := by
  have key : ∀ {n m : Nat}, n < m → (plN s n).2.2 = (plN s m).2.2 → plN s n = plN s m := by
    intro n m hnm h
    by_cases hlt : (plN s n).2.2 < s.size
    · exfalso
      have h2 := plN_mono s (n + 1) (m - (n + 1))
      rw [show n + 1 + (m - (n + 1)) = m by omega, plN_at, if_pos hlt] at h2
      have := (dec_width s _ hlt).1
      omega
    · have := plN_stuck s n hlt (m - n)
      rw [show n + (m - n) = m by omega] at this
      exact this.symm
  rcases Nat.lt_trichotomy n m with h1 | h1 | h1
  · exact key h1 h
  · rw [h1]
  · exact (key h1 h.symm).symm

theorem dec_last {s : ByteArray} {i : Nat} (hi : i < s.size) : B s (i + (Utf8.decode s i).2 - 1) = 10 ↔ (Utf8.decode s i).1 = 10 := by
  obtain ⟨d1, d2, d3⟩ := dec_width s i hi
  by_cases hlo : (Utf8.decode s i).1 < 128
  · obtain ⟨q1, q2⟩ := dec_r_lo hlo
    rw [q2, Nat.add_sub_cancel, q1]
  · by_cases hne : (Utf8.decode s i).1 = 65533 ∧ (Utf8.decode s i).2 = 1
    · rw [hne.2, Nat.add_sub_cancel, hne.1]
      constructor
      · intro h
        have := dec_lo s i (by omega)
        rw [this] at hlo
        simp only at hlo
        omega
      · intro h; omega
    · have h1 := dec_hi_bytes (by omega) hne ((Utf8.decode s i).2 - 1) (by omega)
      rw [show i + (Utf8.decode s i).2 - 1 = i + ((Utf8.decode s i).2 - 1) by omega]
      omega
theorem plNext_plN (s : ByteArray) (n : Nat) (h : (plN s n).2.2 < s.size) : plNext s (plN s n) ((plN s n).2.2 + (Utf8.decode s (plN s n).2.2).2) = plN s (n + 1) := by
  have hd := dec_last h
  have hw := (dec_width s _ h).1
  unfold plNext
  rw [plN]
  rw [if_pos h]
  by_cases h10 : (Utf8.decode s (plN s n).2.2).1 = 10
  · rw [if_pos ⟨by omega, hd.2 h10⟩, if_pos h10]
  · rw [if_neg (fun hh => h10 (hd.1 hh.2)), if_neg h10]

theorem plN_col (s : ByteArray) : ∀ n, (plN s n).2.1 ≤ (plN s n).2.2 + 1
  | 0 => Nat.le_refl _
  | n + 1 => by
    have ih := plN_col s n
    rw [plN_at, plN]
    by_cases h : (plN s n).2.2 < s.size
    · have hw := (dec_width s _ h).1
      rw [if_pos h, if_pos h]
      split
      · simp only; omega
      · simp only; omega
    · rw [if_neg h, if_neg h]; exact ih
theorem plN_step (s : ByteArray) {n l c p : Nat} (h : plN s n = (l, c, p)) (hp : p < s.size) : plN s (n + 1) = if (Utf8.decode s p).1 = 10 then (l + 1, 1, p + (Utf8.decode s p).2) else (l, c + 1, p + (Utf8.decode s p).2) := by
  rw [plN, h]
  simp only
  rw [if_pos hp]
/-- How many line ends a text has up to a byte. -/
def nlc (s : ByteArray) (i : Nat) : Nat := (s.data.toList.take i).count 10
theorem nlc_succ (s : ByteArray) (i : Nat) (h : i < s.size) : nlc s (i + 1) = nlc s i + if B s i = 10 then 1 else 0 := by
  have hl : i < s.data.toList.length := by rw [← Lib.size_eq]; exact h
  unfold nlc B
  rw [List.take_add_one, List.count_append, List.getElem?_eq_getElem hl, List.getD_eq_getElem?_getD, List.getElem?_eq_getElem hl]
  simp only [Option.toList_some, Option.getD_some, List.count_singleton]
  congr 1
  have : (s.data.toList[i] == 10) = decide ((s.data.toList[i]).toNat = 10) := by
    rw [Bool.eq_iff_iff]
    simp only [beq_iff_eq, decide_eq_true_iff]
    constructor
    · intro e; rw [e]; rfl
    · intro e; exact UInt8.toNat_inj.1 e
  rw [this]
  simp
theorem nlc_unit (s : ByteArray) (i : Nat) (h : i < s.size) : nlc s (i + (Utf8.decode s i).2) = nlc s i + if (Utf8.decode s i).1 = 10 then 1 else 0 := by
  obtain ⟨d1, d2, d3⟩ := dec_width s i h
  by_cases hw : (Utf8.decode s i).2 = 1
  · have hd := dec_last h
    rw [hw, Nat.add_sub_cancel] at hd
    rw [hw, nlc_succ s i h]
    by_cases h10 : (Utf8.decode s i).1 = 10
    · rw [if_pos h10, if_pos (hd.2 h10)]
    · rw [if_neg h10, if_neg (fun hh => h10 (hd.1 hh))]
  · have hlo : ¬ (Utf8.decode s i).1 < 128 := fun hlo => hw (dec_r_lo hlo).2
    have hb := dec_hi_bytes (by omega) (fun hh => hw hh.2)
    rw [if_neg (by omega)]
    have key : ∀ k, k ≤ (Utf8.decode s i).2 → nlc s (i + k) = nlc s i := by
      intro k
      induction k with
      | zero => intro _; rfl
      | succ k ih =>
        intro hk
        rw [← Nat.add_assoc, nlc_succ s (i + k) (by omega), ih (by omega), if_neg (by have := hb k (by omega); omega), Nat.add_zero]
    exact key _ (Nat.le_refl _)
theorem plN_line (s : ByteArray) : ∀ n, (plN s n).1 = nlc s (plN s n).2.2 + 1
  | 0 => by simp [plN, nlc]
  | n + 1 => by
    have ih := plN_line s n
    rw [plN_at, plN]
    by_cases h : (plN s n).2.2 < s.size
    · rw [if_pos h, if_pos h, nlc_unit s _ h]
      by_cases h10 : (Utf8.decode s (plN s n).2.2).1 = 10
      · rw [if_pos h10, if_pos h10]; simp only; omega
      · rw [if_neg h10, if_neg h10]; simp only; omega
    · rw [if_neg h, if_neg h]; exact ih

/-- The tokens stand behind one another, each at a place. -/
structure TokOk (s : ByteArray) (l : List Tk) : Prop where
  up : l.Pairwise fun a b => a.pl.2.2 < b.pl.2.2
  pl : ∀ t ∈ l, ∃ n, plN s n = t.pl
  sg : ∀ t ∈ l, t.kind = 2 → t.pl.2.2 + t.text.length ≤ s.size ∧ seg s t.pl.2.2 (t.pl.2.2 + t.text.length) = t.text
theorem TokOk.snoc {s : ByteArray} {l : List Tk} {t : Tk} (h : TokOk s l) (h1 : ∀ a ∈ l, a.pl.2.2 < t.pl.2.2) (h2 : ∃ n, plN s n = t.pl) (h3 : t.kind = 2 → t.pl.2.2 + t.text.length ≤ s.size ∧ seg s t.pl.2.2 (t.pl.2.2 + t.text.length) = t.text) : TokOk s (l ++ [t]) := by
  refine ⟨?_, ?_, ?_⟩
  · rw [List.pairwise_append]
    exact ⟨h.up, List.pairwise_singleton _ _, fun a ha b hb => by rw [List.mem_singleton] at hb; subst hb; exact h1 a ha⟩
  · intro a ha
    rcases List.mem_append.1 ha with ha | ha
    · exact h.pl a ha
    · rw [List.mem_singleton] at ha; subst ha; exact h2
  · intro a ha
    rcases List.mem_append.1 ha with ha | ha
    · exact h.sg a ha
    · rw [List.mem_singleton] at ha; subst ha; exact h3
/-- Ahead of a unit. -/
structure JS (s : ByteArray) (c : Sc) : Prop where
  here : ∃ n, plN s n = c.here
  fr : c.st ≠ 0 → ∃ n, plN s n = c.from
  lt : c.st ≠ 0 → c.from.2.2 < c.here.2.2
  tl : c.st ≠ 0 → ∀ t ∈ c.toks, t.pl.2.2 < c.from.2.2
  t0 : ∀ t ∈ c.toks, t.pl.2.2 < c.here.2.2
  bh : c.behind ≤ s.size
  ok : TokOk s c.toks
/-- Behind a unit. -/
structure KS (s : ByteArray) (h0 : Pl) (c : Sc) : Prop where
  here : c.here = h0
  fr : c.st ≠ 0 → ∃ n, plN s n = c.from
  le : c.st ≠ 0 → c.from.2.2 ≤ c.here.2.2
  tl : c.st ≠ 0 → ∀ t ∈ c.toks, t.pl.2.2 < c.from.2.2
  t0 : ∀ t ∈ c.toks, t.pl.2.2 ≤ c.here.2.2
  tz : c.from.2.2 = c.here.2.2 → ∀ t ∈ c.toks, t.pl.2.2 < c.here.2.2
  bh : c.behind ≤ s.size
  ok : TokOk s c.toks
theorem unesc_le {s : ByteArray} {t : List UInt8} {k : Nat} (h1 : 1 ≤ s.size) (h : unescV s = some (t, k)) : k ≤ s.size := by
  obtain ⟨b1, b2, b3⟩ := unitW_bd s 1 h1
  have hl : s.data.toList.length = s.size := (Lib.size_eq s).symm
  unfold unescV at h
  split at h
  · cases h
  · split at h
    · unfold chrV at h
      cases ho : puV 16777215 (upB (rst s.data.toList)) with
      | none => rw [ho] at h; cases h
      | some n =>
        rw [ho] at h
        unfold chrO at h
        simp only at h
        split at h
        · rename_i hc
          injection h with h
          injection h with h2 h3
          simp only [Bool.and_eq_true] at hc
          obtain ⟨⟨⟨ho, hk⟩, _⟩, _⟩ := hc
          have hr : rst s.data.toList = s.data.toList.drop 3 := by unfold rst; rw [if_pos ho]
          have hup : (upB (rst s.data.toList)).length < (rst s.data.toList).length := by
            generalize rst s.data.toList = l at hk
            unfold upB
            induction l with
            | nil => simp at hk
            | cons a l ih =>
              rw [List.takeWhile_cons]
              split
              · rename_i ha
                have : a ≠ 125 := by simpa using ha
                have hk2 : l.contains 125 = true := by
                  rw [List.contains_cons] at hk
                  rcases Bool.or_eq_true _ _ ▸ hk with h | h
                  · exact absurd (beq_iff_eq.1 h).symm this
                  · exact h
                have := ih hk2
                simp only [List.length_cons]; omega
              · simp
          have hrl : (rst s.data.toList).length ≤ s.size - 3 := by rw [hr, List.length_drop]; omega
          omega
        · cases h
    · split at h
      · unfold illV at h
        split at h
        · cases h
        · split at h
          · split at h
            · cases h
            · injection h with h
              injection h with h2 h3
              omega
          · cases h
      · injection h with h
        injection h with h2 h3
        omega
section
variable {s : ByteArray} {c c' : Sc} {r : Int}
theorem plainS_K (h92 : r = 92 → c.here.2.2 < s.size) (hi : c.here.2.2 ≤ s.size) (hb : c.behind ≤ s.size) (h : plainS s c r = .took c') : c'.behind ≤ s.size ∧ c'.st ≠ 0 := by
  unfold plainS at h
  split at h
  · cases h; exact ⟨hb, by simp⟩
  · split at h
    · rename_i h92'
      split at h
      · cases h
      · rename_i t k hu
        cases h
        have hz : (s.extract c.here.2.2 s.size).size = s.size - c.here.2.2 := by rw [ByteArray.size_extract]; omega
        have := unesc_le (by have := h92 h92'; omega) hu
        have := h92 h92'
        exact ⟨by simp only; omega, by simp⟩
    · split at h
      · cases h
      · split at h
        · cases h
        · cases h; exact ⟨hb, by simp⟩
theorem pieceS_K (h92 : r = 92 → c.here.2.2 < s.size) (hi : c.here.2.2 ≤ s.size) (hb : c.behind ≤ s.size) (h : pieceS s c r = .took c') : c'.behind ≤ s.size ∧ c'.st ≠ 0 := by
  unfold pieceS at h
  split at h
  · rename_i h5
    unfold quotedS at h
    split at h
    · cases h; exact ⟨hb, by simp⟩
    · cases h; exact ⟨hb, by simp [h5]⟩
  · split at h
    · unfold closingS at h
      split at h
      · cases h; exact ⟨hb, by simp⟩
      · exact plainS_K h92 hi hb h
    · split at h
      · rename_i h7
        unfold escapeS at h
        split at h
        · exact plainS_K h92 hi hb h
        · cases h; exact ⟨hb, by simp [h7]⟩
      · exact plainS_K h92 hi hb h
theorem betweenS_K (hp : ∃ n, plN s n = c.here) (t0 : ∀ t ∈ c.toks, t.pl.2.2 < c.here.2.2) (bh : c.behind ≤ s.size) (ok : TokOk s c.toks) (h92 : r = 92 → c.here.2.2 < s.size) (hi : c.here.2.2 ≤ s.size) (h : betweenS s c r = .ok c') : KS s c.here c' := by
  obtain ⟨a1, a2, a3, _⟩ := betweenS_ok h92 hi h
  have hbh : c'.behind ≤ s.size := by
    unfold betweenS at h
    repeat' split at h
    all_goals first | (cases h; done) | (cases h; exact bh) | skip
    cases hpl : plainS s { c with st := 4, «from» := c.here, text := [] } r with
    | took c2 =>
      rw [hpl] at h
      cases h
      exact (plainS_K (c := { c with st := 4, «from» := c.here, text := [] }) h92 hi bh hpl).1
    | left c2 =>
      rw [hpl] at h
      cases h
      have hl : pieceS s { c with st := 4, «from» := c.here, text := [] } r = plainS s { c with st := 4, «from» := c.here, text := [] } r := by simp [pieceS]
      have := pieceS_left (hl.trans hpl)
      subst this
      exact bh
    | bad no p => rw [hpl] at h; cases h
  exact ⟨a1, fun _ => by rw [a2]; exact hp, fun _ => by rw [a1, a2]; exact Nat.le_refl _, fun _ t ht => by rw [a2]; rw [a3] at ht; exact t0 t ht, fun t ht => by rw [a1]; rw [a3] at ht; exact Nat.le_of_lt (t0 t ht), fun _ t ht => by rw [a1]; rw [a3] at ht; exact t0 t ht, hbh, by rw [a3]; exact ok⟩
theorem tokenS_K (hj : JS s c) (h92 : r = 92 → c.here.2.2 < s.size) (hi : c.here.2.2 ≤ s.size) (h : tokenS s c r = .ok c') : KS s c.here c' := by
  unfold tokenS at h
  split at h
  · exact betweenS_K hj.here hj.t0 hj.bh hj.ok h92 hi h
  rename_i n0
  have hfr := hj.fr n0
  have hlt := hj.lt n0
  have htl := hj.tl n0
  have hle : ∀ t ∈ c.toks, t.pl.2.2 ≤ c.here.2.2 := fun t ht => Nat.le_of_lt (hj.t0 t ht)
  have hadd : ∀ k x, (k = 2 → c.from.2.2 + x.length ≤ s.size ∧ seg s c.from.2.2 (c.from.2.2 + x.length) = x) → TokOk s (c.toks ++ [⟨k, x, c.from⟩]) := fun k x hk => hj.ok.snoc htl hfr hk
  have hall : ∀ k x, ∀ t ∈ c.toks ++ [(⟨k, x, c.from⟩ : Tk)], t.pl.2.2 < c.here.2.2 := fun k x t ht => by
    rcases List.mem_append.1 ht with ht | ht
    · exact hj.t0 t ht
    · rw [List.mem_singleton] at ht; subst ht; exact hlt
  split at h
  · unfold remarkS at h
    split at h
    · exact betweenS_K (c := { c with st := 1 }) hj.here hj.t0 hj.bh hj.ok h92 hi h
    · cases h; exact ⟨rfl, fun _ => hfr, fun _ => Nat.le_of_lt hlt, fun _ => htl, hle, fun h => absurd h (Nat.ne_of_lt hlt), hj.bh, hj.ok⟩
  split at h
  · unfold signS at h
    split at h
    · cases h; exact ⟨rfl, fun _ => hfr, fun _ => Nat.le_of_lt hlt, fun _ => htl, hle, fun h => absurd h (Nat.ne_of_lt hlt), hj.bh, hj.ok⟩
    · have hsl : (sinceL s c).length = c.here.2.2 - c.from.2.2 := seg_len s _ _ (Nat.le_of_lt hlt) hi
      have ha := hadd 2 (sinceL s c) (fun _ => by
        have e : c.from.2.2 + (sinceL s c).length = c.here.2.2 := by omega
        rw [e]
        exact ⟨hi, rfl⟩)
      exact betweenS_K (c := addT { c with st := 2 } 2 (sinceL s c)) hj.here (hall 2 _) hj.bh ha h92 hi h
  split at h
  · unfold optionS at h
    split at h
    · cases h
      refine ⟨rfl, fun hh => absurd rfl hh, fun hh => absurd rfl hh, fun hh => absurd rfl hh, fun t ht => Nat.le_of_lt (hall 3 _ t ht), fun h => absurd h (Nat.ne_of_lt hlt), hj.bh, hadd 3 _ (fun hk => by cases hk)⟩
    · cases h; exact ⟨rfl, fun _ => hfr, fun _ => Nat.le_of_lt hlt, fun _ => htl, hle, fun h => absurd h (Nat.ne_of_lt hlt), hj.bh, hj.ok⟩
  · unfold textS at h
    cases hp : pieceS s c r with
    | took c2 =>
      rw [hp] at h
      cases h
      obtain ⟨a1, a2, a3, _⟩ := pieceS_ok h92 hi hp
      obtain ⟨b1, b2⟩ := pieceS_K h92 hi hj.bh hp
      exact ⟨a1, fun _ => by rw [a2]; exact hfr, fun _ => by rw [a1, a2]; exact Nat.le_of_lt hlt, fun _ t ht => by rw [a2]; rw [a3] at ht; exact htl t ht, fun t ht => by rw [a1]; rw [a3] at ht; exact hle t ht, fun h => by rw [a1, a2] at h; exact absurd h (Nat.ne_of_lt hlt), b1, by rw [a3]; exact hj.ok⟩
    | bad no p => rw [hp] at h; cases h
    | left c2 =>
      rw [hp] at h
      have := pieceS_left hp
      subst this
      exact betweenS_K (c := addT { c with st := 4 } 1 c.text) hj.here (hall 1 _) hj.bh (hadd 1 _ (fun hk => by cases hk)) h92 hi h
theorem between_10 (h : betweenS s c 10 = .ok c') : c'.st = 0 ∧ c'.from = c.here := by
  unfold betweenS at h
  rw [if_pos (by decide)] at h
  cases h
  exact ⟨rfl, rfl⟩
theorem plain_10 : plainS s c 10 = .left { c with st := 4 } := by
  unfold plainS
  rw [if_neg (by decide), if_neg (by decide), if_pos (by decide)]
theorem piece_10 (hb : c.behind ≤ c.here.2.2) : pieceS s c 10 = .left { c with st := 4 } ∨ ∃ c2, pieceS s c 10 = .took c2 ∧ c2.st = 5 := by
  unfold pieceS
  by_cases h5 : c.st = 5
  · rw [if_pos h5]
    unfold quotedS
    rw [if_neg (by decide)]
    exact .inr ⟨_, rfl, h5⟩
  rw [if_neg h5]
  by_cases h6 : c.st = 6
  · rw [if_pos h6]
    unfold closingS
    rw [if_neg (by decide)]
    exact .inl plain_10
  rw [if_neg h6]
  by_cases h7 : c.st = 7
  · rw [if_pos h7]
    unfold escapeS
    rw [if_pos hb]
    exact .inl plain_10
  rw [if_neg h7]
  exact .inl plain_10
theorem tokenS_end (hb : c.behind ≤ c.here.2.2) (h : tokenS s c 10 = .ok c') : c'.st = 3 ∨ c'.st = 5 ∨ c'.st = 0 ∧ c'.from = c.here := by
  unfold tokenS at h
  split at h
  · exact .inr (.inr (between_10 h))
  split at h
  · unfold remarkS at h
    rw [if_pos rfl] at h
    have := between_10 h
    exact .inr (.inr this)
  split at h
  · unfold signS at h
    have hn : isSgn (sinceL s c ++ encL 10) = false := by
      have he : encL 10 = [10] := by decide
      rw [he]
      have hall : ∀ l ∈ sgnL, l.getLast? ≠ some 10 := by decide
      unfold isSgn
      have hne : sinceL s c ++ [10] ∉ sgnL := fun hm => hall _ hm (by simp)
      simpa using hne
    rw [if_neg (by rw [hn]; decide)] at h
    have := between_10 h
    exact .inr (.inr this)
  split at h
  · unfold optionS at h
    rw [if_neg (by decide)] at h
    cases h
    exact .inl rfl
  · unfold textS at h
    rcases piece_10 (s := s) hb with e | ⟨c2, e, h5⟩
    · rw [e] at h
      have := between_10 h
      exact .inr (.inr this)
    · rw [e] at h
      cases h
      exact .inr (.inl h5)
end
/-- The scanner's run: its tokens are at their places. -/
theorem runS_K (s : ByteArray) (cF : Sc) : ∀ (f i : Nat) (c : Sc), (i = 0 ∧ c = c0S ∨ KS s c.here c ∧ (∃ n, plN s n = c.here) ∧ c.here.2.2 < s.size ∧ i = c.here.2.2 + (Utf8.decode s c.here.2.2).2) → s.size + 1 ≤ i + f → runS s f i c = .ok cF →
    cF.st = 3 ∨ cF.st = 5 ∨ cF.st = 0 ∧ TokOk s cF.toks ∧ (∃ n, plN s n = cF.from) ∧ cF.from.2.2 = s.size ∧ ∀ t ∈ cF.toks, t.pl.2.2 < s.size := by
  intro f
  induction f with
  | zero =>
    intro i c hc hf
    exfalso
    rcases hc with ⟨rfl, _⟩ | ⟨_, _, h3, h4⟩
    · omega
    · have := (dec_width s _ h3).2.2; omega
  | succ f ih =>
    intro i c hc hf hrun
    have hiz : i ≤ s.size := by
      rcases hc with ⟨rfl, _⟩ | ⟨_, _, h3, h4⟩
      · exact Nat.zero_le _
      · have := (dec_width s _ h3).2.2; omega
    have hx := (plNext_ix s c.here i).1
    have hj : JS s { c with here := plNext s c.here i } := by
      rcases hc with ⟨rfl, rfl⟩ | ⟨hk, ⟨n, hn⟩, h3, h4⟩
      · exact ⟨⟨0, rfl⟩, fun h => absurd rfl h, fun h => absurd rfl h, fun h => absurd rfl h, fun t ht => by simp [c0S] at ht, Nat.zero_le _, ⟨List.Pairwise.nil, fun t ht => by simp [c0S] at ht, fun t ht => by simp [c0S] at ht⟩⟩
      · have hw := (dec_width s _ h3).1
        have hpl : plNext s c.here i = plN s (n + 1) := by
          rw [← hn] at h3 h4 ⊢
          rw [h4]
          exact plNext_plN s n h3
        exact ⟨⟨n + 1, hpl.symm⟩, hk.fr, fun h0 => by have := hk.le h0; simp only [hx]; omega, hk.tl, fun t ht => by have := hk.t0 t ht; simp only [hx]; omega, hk.bh, hk.ok⟩
    rw [runS, if_pos (by omega)] at hrun
    by_cases hlt : i < s.size
    · rw [decode_nl s i hlt] at hrun
      cases ht : tokenS s { c with here := plNext s c.here i } ((Utf8.decode s i).1 : Nat) with
      | bad no p => rw [ht] at hrun; cases hrun
      | ok c2 =>
        rw [ht] at hrun
        have hk := tokenS_K hj (fun _ => by simp only [hx]; exact hlt) (by simp only [hx]; omega) ht
        have hh : c2.here = plNext s c.here i := hk.here
        have hw := (dec_width s i hlt).1
        refine ih (i + (Utf8.decode s i).2) c2 (.inr ⟨by rw [hh]; exact hk, by rw [hh]; exact hj.here, by rw [hh, hx]; exact hlt, by rw [hh, hx]⟩) (by omega) hrun
    · have hie : i = s.size := by omega
      subst hie
      rw [decode_end] at hrun
      cases ht : tokenS s { c with here := plNext s c.here s.size } ((10 : Nat) : Int) with
      | bad no p => rw [ht] at hrun; cases hrun
      | ok c2 =>
        rw [ht] at hrun
        have he : runS s f (s.size + 1) c2 = .ok c2 := by
          cases f with
          | zero => rfl
          | succ f => rw [runS, if_neg (by omega)]
        have hcF : c2 = cF := by
          have h2 : runS s f (s.size + 1) c2 = .ok cF := hrun
          rw [he] at h2
          exact TR.ok.inj h2
        subst hcF
        have hk := tokenS_K hj (fun h => by exact absurd h (by decide)) (by simp only [hx]; omega) ht
        rcases tokenS_end (c := { c with here := plNext s c.here s.size }) (by simp only [hx]; exact hj.bh) ht with h | h | ⟨h1, h2⟩
        · exact .inl h
        · exact .inr (.inl h)
        · refine .inr (.inr ⟨h1, hk.ok, by rw [h2]; exact hj.here, by rw [h2]; exact hx, fun t htm => ?_⟩)
          have h3 : c2.here = plNext s c.here s.size := hk.here
          have h4 := hk.tz (by rw [h2, h3]) t htm
          rw [h3, hx] at h4
          exact h4
/-- The tokens of a file that is taken. -/
theorem scan_places (s : ByteArray) {l : List Tk} (h : scanS s = .ok l) : TokOk s l ∧ ∃ l0 p, l = l0 ++ [⟨0, [], p⟩] ∧ p.2.2 = s.size := by
  unfold scanS at h
  split at h
  · cases h
  split at h
  · cases h
  cases hr : runS s (s.size + 1) 0 c0S with
  | bad no p => rw [hr] at h; cases h
  | ok c =>
    rw [hr] at h
    simp only [endS] at h
    rcases runS_K s c (s.size + 1) 0 c0S (.inl ⟨rfl, rfl⟩) (by omega) hr with h3 | h5 | ⟨h0, hok, hpl, hz, hlt⟩
    · rw [if_pos h3] at h; cases h
    · rw [if_neg (by omega), if_pos h5] at h; cases h
    · rw [if_neg (by omega), if_neg (by omega)] at h
      cases h
      exact ⟨hok.snoc (fun a ha => by rw [hz]; exact hlt a ha) hpl (fun hk => by cases hk), c.toks, c.from, rfl, hz⟩
end Go.Proofs.YtlfdpdlhppgakaaGreatDoor
/- Two files with the same rest: what the scanner sees of it. No run in this text. -/
namespace Go.Proofs.YtlfdpdlhppgakaaGreatDoor
open Go Go.RowKit Go.Kt Go.Kt.Rg Go.Shelf Go.Lib

section
variable {F G : ByteArray} {p q : Nat}
theorem same_size (h : F.data.toList.drop p = G.data.toList.drop q) : F.size - p = G.size - q := by
  have h1 := congrArg List.length h
  rw [List.length_drop, List.length_drop, ← Lib.size_eq, ← Lib.size_eq] at h1
  exact h1
theorem same_B (h : F.data.toList.drop p = G.data.toList.drop q) (j : Nat) : B F (p + j) = B G (q + j) := by
  unfold B
  rw [List.getD_eq_getElem?_getD, List.getD_eq_getElem?_getD, ← List.getElem?_drop, ← List.getElem?_drop, h]
theorem same_more (h : F.data.toList.drop p = G.data.toList.drop q) (j : Nat) : F.data.toList.drop (p + j) = G.data.toList.drop (q + j) := by
  rw [← List.drop_drop, ← List.drop_drop, h]
theorem same_dec (h : F.data.toList.drop p = G.data.toList.drop q) : Utf8.decode F p = Utf8.decode G q := by
  have h0 := same_B h 0
  rw [Nat.add_zero, Nat.add_zero] at h0
  rw [decode_B, decode_B, same_size h, h0, same_B h 1, same_B h 2, same_B h 3]
theorem same_nl (h : F.data.toList.drop p = G.data.toList.drop q) (hp : p ≤ F.size) (hq : q ≤ G.size) : (F ++ nlB).data.toList.drop p = (G ++ nlB).data.toList.drop q := by
  rw [nl_list, nl_list, List.drop_append_of_le_length (by rw [← Lib.size_eq]; exact hp), List.drop_append_of_le_length (by rw [← Lib.size_eq]; exact hq), h]
theorem same_seg (h : F.data.toList.drop p = G.data.toList.drop q) (x y : Nat) : seg F (p + x) (p + y) = seg G (q + x) (q + y) := by
  rw [seg_eq, seg_eq, List.drop_take, List.drop_take, same_more h x, show p + y - (p + x) = y - x by omega, show q + y - (q + x) = y - x by omega]
theorem same_unitW (h : F.data.toList.drop p = G.data.toList.drop q) (hp : p ≤ F.size) (hq : q ≤ G.size) : unitW F p = unitW G q := by
  have hz := same_size h
  unfold unitW
  by_cases h1 : p < F.size
  · rw [if_pos h1, if_pos (by omega), same_dec h]
  · rw [if_neg h1, if_neg (by omega)]
theorem same_unitL (h : F.data.toList.drop p = G.data.toList.drop q) (hp : p ≤ F.size) (hq : q ≤ G.size) : unitL F p = unitL G q := by
  have h1 : unitL F p = seg F (p + 0) (p + unitW F p) := rfl
  have h2 : unitL G q = seg G (q + 0) (q + unitW G q) := rfl
  rw [h1, h2, same_seg h, same_unitW h hp hq]
theorem same_rest (h : F.data.toList.drop p = G.data.toList.drop q) : F.extract p F.size = G.extract q G.size := by
  apply ByteArray.ext
  apply Array.toList_inj.1
  have h1 : (F.extract p F.size).data.toList = seg F p F.size := rfl
  have h2 : (G.extract q G.size).data.toList = seg G q G.size := rfl
  rw [h1, h2, seg_eq, seg_eq, List.take_of_length_le (by rw [← Lib.size_eq]; omega), List.take_of_length_le (by rw [← Lib.size_eq]; omega), h]
theorem same_unesc (h : F.data.toList.drop p = G.data.toList.drop q) : unescV (F.extract p F.size) = unescV (G.extract q G.size) := by rw [same_rest h]
end

/-- The same byte of the rest. -/
def Mv (p q u v : Nat) : Prop := ∃ x, u = p + x ∧ v = q + x
/-- Tokens one by one: kind, text, places. -/
def TkRel (PR : Pl → Pl → Prop) (X X' : List Tk) : Prop := X.length = X'.length ∧ ∀ (i : Nat) (a b : Tk), X[i]? = some a → X'[i]? = some b → b.kind = a.kind ∧ b.text = a.text ∧ PR a.pl b.pl
theorem TkRel.snoc {PR : Pl → Pl → Prop} {X X' : List Tk} {a b : Tk} (h : TkRel PR X X') (h1 : b.kind = a.kind ∧ b.text = a.text ∧ PR a.pl b.pl) : TkRel PR (X ++ [a]) (X' ++ [b]) := by
  refine ⟨by simp [h.1], fun i u v hu hv => ?_⟩
  by_cases hi : i < X.length
  · rw [List.getElem?_append_left hi] at hu
    rw [List.getElem?_append_left (by rw [← h.1]; exact hi)] at hv
    exact h.2 i u v hu hv
  · rw [List.getElem?_append_right (by omega)] at hu
    rw [List.getElem?_append_right (by rw [← h.1]; omega), ← h.1] at hv
    cases hk : i - X.length with
    | zero => rw [hk] at hu hv; simp at hu hv; subst hu; subst hv; exact h1
    | succ k => rw [hk] at hu; simp at hu
/-- Two scanners over two files with the same rest (from p on; from q on): PR relates their places, T their earlier tokens. -/
structure Sim (p q : Nat) (PR : Pl → Pl → Prop) (T T' : List Tk) (c c' : Sc) : Prop where
  st : c'.st = c.st
  here : PR c.here c'.here
  mv : Mv p q c.here.2.2 c'.here.2.2
  fr : PR c.from c'.from ∧ Mv p q c.from.2.2 c'.from.2.2
  text : 4 ≤ c.st → c'.text = c.text
  bh : c.st = 7 → Mv p q c.behind c'.behind
  qu : c.st = 5 ∨ c.st = 6 → PR c.quote c'.quote
  toks : ∃ X X', c.toks = T ++ X ∧ c'.toks = T' ++ X' ∧ TkRel PR X X'
section
variable {F G : ByteArray} {p q : Nat} {PR : Pl → Pl → Prop} {T T' : List Tk} {c c' c2 : Sc} {r : Int}
theorem sim_plain (h : F.data.toList.drop p = G.data.toList.drop q) (hs : Sim p q PR T T' c c') (h4 : 4 ≤ c.st) (hF : c.here.2.2 ≤ F.size) (hG : c'.here.2.2 ≤ G.size) :
    (∀ c2, plainS F c r = .took c2 → ∃ c2', plainS G c' r = .took c2' ∧ Sim p q PR T T' c2 c2') ∧ (∀ c2, plainS F c r = .left c2 → plainS G c' r = .left { c' with st := 4 }) := by
  obtain ⟨x, hx, hx'⟩ := hs.mv
  have hm := same_more h x
  rw [← hx, ← hx'] at hm
  have hfr := hs.fr
  have htx := hs.text h4
  constructor
  · intro c2 hp
    unfold plainS at hp ⊢
    by_cases h39 : r = 39
    · rw [if_pos h39] at hp ⊢
      cases hp
      exact ⟨_, rfl, ⟨rfl, hs.here, hs.mv, hfr, fun _ => htx, fun h => absurd h (by simp), fun _ => hs.here, hs.toks⟩⟩
    rw [if_neg h39] at hp ⊢
    by_cases h92 : r = 92
    · rw [if_pos h92] at hp ⊢
      rw [← same_unesc hm]
      cases hu : unescV (F.extract c.here.2.2 F.size) with
      | none => rw [hu] at hp; cases hp
      | some z =>
        obtain ⟨t, k⟩ := z
        rw [hu] at hp
        cases hp
        refine ⟨_, rfl, ⟨rfl, hs.here, hs.mv, hfr, fun _ => by simp only [htx], fun _ => ⟨x + k, by simp only; omega, by simp only; omega⟩, fun h => absurd h (by simp), hs.toks⟩⟩
    rw [if_neg h92] at hp ⊢
    by_cases hb : isBlk r = true
    · rw [if_pos hb] at hp; cases hp
    rw [if_neg hb] at hp ⊢
    by_cases hg : isSgs r = true
    · rw [if_pos hg] at hp; cases hp
    rw [if_neg hg] at hp ⊢
    cases hp
    refine ⟨_, rfl, ⟨rfl, hs.here, hs.mv, hfr, fun _ => by simp only [htx, same_unitL hm hF hG], fun h => absurd h (by simp), fun h => absurd h (by simp), hs.toks⟩⟩
  · intro c2 hp
    unfold plainS at hp ⊢
    by_cases h39 : r = 39
    · rw [if_pos h39] at hp; cases hp
    rw [if_neg h39] at hp ⊢
    by_cases h92 : r = 92
    · rw [if_pos h92] at hp
      split at hp <;> cases hp
    rw [if_neg h92] at hp ⊢
    by_cases hb : isBlk r = true
    · rw [if_pos hb]
    rw [if_neg hb] at hp ⊢
    by_cases hg : isSgs r = true
    · rw [if_pos hg]
    rw [if_neg hg] at hp
    cases hp
theorem sim_piece (h : F.data.toList.drop p = G.data.toList.drop q) (hs : Sim p q PR T T' c c') (h4 : 4 ≤ c.st) (hF : c.here.2.2 ≤ F.size) (hG : c'.here.2.2 ≤ G.size) :
    (∀ c2, pieceS F c r = .took c2 → ∃ c2', pieceS G c' r = .took c2' ∧ Sim p q PR T T' c2 c2') ∧ (∀ c2, pieceS F c r = .left c2 → pieceS G c' r = .left { c' with st := 4 }) := by
  obtain ⟨x, hx, hx'⟩ := hs.mv
  have hm := same_more h x
  rw [← hx, ← hx'] at hm
  have hfr := hs.fr
  have htx := hs.text h4
  have hpl := sim_plain (r := r) h hs h4 hF hG
  unfold pieceS
  rw [hs.st]
  by_cases h5 : c.st = 5
  · rw [if_pos h5, if_pos h5]
    unfold quotedS
    have hq := hs.qu (.inl h5)
    by_cases h39 : r = 39
    · rw [if_pos h39, if_pos h39]
      refine ⟨fun c2 hp => ?_, fun c2 hp => by cases hp⟩
      cases hp
      exact ⟨_, rfl, ⟨rfl, hs.here, hs.mv, hfr, fun _ => htx, fun h => absurd h (by simp), fun _ => hq, hs.toks⟩⟩
    · rw [if_neg h39, if_neg h39]
      refine ⟨fun c2 hp => ?_, fun c2 hp => by cases hp⟩
      cases hp
      exact ⟨_, rfl, ⟨hs.st, hs.here, hs.mv, hfr, fun _ => by simp only [htx, same_unitL hm hF hG], fun h => absurd h (by simp only; omega), fun _ => hq, hs.toks⟩⟩
  rw [if_neg h5, if_neg h5]
  by_cases h6 : c.st = 6
  · rw [if_pos h6, if_pos h6]
    unfold closingS
    have hq := hs.qu (.inr h6)
    by_cases h39 : r = 39
    · rw [if_pos h39, if_pos h39]
      refine ⟨fun c2 hp => ?_, fun c2 hp => by cases hp⟩
      cases hp
      exact ⟨_, rfl, ⟨rfl, hs.here, hs.mv, hfr, fun _ => by simp only [htx], fun h => absurd h (by simp), fun _ => hq, hs.toks⟩⟩
    · rw [if_neg h39, if_neg h39]
      exact hpl
  rw [if_neg h6, if_neg h6]
  by_cases h7 : c.st = 7
  · rw [if_pos h7, if_pos h7]
    unfold escapeS
    obtain ⟨y, hy, hy'⟩ := hs.bh h7
    by_cases hb : c.behind ≤ c.here.2.2
    · rw [if_pos hb, if_pos (by omega)]
      exact hpl
    · rw [if_neg hb, if_neg (by omega)]
      refine ⟨fun c2 hp => ?_, fun c2 hp => by cases hp⟩
      cases hp
      exact ⟨_, rfl, hs⟩
  rw [if_neg h7, if_neg h7]
  exact hpl
/-- From between on, whatever the states were. -/
theorem sim_between (h : F.data.toList.drop p = G.data.toList.drop q) (hh : PR c.here c'.here) (hv : Mv p q c.here.2.2 c'.here.2.2) (hk : ∃ X X', c.toks = T ++ X ∧ c'.toks = T' ++ X' ∧ TkRel PR X X') (hF : c.here.2.2 ≤ F.size) (hG : c'.here.2.2 ≤ G.size) (c2 : Sc) (hp : betweenS F c r = .ok c2) :
    ∃ c2', betweenS G c' r = .ok c2' ∧ Sim p q PR T T' c2 c2' := by
  unfold betweenS at hp ⊢
  by_cases hb : isBlk r = true
  · rw [if_pos hb] at hp ⊢
    cases hp
    exact ⟨_, rfl, ⟨rfl, hh, hv, ⟨hh, hv⟩, fun h => absurd h (by simp), fun h => absurd h (by simp), fun h => absurd h (by simp), hk⟩⟩
  rw [if_neg hb] at hp ⊢
  by_cases h35 : r = 35
  · rw [if_pos h35] at hp ⊢
    cases hp
    exact ⟨_, rfl, ⟨rfl, hh, hv, ⟨hh, hv⟩, fun h => absurd h (by simp), fun h => absurd h (by simp), fun h => absurd h (by simp), hk⟩⟩
  rw [if_neg h35] at hp ⊢
  by_cases hg : isSgn (encL r) = true
  · rw [if_pos hg] at hp ⊢
    cases hp
    exact ⟨_, rfl, ⟨rfl, hh, hv, ⟨hh, hv⟩, fun h => absurd h (by simp), fun h => absurd h (by simp), fun h => absurd h (by simp), hk⟩⟩
  rw [if_neg hg] at hp ⊢
  by_cases h91 : r = 91
  · rw [if_pos h91] at hp ⊢
    cases hp
    exact ⟨_, rfl, ⟨rfl, hh, hv, ⟨hh, hv⟩, fun h => absurd h (by simp), fun h => absurd h (by simp), fun h => absurd h (by simp), hk⟩⟩
  rw [if_neg h91] at hp ⊢
  by_cases h93 : r = 93
  · rw [if_pos h93] at hp; cases hp
  rw [if_neg h93] at hp ⊢
  by_cases h42 : r = 42
  · rw [if_pos h42] at hp; cases hp
  rw [if_neg h42] at hp ⊢
  have hs : Sim p q PR T T' { c with st := 4, «from» := c.here, text := [] } { c' with st := 4, «from» := c'.here, text := [] } :=
    ⟨rfl, hh, hv, ⟨hh, hv⟩, fun _ => rfl, fun h => absurd h (by simp), fun h => absurd h (by simp), hk⟩
  obtain ⟨s1, s2⟩ := sim_plain (r := r) h hs (by simp) hF hG
  cases hpl : plainS F { c with st := 4, «from» := c.here, text := [] } r with
  | took d =>
    rw [hpl] at hp
    cases hp
    obtain ⟨d', e1, e2⟩ := s1 _ hpl
    exact ⟨d', by rw [e1]; rfl, e2⟩
  | left d =>
    exact (plain_left hpl (by simpa using hb) (by simpa using hg) h35 h91 h93 h42).elim
  | bad no z => rw [hpl] at hp; cases hp
theorem sim_token (h : F.data.toList.drop p = G.data.toList.drop q) (hs : Sim p q PR T T' c c') (hF : c.here.2.2 ≤ F.size) (hG : c'.here.2.2 ≤ G.size) (c2 : Sc) (hp : tokenS F c r = .ok c2) :
    ∃ c2', tokenS G c' r = .ok c2' ∧ Sim p q PR T T' c2 c2' := by
  have hadd : ∀ (k : Nat) (x : List UInt8), c.st ≠ 0 → ∃ X X', c.toks ++ [⟨k, x, c.from⟩] = T ++ X ∧ c'.toks ++ [⟨k, x, c'.from⟩] = T' ++ X' ∧ TkRel PR X X' := fun k x h0 => by
    obtain ⟨X, X', e1, e2, e3⟩ := hs.toks
    exact ⟨X ++ [⟨k, x, c.from⟩], X' ++ [⟨k, x, c'.from⟩], by rw [e1, List.append_assoc], by rw [e2, List.append_assoc], e3.snoc ⟨rfl, rfl, hs.fr.1⟩⟩
  have hsl : ∀ y, c.st ≠ 0 → seg F (c.from.2.2 + y) c.here.2.2 = seg G (c'.from.2.2 + y) c'.here.2.2 := fun y h0 => by
    obtain ⟨x, hx, hx'⟩ := hs.mv
    obtain ⟨z, hz, hz'⟩ := hs.fr.2
    rw [hx, hx', hz, hz', show p + z + y = p + (z + y) by omega, show q + z + y = q + (z + y) by omega]
    exact same_seg h (z + y) x
  unfold tokenS at hp ⊢
  rw [hs.st]
  by_cases h0 : c.st = 0
  · rw [if_pos h0] at hp ⊢
    exact sim_between h hs.here hs.mv hs.toks hF hG c2 hp
  rw [if_neg h0] at hp ⊢
  have hfr := hs.fr
  have hsi : sinceL F c = sinceL G c' := hsl 0 h0
  by_cases h1 : c.st = 1
  · rw [if_pos h1] at hp ⊢
    unfold remarkS at hp ⊢
    by_cases h10 : r = 10
    · rw [if_pos h10] at hp ⊢
      exact sim_between (c := { c with st := 1 }) (c' := { c' with st := 1 }) h hs.here hs.mv hs.toks hF hG c2 hp
    · rw [if_neg h10] at hp ⊢
      cases hp
      exact ⟨_, rfl, ⟨rfl, hs.here, hs.mv, hfr, fun h => absurd h (by simp), fun h => absurd h (by simp), fun h => absurd h (by simp), hs.toks⟩⟩
  rw [if_neg h1] at hp ⊢
  by_cases h2 : c.st = 2
  · rw [if_pos h2] at hp ⊢
    unfold signS at hp ⊢
    rw [← hsi]
    by_cases hg : isSgn (sinceL F c ++ encL r) = true
    · rw [if_pos hg] at hp ⊢
      cases hp
      exact ⟨_, rfl, ⟨rfl, hs.here, hs.mv, hfr, fun h => absurd h (by simp), fun h => absurd h (by simp), fun h => absurd h (by simp), hs.toks⟩⟩
    · rw [if_neg hg] at hp ⊢
      exact sim_between (c := addT { c with st := 2 } 2 (sinceL F c)) (c' := addT { c' with st := 2 } 2 (sinceL F c)) h hs.here hs.mv (hadd 2 _ h0) hF hG c2 hp
  rw [if_neg h2] at hp ⊢
  by_cases h3 : c.st = 3
  · rw [if_pos h3] at hp ⊢
    unfold optionS at hp ⊢
    by_cases h93 : r = 93
    · rw [if_pos h93] at hp ⊢
      have he : F.extract (c.from.2.2 + 1) c.here.2.2 = G.extract (c'.from.2.2 + 1) c'.here.2.2 := by
        apply ByteArray.ext
        apply Array.toList_inj.1
        exact hsl 1 h0
      rw [← he]
      cases hp
      exact ⟨_, rfl, ⟨rfl, hs.here, hs.mv, hfr, fun h => absurd h (by simp), fun h => absurd h (by simp), fun h => absurd h (by simp), hadd 3 _ h0⟩⟩
    · rw [if_neg h93] at hp ⊢
      cases hp
      exact ⟨_, rfl, ⟨rfl, hs.here, hs.mv, hfr, fun h => absurd h (by simp), fun h => absurd h (by simp), fun h => absurd h (by simp), hs.toks⟩⟩
  rw [if_neg h3] at hp ⊢
  have h4 : 4 ≤ c.st := by omega
  obtain ⟨s1, s2⟩ := sim_piece (r := r) h hs h4 hF hG
  unfold textS at hp ⊢
  cases hpp : pieceS F c r with
  | took d =>
    rw [hpp] at hp
    cases hp
    obtain ⟨d', e1, e2⟩ := s1 _ hpp
    exact ⟨d', by rw [e1], e2⟩
  | bad no z => rw [hpp] at hp; cases hp
  | left d =>
    rw [hpp] at hp
    have hd := pieceS_left hpp
    subst hd
    rw [s2 _ hpp]
    have htx := hs.text h4
    have := hadd 1 c.text h0
    exact sim_between (c := addT { c with st := 4 } 1 c.text) (c' := addT { c' with st := 4 } 1 c'.text) h hs.here hs.mv (by rw [htx]; exact this) hF hG c2 hp
/-- The runs over the rest go side by side. -/
theorem sim_run (h : F.data.toList.drop p = G.data.toList.drop q) (hp : p ≤ F.size) (hq : q ≤ G.size) (hPR : ∀ u v x, PR u v → Mv p q u.2.2 v.2.2 → 0 < x → PR (plNext F u (p + x)) (plNext G v (q + x))) :
    ∀ (f x : Nat) (c c' cF : Sc) (f' : Nat), 0 < x → Sim p q PR T T' c c' → runS F f (p + x) c = .ok cF → F.size + 1 ≤ p + x + f → G.size + 1 ≤ q + x + f' → ∃ cG, runS G f' (q + x) c' = .ok cG ∧ Sim p q PR T T' cF cG := by
  have hz := same_size h
  have stop : ∀ (H : ByteArray) (f i : Nat) (c : Sc), ¬ i < H.size + 1 → runS H f i c = .ok c := fun H f i c hi => by
    cases f with
    | zero => rfl
    | succ f => rw [runS, if_neg hi]
  intro f
  induction f with
  | zero =>
    intro x c c' cF f' hx hs hr hf hf'
    cases hr
    exact ⟨c', stop G f' (q + x) c' (by omega), hs⟩
  | succ f ih =>
    intro x c c' cF f' hx hs hr hf hf'
    by_cases hlt : p + x < F.size + 1
    · obtain ⟨f', rfl⟩ : ∃ g, f' = g + 1 := ⟨f' - 1, by omega⟩
      rw [runS, if_pos hlt] at hr
      rw [runS, if_pos (by omega)]
      have hd : Utf8.decode (F ++ nlB) (p + x) = Utf8.decode (G ++ nlB) (q + x) := same_dec (same_more (same_nl h hp hq) x)
      rw [← hd]
      have e1 := (plNext_ix F c.here (p + x)).1
      have e2 := (plNext_ix G c'.here (q + x)).1
      have hs1 : Sim p q PR T T' { c with here := plNext F c.here (p + x) } { c' with here := plNext G c'.here (q + x) } :=
        ⟨hs.st, hPR _ _ x hs.here hs.mv hx, ⟨x, e1, e2⟩, hs.fr, hs.text, hs.bh, hs.qu, hs.toks⟩
      have hw : 1 ≤ (Utf8.decode (F ++ nlB) (p + x)).2 := (dec_width (F ++ nlB) (p + x) (by rw [nl_size]; exact hlt)).1
      generalize (Utf8.decode (F ++ nlB) (p + x)).2 = v at *
      cases ht : tokenS F { c with here := plNext F c.here (p + x) } ((Utf8.decode (F ++ nlB) (p + x)).1 : Nat) with
      | bad no z => rw [ht] at hr; cases hr
      | ok c2 =>
        rw [ht] at hr
        obtain ⟨c2', e3, e4⟩ := sim_token h hs1 (by simp only [e1]; omega) (by simp only [e2]; omega) c2 ht
        rw [e3]
        simp only at hr ⊢
        rw [Nat.add_assoc] at hr ⊢
        exact ih (x + v) c2 c2' cF f' (by omega) e4 hr (by omega) (by omega)
    · rw [stop F (f + 1) (p + x) c hlt] at hr
      cases hr
      exact ⟨c', stop G f' (q + x) c' (by omega), hs⟩
end
end Go.Proofs.YtlfdpdlhppgakaaGreatDoor
/- A file whose beginning is another's: escapes. No run in this text. -/
namespace Go.Proofs.YtlfdpdlhppgakaaGreatDoor
open Go Go.RowKit Go.Kt Go.Kt.Rg Go.Shelf Go.Lib

theorem upB_ext {a b : List UInt8} (h : a.contains 125 = true) : upB (a ++ b) = upB a := by
  unfold upB
  induction a with
  | nil => simp at h
  | cons x a ih =>
    rw [List.cons_append, List.takeWhile_cons, List.takeWhile_cons]
    by_cases hx : x = 125
    · subst hx; rfl
    · have h2 : a.contains 125 = true := by
        rw [List.contains_cons] at h
        rcases Bool.or_eq_true _ _ ▸ h with h | h
        · exact absurd (beq_iff_eq.1 h).symm hx
        · exact h
      rw [ih h2]
theorem unesc_ext {X Y : ByteArray} {Z t : List UInt8} {k : Nat} (hY : Y.data.toList = X.data.toList ++ Z) (hd : Utf8.decode Y 1 = Utf8.decode X 1) (h : unescV X = some (t, k)) : unescV Y = some (t, k) := by
  have h1 : 1 < X.size := by
    by_cases h1 : 1 < X.size
    · exact h1
    · unfold unescV at h
      rw [show unitW X 1 = 0 by unfold unitW; rw [if_neg h1], if_pos rfl] at h
      cases h
  have hz : Y.size = X.size + Z.length := by rw [Lib.size_eq, hY, List.length_append, ← Lib.size_eq]
  have hw : unitW Y 1 = unitW X 1 := by unfold unitW; rw [if_pos h1, if_pos (by omega), hd]
  have hp : (decP Y 1).1 = (decP X 1).1 := by
    have e1 := decP_in Y 1 (by omega)
    have e2 := decP_in X 1 h1
    rw [show ((1 : Nat) : Int) = 1 from rfl] at e1 e2
    rw [e1, e2, hd]
  have hsg : (Y.extract 1 (1 + unitW X 1)).data.toList = (X.extract 1 (1 + unitW X 1)).data.toList := by
    have a1 : (Y.extract 1 (1 + unitW X 1)).data.toList = seg Y 1 (1 + unitW X 1) := rfl
    have a2 : (X.extract 1 (1 + unitW X 1)).data.toList = seg X 1 (1 + unitW X 1) := rfl
    have hb := (unitW_bd X 1 (by omega)).2.1
    rw [a1, a2, seg_eq, seg_eq, hY, List.take_append_of_le_length (by rw [← Lib.size_eq]; exact hb)]
  unfold unescV at h ⊢
  rw [hw, hp, hsg]
  split at h
  · cases h
  rename_i n0
  rw [if_neg n0]
  split at h
  · rename_i n1
    rw [if_pos n1]
    unfold chrV at h ⊢
    cases hop : opn X.data.toList with
    | false =>
      rw [hop] at h
      unfold chrO at h
      split at h
      · cases h
      · simp at h
    | true =>
      rw [hop] at h
      have hpx : [92, 117, 123] <+: X.data.toList := by
        unfold opn at hop
        exact List.isPrefixOf_iff_prefix.1 hop
      have hl3 : 3 ≤ X.data.toList.length := by have := hpx.length_le; simpa using this
      have hoy : opn Y.data.toList = true := by
        unfold opn
        rw [hY]
        exact List.isPrefixOf_iff_prefix.2 (hpx.trans (List.prefix_append _ _))
      have hr : rst Y.data.toList = rst X.data.toList ++ Z := by
        unfold rst
        rw [if_pos hop, if_pos hoy, hY, List.drop_append_of_le_length hl3]
      cases hct : (rst X.data.toList).contains 125 with
      | false =>
        rw [hct] at h
        unfold chrO at h
        split at h
        · cases h
        · simp at h
      | true =>
        rw [hct] at h
        rw [hoy, hr, upB_ext hct, show (rst X.data.toList ++ Z).contains 125 = true by rw [List.contains_iff_mem, List.mem_append]; exact .inl (List.contains_iff_mem.1 hct)]
        exact h
  · rename_i n1
    rw [if_neg n1]
    split at h
    · rename_i n2
      rw [if_pos n2]
      unfold illV at h ⊢
      split at h
      · cases h
      · rename_i h4
        rw [if_neg (by rw [hY, List.length_append]; omega)]
        have hdt : (Y.data.toList.drop 2).take 2 = (X.data.toList.drop 2).take 2 := by
          rw [hY, List.drop_append_of_le_length (by omega), List.take_append_of_le_length (by rw [List.length_drop]; omega)]
        rw [hdt]
        exact h
    · rename_i n2
      rw [if_neg n2]
      exact h
/-- A unit of the beginning is the same where a byte below 128 stands behind the beginning. -/
theorem dec_two {E F : ByteArray} {p i : Nat} (hag : ∀ j, j < p → B E j = B F j) (hi : i < p) (hpE : p ≤ E.size) (hpF : p < F.size) (hb : B F p < 128) (hw : i + (Utf8.decode E i).2 ≤ p) : Utf8.decode F i = Utf8.decode E i := by
  obtain ⟨d1, d2, d3⟩ := dec_width E i (by omega)
  obtain ⟨e1, e2, e3⟩ := dec_width F i (by omega)
  by_cases hne : (Utf8.decode E i).1 = 65533 ∧ (Utf8.decode E i).2 = 1
  · by_cases hnf : (Utf8.decode F i).1 = 65533 ∧ (Utf8.decode F i).2 = 1
    · exact Prod.ext (hnf.1.trans hne.1.symm) (hnf.2.trans hne.2.symm)
    · have hin : i + (Utf8.decode F i).2 ≤ p := by
        by_cases hlo : (Utf8.decode F i).1 < 128
        · have := (dec_r_lo hlo).2; omega
        · by_cases hgt : i + (Utf8.decode F i).2 ≤ p
          · exact hgt
          · have := dec_hi_bytes (by omega) hnf (p - i) (by omega)
            rw [show i + (p - i) = p by omega] at this
            omega
      have hq : Utf8.decode F i = ((Utf8.decode F i).1, (Utf8.decode F i).2) := rfl
      generalize (Utf8.decode F i).1 = r at *
      generalize (Utf8.decode F i).2 = v at *
      rw [hq, decode_B E i, hag i hi]
      rw [decode_B] at hq
      exact (decN_pre hq hnf (by omega) (fun h => hag _ (by omega)) (fun h => hag _ (by omega)) (fun h => hag _ (by omega))).symm
  · have hq : Utf8.decode E i = ((Utf8.decode E i).1, (Utf8.decode E i).2) := rfl
    generalize (Utf8.decode E i).1 = r at *
    generalize (Utf8.decode E i).2 = v at *
    rw [hq, decode_B F i, ← hag i hi]
    rw [decode_B] at hq
    exact decN_pre hq hne (by omega) (fun h => (hag _ (by omega)).symm) (fun h => (hag _ (by omega)).symm) (fun h => (hag _ (by omega)).symm)
end Go.Proofs.YtlfdpdlhppgakaaGreatDoor
/- The laws' own: works. -/
namespace Go.Proofs.YtlfdpdlhppgakaaGreatDoor
open Go Go.RowKit Go.Kt Go.Shelf Go.Lib
attribute [local go_sem] Oper.semAt_some

theorem ownS_at {Y : Nat → Prop} {e : TypeId} {sz n g cap : Nat} {xs : List Value} {W : World} (h : OwnS Y e sz (.slice (some ⟨g, 0, none⟩) n cap) n xs W) {i : Nat} {u : Value} (hi : xs[i]? = some u) : W.cell? ⟨g, i, none⟩ = some u := by
  have := h.1.cells (g := g) rfl i u hi
  by_cases h0 : i = 0
  · subst h0; simpa [Addr.add] using this
  · simpa [Addr.add, h0] using this
theorem scan_a : scanS ⟨#[97, 32, 60]⟩ = .ok [⟨1, [97], (1, 1, 0)⟩, ⟨2, [60], (1, 3, 2)⟩, ⟨0, [], (1, 4, 3)⟩] := by kernel_rfl
theorem scan_b : scanS ⟨#[97, 32, 93]⟩ = .bad 25 1 3 := by kernel_rfl

set_option maxHeartbeats 1000000 in
set_option maxRecDepth 100000 in
theorem works_any5 (w : World) (hE : SEnv w) :
    Calls Tryz.prog 10 #[] w fun e w' => e = .returned (.bool true) ∧ Below w.heap.size w w' := by
  have C1 := Lib.hid (scan_any ⟨#[97, 32, 60]⟩ w hE (by decide))
  rw [scan_a] at C1
  have HE := Lib.hid hE
  clear hE
  go_enter Tryz.func10, Tryz.ntmps10
  go_wp2_with fail
  refine C1.out.mono ?_
  rintro e w1 ⟨⟨g, cap, rfl, ho⟩, hb1⟩
  have hE1 := HE.out.below hb1
  have C2 := Lib.hid (scan_any ⟨#[97, 32, 93]⟩ w1 hE1 (by decide))
  rw [scan_b] at C2
  have HO := Lib.hid (And.intro ho hb1)
  clear ho hb1 hE1
  go_wp2_with fail
  refine C2.out.mono ?_
  rintro e w2 ⟨rfl, hb2⟩
  have hE2 := (HE.out.below HO.out.2).below hb2
  have ho2 := HO.out.1.keep (X := fun _ => False) (Keep.of_all hb2) (fun _ h => h.elim)
  have q1 : w2.cell? ⟨g, 1, none⟩ = some (.string ⟨#[97]⟩) := ownS_at ho2 (i := 1) rfl
  have q5 : w2.cell? ⟨g, 5, none⟩ = some (.int .i64 2) := ownS_at ho2 (i := 5) rfl
  have CA := Lib.hid (fun V (h : Below w2.heap.size w2 V) => at_fault 25 1 3 V (by decide) (by decide) (hE2.below h).err)
  have HB := Lib.hid (HO.out.2.trans (hb2.mono HO.out.2.size))
  clear ho2 hb2 hE2
  go_wp2_with (go_at_call 13; refine (CA.out _ (Below.refl _ _)).mono ?_; rintro e w3 ⟨rfl, hb3⟩)
  go_ret
  exact ⟨rfl, HB.out.trans (hb3.mono HB.out.size)⟩
end Go.Proofs.YtlfdpdlhppgakaaGreatDoor
/- A text's line ends, counted by the law; cells of tokens; a beginning's units. -/
namespace Go.Proofs.YtlfdpdlhppgakaaGreatDoor
open Go Go.RowKit Go.Kt Go.Shelf Go.Lib
attribute [local go_sem] Oper.semAt_some

set_option maxRecDepth 100000 in
theorem ended_any (s : ByteArray) (w : World) (hs : s.size ≤ 140737488351232) :
    Calls Tryz.prog 19 #[.string s] w fun e w' => e = .returned (.int .i64 (nlc s s.size : Nat)) ∧ w = w' := by
  go_enter Tryz.func19, Tryz.ntmps19
  go_wp2
  go_loopw [3, 4] (fun n v wr => ∃ i : Nat, v = .int .i64 i ∧ n = .int .i64 (nlc s i : Nat) ∧ i ≤ s.size ∧ nlc s i ≤ i ∧ wr = w) (fun _ v _ => s.size - (RowKit.intOf v).toNat)
  case atStart => exact ⟨0, rfl, by simp [nlc], Nat.zero_le _, by simp [nlc], rfl⟩
  case round =>
    obtain ⟨i, rfl, rfl, hi, hni, rfl⟩ := hrel
    by_cases hlt : i < s.size
    · have HI : ∀ w, (Instr.index 9 (.string s) (.int .i64 (i : Nat))).run Tryz.prog w = .ok (.int .u8 (bAt s i)) w := fun w => run_bAt s i hlt w
      have hBb : bAt s i = (B s i : Nat) := rfl
      have hsu := nlc_succ s i hlt
      have hlt' : (i : Int) < s.size := by omega
      by_cases h10 : B s i = 10
      · have hb : bAt s i = 10 := by rw [hBb, h10]; rfl
        rw [if_pos h10] at hsu
        generalize nlc s i = n at *
        rw [hb] at HI
        clear hb hBb h10
        have HS := Lib.hid hsu
        clear hsu
        go_wp2
        go_roundw
        case rel => exact ⟨i + 1, rfl, by rw [HS.out]; rfl, by omega, by have := HS.out; omega, trivial⟩
        case measure => simp [RowKit.intOf]; omega
      · rw [if_neg h10, Nat.add_zero] at hsu
        have hb : (bAt s i == 10) = false := by rw [hBb]; simp; omega
        generalize bAt s i = b at *
        generalize nlc s i = n at *
        have HS := Lib.hid hsu
        clear hsu hBb h10
        go_wp2
        go_roundw
        case rel => exact ⟨i + 1, rfl, congrArg (fun x : Nat => Value.int .i64 x) HS.out.symm, by omega, by have := HS.out; omega, trivial⟩
        case measure => simp [RowKit.intOf]; omega
    · have hie : i = s.size := by omega
      subst hie
      have hlt' : ¬ (s.size : Int) < s.size := by omega
      go_wp2
      go_ret
      exact ⟨rfl, rfl⟩
theorem tksC_get : ∀ (L : List Tk) (i k : Nat) (t : Tk), L[i]? = some t → k < 5 → (tksC L)[i * 5 + k]? = (tkC t)[k]?
  | [], i, k, t, h, _ => by simp at h
  | a :: L, 0, k, t, h, hk => by
    simp at h
    subst h
    have : tksC (a :: L) = tkC a ++ tksC L := by simp [tksC]
    rw [this, Nat.zero_mul, Nat.zero_add, List.getElem?_append_left (by simp [tkC]; omega)]
  | a :: L, i + 1, k, t, h, hk => by
    have h' : L[i]? = some t := by simpa using h
    have : tksC (a :: L) = tkC a ++ tksC L := by simp [tksC]
    rw [this, List.getElem?_append_right (by simp [tkC]; omega), ← tksC_get L i k t h' hk]
    congr 1
    simp [tkC]; omega
/-- The units of a text's beginning. -/
theorem dec_head (s : ByteArray) (p m : Nat) (hm : m ≤ s.size) (hp : p < m) (hw : p + (Utf8.decode s p).2 ≤ m) : Utf8.decode (s.extract 0 m) p = Utf8.decode s p := by
  have hz : (s.extract 0 m).size = m := by rw [ByteArray.size_extract]; omega
  have hB : ∀ j, j < m → B (s.extract 0 m) j = B s j := fun j hj => by
    unfold B
    have : (s.extract 0 m).data.toList = s.data.toList.take m := by simp
    rw [this, List.getD_eq_getElem?_getD, List.getD_eq_getElem?_getD, List.getElem?_take, if_pos hj]
  obtain ⟨d1, d2, d3⟩ := dec_width s p (by omega)
  obtain ⟨e1, e2, e3⟩ := dec_width (s.extract 0 m) p (by omega)
  rw [hz] at e3
  by_cases hne : (Utf8.decode s p).1 = 65533 ∧ (Utf8.decode s p).2 = 1
  · by_cases hne2 : (Utf8.decode (s.extract 0 m) p).1 = 65533 ∧ (Utf8.decode (s.extract 0 m) p).2 = 1
    · exact Prod.ext (hne2.1.trans hne.1.symm) (hne2.2.trans hne.2.symm)
    · have hq : Utf8.decode (s.extract 0 m) p = ((Utf8.decode (s.extract 0 m) p).1, (Utf8.decode (s.extract 0 m) p).2) := rfl
      generalize (Utf8.decode (s.extract 0 m) p).1 = r at *
      generalize (Utf8.decode (s.extract 0 m) p).2 = v at *
      rw [hq, decode_B s p]
      rw [decode_B, hB p hp] at hq
      exact (decN_pre hq hne2 (by omega) (fun h => (hB _ (by omega)).symm) (fun h => (hB _ (by omega)).symm) (fun h => (hB _ (by omega)).symm)).symm
  · have hq : Utf8.decode s p = ((Utf8.decode s p).1, (Utf8.decode s p).2) := rfl
    generalize (Utf8.decode s p).1 = r at *
    generalize (Utf8.decode s p).2 = v at *
    rw [hq, decode_B, hB p hp]
    rw [decode_B] at hq
    exact decN_pre hq hne (by omega) (fun h => hB _ (by omega)) (fun h => hB _ (by omega)) (fun h => hB _ (by omega))

theorem toks_few {s : ByteArray} {L : List Tk} (h : TokOk s L) : L.length ≤ s.size + 1 := by
  have key : ∀ k (hk : k < L.length), k ≤ (L[k]).pl.2.2 := by
    intro k
    induction k with
    | zero => intro _; exact Nat.zero_le _
    | succ k ih =>
      intro hk
      have h1 := ih (by omega)
      have h2 := List.pairwise_iff_getElem.1 h.up k (k + 1) (by omega) hk (by omega)
      omega
  by_cases h0 : L.length = 0
  · omega
  have h1 := key (L.length - 1) (by omega)
  obtain ⟨n, hn⟩ := h.pl (L[L.length - 1]'(by omega)) (List.getElem_mem _)
  have h2 := plN_le s n
  rw [hn] at h2
  omega
/-- The cells of a list of tokens that was handed out. -/
theorem toks_cells {Y : Nat → Prop} {L : List Tk} {g cap : Nat} {W : World} (ho : OwnS Y 39 5 (.slice (some ⟨g, 0, none⟩) L.length cap) L.length (tksC L) W) {V : World} {i : Nat} {t : Tk} (hV : Below W.heap.size W V) (ht : L[i]? = some t) :
    V.cell? ⟨g, i * 5, none⟩ = some (.int .i64 (t.kind : Nat)) ∧ V.cell? ⟨g, i * 5 + 1, none⟩ = some (.string ⟨t.text.toArray⟩) ∧ V.cell? ⟨g, i * 5 + 2, none⟩ = some (.int .i64 (t.pl.1 : Nat)) ∧ V.cell? ⟨g, i * 5 + 3, none⟩ = some (.int .i64 (t.pl.2.1 : Nat)) ∧ V.cell? ⟨g, i * 5 + 4, none⟩ = some (.int .i64 (t.pl.2.2 : Nat)) := by
  have hgl : g < W.heap.size := (ho.1.lt g rfl).2
  have hc : ∀ k u, k < 5 → (tkC t)[k]? = some u → V.cell? ⟨g, i * 5 + k, none⟩ = some u := fun k u hk hu => (hV.cell (p := ⟨g, i * 5 + k, none⟩) hgl).trans (ownS_at ho (by rw [tksC_get L i k t ht hk]; exact hu))
  exact ⟨hc 0 _ (by decide) rfl, hc 1 _ (by decide) rfl, hc 2 _ (by decide) rfl, hc 3 _ (by decide) rfl, hc 4 _ (by decide) rfl⟩
end Go.Proofs.YtlfdpdlhppgakaaGreatDoor
/- A file whose beginning is another's: the scanner's run over it. No run in this text. -/
namespace Go.Proofs.YtlfdpdlhppgakaaGreatDoor
open Go Go.RowKit Go.Kt Go.Kt.Rg Go.Shelf Go.Lib

theorem unesc_ge {Y : ByteArray} {t : List UInt8} {k : Nat} (h : unescV Y = some (t, k)) : 2 ≤ k := by
  unfold unescV at h
  split at h
  · cases h
  rename_i n0
  split at h
  · unfold chrV at h
    cases hp : puV 16777215 (upB (rst Y.data.toList)) with
    | none => rw [hp] at h; cases h
    | some n =>
      rw [hp] at h
      unfold chrO at h
      simp only at h
      split at h
      · injection h with h; injection h with h2 h3; omega
      · cases h
  split at h
  · unfold illV at h
    split at h
    · cases h
    split at h
    · split at h
      · cases h
      · injection h with h; injection h with h2 h3; omega
    · cases h
  · injection h with h; injection h with h2 h3; omega
theorem upB_long {a b : List UInt8} (h : (upB (a ++ b)).length < a.length) : a.contains 125 = true := by
  cases hc : a.contains 125 with
  | true => rfl
  | false =>
    exfalso
    have hall : ∀ x ∈ a, (x != 125) = true := fun x hx => by
      have : x ≠ 125 := fun e => by
        subst e
        rw [List.contains_iff_mem.2 hx] at hc
        cases hc
      simpa using this
    unfold upB at h
    rw [List.takeWhile_append_of_pos hall, List.length_append] at h
    omega
set_option maxRecDepth 100000 in
theorem unesc_cut {X Y : ByteArray} {Z t : List UInt8} {k : Nat} (hY : Y.data.toList = X.data.toList ++ Z) (hd : 1 < X.size → Utf8.decode Y 1 = Utf8.decode X 1) (hk : k ≤ X.size) (h : unescV Y = some (t, k)) : unescV X = some (t, k) := by
  have hk2 := unesc_ge h
  have h1 : 1 < X.size := by omega
  have hd := hd h1
  have hz : Y.size = X.size + Z.length := by rw [Lib.size_eq, hY, List.length_append, ← Lib.size_eq]
  have hw : unitW Y 1 = unitW X 1 := by unfold unitW; rw [if_pos h1, if_pos (by omega), hd]
  have hp : (decP Y 1).1 = (decP X 1).1 := by
    have e1 := decP_in Y 1 (by omega)
    have e2 := decP_in X 1 h1
    rw [show ((1 : Nat) : Int) = 1 from rfl] at e1 e2
    rw [e1, e2, hd]
  have hsg : (Y.extract 1 (1 + unitW X 1)).data.toList = (X.extract 1 (1 + unitW X 1)).data.toList := by
    have a1 : (Y.extract 1 (1 + unitW X 1)).data.toList = seg Y 1 (1 + unitW X 1) := rfl
    have a2 : (X.extract 1 (1 + unitW X 1)).data.toList = seg X 1 (1 + unitW X 1) := rfl
    have hb := (unitW_bd X 1 (by omega)).2.1
    rw [a1, a2, seg_eq, seg_eq, hY, List.take_append_of_le_length (by rw [← Lib.size_eq]; exact hb)]
  have hxl : X.data.toList.length = X.size := (Lib.size_eq X).symm
  unfold unescV at h ⊢
  rw [hw, hp, hsg] at h
  split at h
  · cases h
  rename_i n0
  rw [if_neg n0]
  split at h
  · rename_i n1
    rw [if_pos n1]
    unfold chrV at h ⊢
    cases hpu : puV 16777215 (upB (rst Y.data.toList)) with
    | none => rw [hpu] at h; cases h
    | some n =>
      rw [hpu] at h
      unfold chrO at h
      simp only at h
      split at h
      · rename_i hc
        have hc0 := hc
        have h2 := congrArg Prod.fst (Option.some.inj h)
        have h3 := congrArg Prod.snd (Option.some.inj h)
        simp only at h2 h3
        simp only [Bool.and_eq_true] at hc
        obtain ⟨⟨⟨ho, hkk⟩, h6⟩, hv⟩ := hc
        clear hc0
        have hpy : [92, 117, 123] <+: Y.data.toList := by
          unfold opn at ho
          exact List.isPrefixOf_iff_prefix.1 ho
        have hpx : [92, 117, 123] <+: X.data.toList := by
          rw [List.prefix_iff_eq_take] at hpy ⊢
          rw [hY, List.take_append_of_le_length (by simp; omega)] at hpy
          exact hpy
        have hox : opn X.data.toList = true := by
          unfold opn
          exact List.isPrefixOf_iff_prefix.2 hpx
        have hr : rst Y.data.toList = rst X.data.toList ++ Z := by
          unfold rst
          rw [if_pos ho, if_pos hox, hY, List.drop_append_of_le_length (by omega)]
        have hrl : (rst X.data.toList).length = X.size - 3 := by unfold rst; rw [if_pos hox, List.length_drop, hxl]
        have hcx : (rst X.data.toList).contains 125 = true := upB_long (b := Z) (by rw [← hr]; omega)
        have hu : upB (rst Y.data.toList) = upB (rst X.data.toList) := by rw [hr, upB_ext hcx]
        rw [hu] at hpu h6 h3
        rw [hpu]
        unfold chrO
        simp only
        have hc1 : (opn X.data.toList && (rst X.data.toList).contains 125 && decide ((upB (rst X.data.toList)).length ≤ 6) && Lib.validRune (n : Nat)) = true := by
          rw [hox, hcx, h6, hv]; rfl
        rw [if_pos hc1, ← h2, ← h3]
      · cases h
  · rename_i n1
    rw [if_neg n1]
    split at h
    · rename_i n2
      rw [if_pos n2]
      unfold illV at h ⊢
      split at h
      · cases h
      · rename_i h4
        have hk4 : 4 ≤ X.size := by
          split at h
          · split at h
            · cases h
            · injection h with h; injection h with h2 h3; omega
          · cases h
        rw [if_neg (by omega)]
        have hdt : (Y.data.toList.drop 2).take 2 = (X.data.toList.drop 2).take 2 := by
          rw [hY, List.drop_append_of_le_length (by omega), List.take_append_of_le_length (by rw [List.length_drop]; omega)]
        rw [← hdt]
        exact h
    · rename_i n2
      rw [if_neg n2]
      exact h

/-- F begins as E does, up to p; there a byte below 128 stands in F. -/
structure Beg (E F : ByteArray) (p : Nat) : Prop where
  eq : F.data.toList.take p = E.data.toList.take p
  pE : p ≤ E.size
  pF : p < F.size
  lo : B F p < 128
section
variable {E F : ByteArray} {p : Nat} {c c2 : Sc} {r : Int}
theorem Beg.seg (h : Beg E F p) (a : Nat) {b : Nat} (hb : b ≤ p) : seg F a b = seg E a b := by
  rw [seg_eq, seg_eq, ← Nat.min_eq_left hb, ← List.take_take, ← List.take_take, h.eq]
theorem Beg.ext (h : Beg E F p) (a : Nat) {b : Nat} (hb : b ≤ p) : F.extract a b = E.extract a b := by
  apply ByteArray.ext
  apply Array.toList_inj.1
  exact h.seg a hb
theorem Beg.at (h : Beg E F p) {j : Nat} (hj : j < p) : B E j = B F j := by
  have h1 : F.data.toList[j]? = E.data.toList[j]? := by
    have := congrArg (fun l => l[j]?) h.eq
    simp only [List.getElem?_take, if_pos hj] at this
    exact this
  unfold B
  rw [List.getD_eq_getElem?_getD, List.getD_eq_getElem?_getD, h1]
theorem Beg.dec (h : Beg E F p) {i : Nat} (hi : i < p) (hw : i + (Utf8.decode E i).2 ≤ p) : Utf8.decode F i = Utf8.decode E i :=
  dec_two (fun _ hj => h.at hj) hi h.pE h.pF h.lo hw
theorem Beg.unit (h : Beg E F p) {i : Nat} (hi : i < p) (hw : i + (Utf8.decode E i).2 ≤ p) : unitL F i = unitL E i := by
  have e1 : unitW F i = (Utf8.decode E i).2 := by unfold unitW; rw [if_pos (by have := h.pF; omega), h.dec hi hw]
  have e2 : unitW E i = (Utf8.decode E i).2 := by unfold unitW; rw [if_pos (by have := h.pE; omega)]
  show (F.extract i (i + unitW F i)).data.toList = (E.extract i (i + unitW E i)).data.toList
  rw [e1, e2]
  exact h.seg i hw
theorem Beg.since (h : Beg E F p) (hi : c.here.2.2 ≤ p) : sinceL F c = sinceL E c := h.seg _ hi
theorem Beg.unesc (h : Beg E F p) {i : Nat} (hi : i < p) (hw : i + 1 < p → i + 1 + (Utf8.decode E (i + 1)).2 ≤ p) {t : List UInt8} {k : Nat} (hk : i + k ≤ p) (hu : unescV (E.extract i E.size) = some (t, k)) : unescV (F.extract i F.size) = some (t, k) := by
  have lst : ∀ (Q : ByteArray) (j : Nat), (Q.extract i j).data.toList = (Q.data.toList.take j).drop i := fun Q j => seg_eq Q i j
  have all : ∀ Q : ByteArray, Q.data.toList.take Q.size = Q.data.toList := fun Q => by rw [Lib.size_eq, List.take_length]
  have cut : ∀ Q : ByteArray, p ≤ Q.size → (Q.extract i Q.size).data.toList = (Q.extract i p).data.toList ++ Q.data.toList.drop p := fun Q hQ => by
    rw [lst, lst, all]
    rw [← List.drop_append_of_le_length (by rw [List.length_take, ← Lib.size_eq]; omega), List.take_append_drop]
  have hxz : (E.extract i p).size = p - i := by rw [ByteArray.size_extract]; have := h.pE; omega
  have hkk := unesc_ge hu
  have hw' := hw (by omega)
  have dr : ∀ Q : ByteArray, (Q.extract i Q.size).data.toList.drop 1 = Q.data.toList.drop (i + 1) := fun Q => by rw [lst, all, List.drop_drop]
  have dX : Utf8.decode (E.extract i p) 1 = Utf8.decode E (i + 1) := by
    have e1 : Utf8.decode (E.extract i p) 1 = Utf8.decode (E.extract 0 p) (i + 1) := same_dec (by
      rw [lst]
      have : (E.extract 0 p).data.toList = E.data.toList.take p := by simp
      rw [this, List.drop_drop])
    rw [e1, dec_head E _ p h.pE (by omega) hw']
  have h1 : unescV (E.extract i p) = some (t, k) := unesc_cut (cut E h.pE) (fun _ => by
    rw [dX]
    exact same_dec (dr E)) (by omega) hu
  refine unesc_ext (X := E.extract i p) (Z := F.data.toList.drop p) ?_ ?_ h1
  · rw [cut F (by have := h.pF; omega), h.ext i (Nat.le_refl _)]
  · rw [dX, same_dec (dr F)]
    exact h.dec (by omega) hw'
theorem Beg.plain (h : Beg E F p) (hi : c.here.2.2 < p) (hw : c.here.2.2 + (Utf8.decode E c.here.2.2).2 ≤ p) (hn : r = 92 → c.here.2.2 + 1 < p → c.here.2.2 + 1 + (Utf8.decode E (c.here.2.2 + 1)).2 ≤ p) :
    (∀ c2, plainS E c r = .took c2 → plainS F c r = .took c2 ∨ c2.st = 7 ∧ p < c2.behind) ∧ (∀ c2, plainS E c r = .left c2 → plainS F c r = .left c2) := by
  unfold plainS
  by_cases h39 : r = 39
  · rw [if_pos h39, if_pos h39]
    exact ⟨fun c2 h => .inl h, fun c2 h => h⟩
  rw [if_neg h39, if_neg h39]
  by_cases h92 : r = 92
  · rw [if_pos h92, if_pos h92]
    cases hu : unescV (E.extract c.here.2.2 E.size) with
    | none => exact ⟨fun c2 h => (by cases h), fun c2 h => (by cases h)⟩
    | some z =>
      obtain ⟨t, k⟩ := z
      refine ⟨fun c2 h2 => ?_, fun c2 h => by cases h⟩
      by_cases hk : c.here.2.2 + k ≤ p
      · left
        rw [h.unesc hi (hn h92) hk hu]
        exact h2
      · right
        cases h2
        exact ⟨rfl, by simp only; omega⟩
  rw [if_neg h92, if_neg h92, h.unit hi hw]
  exact ⟨fun c2 h => .inl h, fun c2 h => h⟩
theorem Beg.piece (h : Beg E F p) (hi : c.here.2.2 < p) (hw : c.here.2.2 + (Utf8.decode E c.here.2.2).2 ≤ p) (hn : r = 92 → c.here.2.2 + 1 < p → c.here.2.2 + 1 + (Utf8.decode E (c.here.2.2 + 1)).2 ≤ p) :
    (∀ c2, pieceS E c r = .took c2 → pieceS F c r = .took c2 ∨ c2.st = 7 ∧ p < c2.behind) ∧ (∀ c2, pieceS E c r = .left c2 → pieceS F c r = .left c2) := by
  have hp := h.plain hi hw hn
  unfold pieceS
  by_cases h5 : c.st = 5
  · rw [if_pos h5, if_pos h5]
    unfold quotedS
    rw [h.unit hi hw]
    exact ⟨fun c2 h => .inl h, fun c2 h => h⟩
  rw [if_neg h5, if_neg h5]
  by_cases h6 : c.st = 6
  · rw [if_pos h6, if_pos h6]
    unfold closingS
    by_cases h39 : r = 39
    · rw [if_pos h39, if_pos h39]
      exact ⟨fun c2 h => .inl h, fun c2 h => h⟩
    · rw [if_neg h39, if_neg h39]
      exact hp
  rw [if_neg h6, if_neg h6]
  by_cases h7 : c.st = 7
  · rw [if_pos h7, if_pos h7]
    unfold escapeS
    by_cases hb : c.behind ≤ c.here.2.2
    · rw [if_pos hb, if_pos hb]
      exact hp
    · rw [if_neg hb, if_neg hb]
      exact ⟨fun c2 h => .inl h, fun c2 h => h⟩
  rw [if_neg h7, if_neg h7]
  exact hp
theorem Beg.between (h : Beg E F p) (hi : c.here.2.2 < p) (hw : c.here.2.2 + (Utf8.decode E c.here.2.2).2 ≤ p) (hn : r = 92 → c.here.2.2 + 1 < p → c.here.2.2 + 1 + (Utf8.decode E (c.here.2.2 + 1)).2 ≤ p) (hb : betweenS E c r = .ok c2) :
    betweenS F c r = .ok c2 ∨ c2.st = 7 ∧ p < c2.behind := by
  obtain ⟨p1, p2⟩ := h.plain (c := { c with st := 4, «from» := c.here, text := [] }) hi hw hn
  unfold betweenS at hb ⊢
  by_cases g1 : isBlk r = true
  · rw [if_pos g1] at hb ⊢; exact .inl hb
  rw [if_neg g1] at hb ⊢
  by_cases g2 : r = 35
  · rw [if_pos g2] at hb ⊢; exact .inl hb
  rw [if_neg g2] at hb ⊢
  by_cases g3 : isSgn (encL r) = true
  · rw [if_pos g3] at hb ⊢; exact .inl hb
  rw [if_neg g3] at hb ⊢
  by_cases g4 : r = 91
  · rw [if_pos g4] at hb ⊢; exact .inl hb
  rw [if_neg g4] at hb ⊢
  by_cases g5 : r = 93
  · rw [if_pos g5] at hb; cases hb
  rw [if_neg g5] at hb ⊢
  by_cases g6 : r = 42
  · rw [if_pos g6] at hb; cases hb
  rw [if_neg g6] at hb ⊢
  cases hpl : plainS E { c with st := 4, «from» := c.here, text := [] } r with
  | took d =>
    rw [hpl] at hb
    cases hb
    rcases p1 _ hpl with e | e
    · left; rw [e]; rfl
    · exact .inr e
  | left d =>
    rw [hpl] at hb
    cases hb
    left; rw [p2 _ hpl]; rfl
  | bad no z => rw [hpl] at hb; cases hb
theorem Beg.token (h : Beg E F p) (hi : c.here.2.2 < p) (hw : c.here.2.2 + (Utf8.decode E c.here.2.2).2 ≤ p) (hn : r = 92 → c.here.2.2 + 1 < p → c.here.2.2 + 1 + (Utf8.decode E (c.here.2.2 + 1)).2 ≤ p) (ht : tokenS E c r = .ok c2) :
    tokenS F c r = .ok c2 ∨ c2.st = 7 ∧ p < c2.behind := by
  have hs : sinceL F c = sinceL E c := h.since (Nat.le_of_lt hi)
  unfold tokenS at ht ⊢
  by_cases h0 : c.st = 0
  · rw [if_pos h0] at ht ⊢
    exact h.between hi hw hn ht
  rw [if_neg h0] at ht ⊢
  by_cases h1 : c.st = 1
  · rw [if_pos h1] at ht ⊢
    unfold remarkS at ht ⊢
    by_cases h10 : r = 10
    · rw [if_pos h10] at ht ⊢
      exact h.between (c := { c with st := 1 }) hi hw hn ht
    · rw [if_neg h10] at ht ⊢
      exact .inl ht
  rw [if_neg h1] at ht ⊢
  by_cases h2 : c.st = 2
  · rw [if_pos h2] at ht ⊢
    unfold signS at ht ⊢
    rw [hs]
    by_cases hg : isSgn (sinceL E c ++ encL r) = true
    · rw [if_pos hg] at ht ⊢
      exact .inl ht
    · rw [if_neg hg] at ht ⊢
      exact h.between (c := addT { c with st := 2 } 2 (sinceL E c)) hi hw hn ht
  rw [if_neg h2] at ht ⊢
  by_cases h3 : c.st = 3
  · rw [if_pos h3] at ht ⊢
    unfold optionS at ht ⊢
    rw [h.ext _ (Nat.le_of_lt hi)]
    exact .inl ht
  rw [if_neg h3] at ht ⊢
  obtain ⟨p1, p2⟩ := h.piece hi hw hn
  unfold textS at ht ⊢
  cases hp : pieceS E c r with
  | took d =>
    rw [hp] at ht
    cases ht
    rcases p1 _ hp with e | e
    · left; rw [e]
    · exact .inr e
  | bad no z => rw [hp] at ht; cases ht
  | left d =>
    rw [hp] at ht
    have hd := pieceS_left hp
    subst hd
    rw [p2 _ hp]
    exact h.between (c := addT { c with st := 4 } 1 c.text) hi hw hn ht
end

/-- Ahead of the unit at i. -/
def Ahead (s : ByteArray) (i : Nat) (c : Sc) : Prop := i = 0 ∧ c = c0S ∨ KS s c.here c ∧ (∃ n, plN s n = c.here) ∧ c.here.2.2 < s.size ∧ i = c.here.2.2 + (Utf8.decode s c.here.2.2).2
section
variable {s : ByteArray} {i : Nat} {c c2 cF : Sc}
theorem Ahead.le (h : Ahead s i c) : i ≤ s.size := by
  rcases h with ⟨rfl, _⟩ | ⟨_, _, h3, h4⟩
  · exact Nat.zero_le _
  · have := (dec_width s _ h3).2.2; omega
theorem Ahead.js (h : Ahead s i c) : JS s { c with here := plNext s c.here i } := by
  have hx := (plNext_ix s c.here i).1
  rcases h with ⟨rfl, rfl⟩ | ⟨hk, ⟨n, hn⟩, h3, h4⟩
  · exact ⟨⟨0, rfl⟩, fun h => absurd rfl h, fun h => absurd rfl h, fun h => absurd rfl h, fun t ht => by simp [c0S] at ht, Nat.zero_le _, ⟨List.Pairwise.nil, fun t ht => by simp [c0S] at ht, fun t ht => by simp [c0S] at ht⟩⟩
  · have hw := (dec_width s _ h3).1
    have hpl : plNext s c.here i = plN s (n + 1) := by
      rw [← hn] at h3 h4 ⊢
      rw [h4]
      exact plNext_plN s n h3
    exact ⟨⟨n + 1, hpl.symm⟩, hk.fr, fun h0 => by have := hk.le h0; simp only [hx]; omega, hk.tl, fun t ht => by have := hk.t0 t ht; simp only [hx]; omega, hk.bh, hk.ok⟩
theorem Ahead.ks (h : Ahead s i c) {r : Int} (h92 : r = 92 → i < s.size) (ht : tokenS s { c with here := plNext s c.here i } r = .ok c2) : KS s (plNext s c.here i) c2 := by
  have hx := (plNext_ix s c.here i).1
  have hl := h.le
  exact tokenS_K h.js (fun e => by simp only [hx]; exact h92 e) (by simp only [hx]; exact hl) ht
theorem Ahead.step (h : Ahead s i c) (hlt : i < s.size) {r : Int} (ht : tokenS s { c with here := plNext s c.here i } r = .ok c2) : Ahead s (i + (Utf8.decode s i).2) c2 ∧ c2.here = plNext s c.here i := by
  have hx := (plNext_ix s c.here i).1
  have hj := h.js
  have hk := h.ks (fun _ => hlt) ht
  have hh := hk.here
  exact ⟨.inr ⟨by rw [hh]; exact hk, by rw [hh]; exact hj.here, by rw [hh, hx]; exact hlt, by rw [hh, hx]⟩, hh⟩
/-- The next unit of a file that is read up to one of its places. -/
theorem Ahead.fits (h : Ahead s i c) {p : Nat} (hm : ∃ m, (plN s m).2.2 = p) (hi : i < p) : i + (Utf8.decode s i).2 ≤ p := by
  obtain ⟨m, rfl⟩ := hm
  obtain ⟨n, hn⟩ := h.js.here
  have hx := (plNext_ix s c.here i).1
  have e : (plN s n).2.2 = i := by rw [hn]; exact hx
  have := plN_next s (n := n) (m := m) (by rw [e]; exact hi)
  rw [e] at this
  exact this
theorem run_on {f : Nat} (hr : runS s (f + 1) i c = .ok cF) (hi : i < s.size) : ∃ c2, tokenS s { c with here := plNext s c.here i } ((Utf8.decode s i).1 : Nat) = .ok c2 ∧ runS s f (i + (Utf8.decode s i).2) c2 = .ok cF := by
  rw [runS, if_pos (by omega), decode_nl s i hi] at hr
  cases ht : tokenS s { c with here := plNext s c.here i } ((Utf8.decode s i).1 : Nat) with
  | bad no p => rw [ht] at hr; cases hr
  | ok c2 => rw [ht] at hr; exact ⟨c2, rfl, hr⟩
theorem run_to {f : Nat} (hi : i < s.size) (ht : tokenS s { c with here := plNext s c.here i } ((Utf8.decode s i).1 : Nat) = .ok c2) : runS s (f + 1) i c = runS s f (i + (Utf8.decode s i).2) c2 := by
  rw [runS, if_pos (by omega), decode_nl s i hi, ht]
theorem run_last {f : Nat} (hr : runS s (f + 1) s.size c = .ok cF) : tokenS s { c with here := plNext s c.here s.size } 10 = .ok cF := by
  rw [runS, if_pos (by omega), decode_end] at hr
  cases ht : tokenS s { c with here := plNext s c.here s.size } ((10 : Nat) : Int) with
  | bad no p => rw [ht] at hr; cases hr
  | ok c2 =>
    rw [ht] at hr
    have h2 : runS s f (s.size + 1) c2 = .ok cF := hr
    have he : runS s f (s.size + 1) c2 = .ok c2 := by
      cases f with
      | zero => rfl
      | succ f => rw [runS, if_neg (by omega)]
    rw [he] at h2
    exact congrArg TR.ok (TR.ok.inj h2)
end
section
variable {E F : ByteArray} {p : Nat} {cF : Sc}
theorem run_lost (hm : ∃ m, (plN E m).2.2 = p) (hp : p ≤ E.size) : ∀ (f i : Nat) (c : Sc), Ahead E i c → i ≤ p → E.size + 1 ≤ i + f → c.st = 7 → p < c.behind → runS E f i c = .ok cF →
    ∃ cp f1, Ahead E p cp ∧ E.size + 1 ≤ p + f1 ∧ runS E f1 p cp = .ok cF ∧ cp.st = 7 ∧ p < cp.behind := by
  intro f
  induction f with
  | zero => intro i c _ hi hf; omega
  | succ f ih =>
    intro i c hA hi hf h7 hb hr
    by_cases hip : i = p
    · subst hip
      exact ⟨c, f + 1, hA, hf, hr, h7, hb⟩
    obtain ⟨c2, ht, hr2⟩ := run_on hr (by omega)
    have hx := (plNext_ix E c.here i).1
    have hfit := hA.fits hm (by omega)
    have hA2 := (hA.step (by omega) ht).1
    have hw := (dec_width E i (by omega)).1
    have hc2 : c2.st = 7 ∧ c2.behind = c.behind := by
      unfold tokenS at ht
      simp only at ht
      rw [if_neg (by omega), if_neg (by omega), if_neg (by omega), if_neg (by omega)] at ht
      unfold textS pieceS at ht
      simp only at ht
      rw [if_neg (by omega), if_neg (by omega), if_pos h7] at ht
      unfold escapeS at ht
      simp only [hx] at ht
      rw [if_neg (by omega)] at ht
      cases ht
      exact ⟨h7, rfl⟩
    exact ih _ c2 hA2 hfit (by omega) hc2.1 (by omega) hr2
/-- The runs over the beginning are the same, or an escape goes beyond it. -/
theorem run_beg (hB : Beg E F p) (hm : ∃ m, (plN E m).2.2 = p) : ∀ (f i : Nat) (c : Sc) (f' : Nat), Ahead E i c → i ≤ p → E.size + 1 ≤ i + f → F.size + 1 ≤ i + f' → runS E f i c = .ok cF →
    ∃ cp f1, Ahead E p cp ∧ E.size + 1 ≤ p + f1 ∧ runS E f1 p cp = .ok cF ∧ ((∃ f2, F.size + 1 ≤ p + f2 ∧ runS F f' i c = runS F f2 p cp) ∨ cp.st = 7 ∧ p < cp.behind) := by
  intro f
  induction f with
  | zero => intro i c f' _ hi hf; have := hB.pE; omega
  | succ f ih =>
    intro i c f' hA hi hf hf' hr
    by_cases hip : i = p
    · subst hip
      exact ⟨c, f + 1, hA, hf, hr, .inl ⟨f', hf', rfl⟩⟩
    have hpE := hB.pE
    have hpF := hB.pF
    have hip' : i < p := by omega
    obtain ⟨c2, ht, hr2⟩ := run_on hr (by omega)
    have hx := (plNext_ix E c.here i).1
    have hfit := hA.fits hm hip'
    have hA2 := (hA.step (by omega) ht).1
    have hw := (dec_width E i (by omega)).1
    have hn : (((Utf8.decode E i).1 : Nat) : Int) = 92 → i + 1 < p → i + 1 + (Utf8.decode E (i + 1)).2 ≤ p := fun h92 h1 => by
      have hd := (dec_r_lo (s := E) (i := i) (by omega)).2
      rw [hd] at hA2
      exact hA2.fits hm h1
    have htok := hB.token (c := { c with here := plNext E c.here i }) (r := ((Utf8.decode E i).1 : Nat)) (by simp only [hx]; exact hip') (by simp only [hx]; exact hfit) (by simp only [hx]; exact hn) ht
    rcases htok with hF | ⟨h7, hbh⟩
    · obtain ⟨f', rfl⟩ : ∃ g, f' = g + 1 := ⟨f' - 1, by omega⟩
      have hpl : plNext F c.here i = plNext E c.here i := by
        unfold plNext
        by_cases h0 : 0 < i
        · rw [hB.at (show i - 1 < p by omega)]
        · rw [if_neg (by omega), if_neg (by omega)]
      have hd := hB.dec hip' hfit
      have hgo : runS F (f' + 1) i c = runS F f' (i + (Utf8.decode E i).2) c2 := by
        rw [run_to (s := F) (c2 := c2) (by omega) (by rw [hpl, hd]; exact hF), hd]
      obtain ⟨cp, f1, a1, a2, a3, a4⟩ := ih _ c2 f' hA2 hfit (by omega) (by omega) hr2
      refine ⟨cp, f1, a1, a2, a3, ?_⟩
      rw [hgo]
      exact a4
    · obtain ⟨cp, f1, a1, a2, a3, a4⟩ := run_lost hm hpE f _ c2 hA2 hfit (by omega) h7 hbh hr2
      exact ⟨cp, f1, a1, a2, a3, .inr a4⟩
end
end Go.Proofs.YtlfdpdlhppgakaaGreatDoor
/- Two files, one behind the other: what Scan answers. No run in this text. -/
namespace Go.Proofs.YtlfdpdlhppgakaaGreatDoor
open Go Go.RowKit Go.Kt Go.Kt.Rg Go.Shelf Go.Lib

theorem nlN_le (s : ByteArray) : nlN s ≤ nlc s s.size := by
  have h1 : nlc s s.size = s.data.toList.count 10 := by unfold nlc; rw [Lib.size_eq, List.take_length]
  rw [h1]
  unfold nlN Lib.countByte Lib.trimSuffix
  split
  · exact (List.take_sublist _ _).count_le _
  · exact Nat.le_refl _
theorem endS_ok {c : Sc} {l : List Tk} (h : endS c = .ok l) : c.st ≠ 3 ∧ c.st ≠ 5 ∧ l = c.toks ++ [⟨0, [], c.from⟩] := by
  unfold endS at h
  split at h
  · cases h
  split at h
  · cases h
  · cases h
    exact ⟨by assumption, by assumption, rfl⟩
theorem endS_of {c : Sc} (h3 : c.st ≠ 3) (h5 : c.st ≠ 5) : endS c = .ok (c.toks ++ [⟨0, [], c.from⟩]) := by
  unfold endS
  rw [if_neg h3, if_neg h5]
theorem scan_run {s : ByteArray} {l : List Tk} (h : scanS s = .ok l) : ∃ cF, runS s (s.size + 1) 0 c0S = .ok cF ∧ cF.st = 0 ∧ (∃ n, plN s n = cF.from) ∧ cF.from.2.2 = s.size ∧ (∀ t ∈ cF.toks, t.pl.2.2 < s.size) ∧ l = cF.toks ++ [⟨0, [], cF.from⟩] := by
  unfold scanS at h
  split at h
  · cases h
  split at h
  · cases h
  cases hr : runS s (s.size + 1) 0 c0S with
  | bad no p => rw [hr] at h; cases h
  | ok c =>
    rw [hr] at h
    obtain ⟨h3, h5, hl⟩ := endS_ok (c := c) h
    rcases runS_K s c (s.size + 1) 0 c0S (.inl ⟨rfl, rfl⟩) (by omega) hr with e | e | ⟨h0, hok, hpl, hz, hlt⟩
    · exact absurd e h3
    · exact absurd e h5
    · exact ⟨c, rfl, h0, hpl, hz, hlt, hl⟩
theorem run_scan {s : ByteArray} {c : Sc} (hz : s.size ≤ 1048576) (hn : nlc s s.size < 65536) (hr : runS s (s.size + 1) 0 c0S = .ok c) (h3 : c.st ≠ 3) (h5 : c.st ≠ 5) : scanS s = .ok (c.toks ++ [⟨0, [], c.from⟩]) := by
  unfold scanS
  rw [if_neg (by omega), if_neg (by have := nlN_le s; omega), hr]
  exact endS_of h3 h5
theorem between10 (s : ByteArray) (c : Sc) : betweenS s c 10 = .ok { c with st := 0, «from» := c.here } := by
  unfold betweenS
  rw [if_pos (by decide)]
theorem Beg.token10 {E F : ByteArray} {p : Nat} {c c2 : Sc} (h : Beg E F p) (hi : c.here.2.2 ≤ p) (ht : tokenS E c 10 = .ok c2) (hst : c2.st = 0) : tokenS F c 10 = .ok c2 := by
  have hs : sinceL F c = sinceL E c := h.since hi
  unfold tokenS at ht ⊢
  by_cases h0 : c.st = 0
  · rw [if_pos h0] at ht ⊢
    rw [between10] at ht ⊢
    exact ht
  rw [if_neg h0] at ht ⊢
  by_cases h1 : c.st = 1
  · rw [if_pos h1] at ht ⊢
    unfold remarkS at ht ⊢
    rw [if_pos rfl] at ht ⊢
    rw [between10] at ht ⊢
    exact ht
  rw [if_neg h1] at ht ⊢
  by_cases h2 : c.st = 2
  · rw [if_pos h2] at ht ⊢
    unfold signS at ht ⊢
    rw [hs]
    rw [between10] at ht ⊢
    exact ht
  rw [if_neg h2] at ht ⊢
  by_cases h3 : c.st = 3
  · rw [if_pos h3] at ht
    unfold optionS at ht
    rw [if_neg (by decide)] at ht
    cases ht
    cases hst
  rw [if_neg h3] at ht ⊢
  have hp : ∀ Q : ByteArray, pieceS Q c 10 = .left { c with st := 4 } ∨ ∃ d, pieceS Q c 10 = .took d ∧ d.st ≠ 0 ∧ (c.st = 5 ∨ c.st = 7 ∧ ¬ c.behind ≤ c.here.2.2) := fun Q => by
    unfold pieceS
    by_cases h5 : c.st = 5
    · rw [if_pos h5]
      unfold quotedS
      rw [if_neg (by decide)]
      exact .inr ⟨_, rfl, by simp [h5], .inl h5⟩
    rw [if_neg h5]
    by_cases h6 : c.st = 6
    · rw [if_pos h6]
      unfold closingS
      rw [if_neg (by decide)]
      exact .inl plain_10
    rw [if_neg h6]
    by_cases h7 : c.st = 7
    · rw [if_pos h7]
      unfold escapeS
      by_cases hb : c.behind ≤ c.here.2.2
      · rw [if_pos hb]; exact .inl plain_10
      · rw [if_neg hb]; exact .inr ⟨_, rfl, by simp [h7], .inr ⟨h7, hb⟩⟩
    rw [if_neg h7]
    exact .inl plain_10
  unfold textS at ht ⊢
  rcases hp E with e | ⟨d, e, hd, _⟩
  · rw [e] at ht
    rcases hp F with e2 | ⟨d2, e2, _, hc⟩
    · rw [e2]
      simp only [between10] at ht ⊢
      exact ht
    · exfalso
      unfold pieceS at e
      rcases hc with h5 | ⟨h7, hb⟩
      · rw [if_pos h5] at e
        unfold quotedS at e
        rw [if_neg (by decide)] at e
        cases e
      · rw [if_neg (by omega), if_neg (by omega), if_pos h7] at e
        unfold escapeS at e
        rw [if_neg hb] at e
        cases e
  · rw [e] at ht
    cases ht
    exact absurd hst hd
theorem token0 {s : ByteArray} {c : Sc} {r : Int} (h : c.st = 0) : tokenS s c r = betweenS s c r := by unfold tokenS; rw [if_pos h]
/-- The places of the second file's tokens. -/
def Moved (K p : Nat) (u v : Pl) : Prop := v = (u.1 + (K + 1), u.2.1, u.2.2 + (p + 1))
theorem scan_joined (s t : ByteArray) {a b : List Tk} (ha : scanS s = .ok a) (hb : scanS t = .ok b) (hz : s.size + t.size ≤ 500000) (hn : nlc s s.size + nlc t t.size ≤ 60000) :
    ∃ A e B', a = A ++ [e] ∧ scanS (s ++ nlB ++ t) = .ok (A ++ B') ∧ TkRel (Moved (nlc s s.size) s.size) b B' := by
  obtain ⟨cS, hrS, hS0, hplS, hzS, hltS, hlS⟩ := scan_run ha
  obtain ⟨cT, hrT, hT0, hplT, hzT, hltT, hlT⟩ := scan_run hb
  obtain ⟨F, hF⟩ : ∃ F, F = s ++ nlB ++ t := ⟨_, rfl⟩
  rw [← hF]
  have hFl : F.data.toList = s.data.toList ++ ([10] ++ t.data.toList) := by
    rw [hF, ByteArray.data_append, Array.toList_append, nl_list, List.append_assoc]
  have hsl := Lib.size_eq s
  have htl := Lib.size_eq t
  have hFz : F.size = s.size + (1 + t.size) := by rw [Lib.size_eq, hFl, List.length_append, List.length_append, ← hsl, ← htl]; rfl
  obtain ⟨p, hp⟩ : ∃ p, s.size = p := ⟨_, rfl⟩
  have hFp : B F p = 10 := by
    unfold B
    rw [hFl, List.getD_eq_getElem?_getD, List.getElem?_append_right (by omega), ← hsl, hp, Nat.sub_self]
    rfl
  have hB : Beg s F p := ⟨by rw [hFl, List.take_append_of_le_length (by omega)], by omega, by omega, by rw [hFp]; omega⟩
  obtain ⟨m, hm⟩ := hplS
  obtain ⟨cp, f1, hA, hf1, hr1, hsp⟩ := run_beg hB ⟨m, by rw [hm, hzS, hp]⟩ (s.size + 1) 0 c0S (F.size + 1) (.inl ⟨rfl, rfl⟩) (Nat.zero_le _) (by omega) (by omega) hrS
  have hjs := hA.js
  rcases hsp with ⟨f2, hf2, hgo⟩ | ⟨_, hbh⟩
  case inr => have h1 : cp.behind ≤ s.size := hjs.bh; omega
  obtain ⟨g1, rfl⟩ : ∃ g, f1 = g + 1 := ⟨f1 - 1, by omega⟩
  obtain ⟨g2, rfl⟩ : ∃ g, f2 = g + 1 := ⟨f2 - 1, by omega⟩
  have hpl : plNext F cp.here p = plNext s cp.here p := by
    unfold plNext
    by_cases h0 : 0 < p
    · rw [hB.at (show p - 1 < p by omega)]
    · rw [if_neg (by omega), if_neg (by omega)]
  have hx := (plNext_ix s cp.here p).1
  have hlast : tokenS s { cp with here := plNext s cp.here p } 10 = .ok cS := by
    rw [← hp] at hr1 ⊢
    exact run_last hr1
  have hks := hA.ks (fun h => by exact absurd h (by decide)) hlast
  have hline : cS.here.1 = nlc s s.size + 1 ∧ cS.here.2.2 = p := by
    obtain ⟨n, hn⟩ := hjs.here
    have hl := plN_line s n
    have hn' : plN s n = plNext s cp.here p := hn
    rw [hn', hx, ← hks.here] at hl
    rw [hp]
    exact ⟨hl, by rw [hks.here, hx]⟩
  have hFt : tokenS F { cp with here := plNext F cp.here p } 10 = .ok cS := by
    rw [hpl]
    exact hB.token10 (by simp only [hx]; exact Nat.le_refl _) hlast hS0
  have hdF : Utf8.decode F p = (10, 1) := by rw [dec_lo F p (by omega), hFp]
  have hgo2 : runS F (g2 + 1) p cp = runS F g2 (p + 1) cS := by
    rw [run_to (s := F) (c2 := cS) (by omega) (by rw [hdF]; exact hFt), hdF]
  rw [hgo2] at hgo
  have hsame : t.data.toList.drop 0 = F.data.toList.drop (p + 1) := by
    rw [List.drop_zero, hFl, List.drop_append, List.drop_of_length_le (by omega), ← hsl, hp, Nat.add_sub_cancel_left]
    rfl
  obtain ⟨g2, rfl⟩ : ∃ g, g2 = g + 1 := ⟨g2 - 1, by omega⟩
  have hnl := same_nl hsame (Nat.zero_le _) (by omega)
  have hdec := same_dec hnl
  rw [runS, if_pos (by omega), hdec] at hrT
  have hwd := (dec_width (F ++ nlB) (p + 1) (by rw [nl_size]; omega)).1
  obtain ⟨r, hr⟩ : ∃ r, (Utf8.decode (F ++ nlB) (p + 1)).1 = r := ⟨_, rfl⟩
  obtain ⟨v, hv⟩ : ∃ v, (Utf8.decode (F ++ nlB) (p + 1)).2 = v := ⟨_, rfl⟩
  rw [hr, hv] at hrT
  rw [hv] at hwd
  cases ht1 : tokenS t { c0S with here := plNext t c0S.here 0 } ((r : Nat) : Int) with
  | bad no z => rw [ht1] at hrT; cases hrT
  | ok c1 =>
    rw [ht1] at hrT
    have hb1 : betweenS t { c0S with here := plNext t c0S.here 0 } ((r : Nat) : Int) = .ok c1 := by
      rw [token0 rfl] at ht1
      exact ht1
    have hh0 : plNext t c0S.here 0 = (1, 1, 0) := by unfold plNext; rw [if_neg (by omega)]; rfl
    have hh1 : plNext F cS.here (p + 1) = (nlc s s.size + 1 + 1, 1, p + 1) := by
      unfold plNext
      rw [if_pos ⟨by omega, by rw [Nat.add_sub_cancel]; exact hFp⟩, hline.1]
    have hPR0 : Moved (nlc s s.size) p (plNext t c0S.here 0) (plNext F cS.here (p + 1)) := by
      rw [hh0, hh1]
      exact Prod.ext (by show _ + 1 + 1 = 1 + (_ + 1); omega) (Prod.ext rfl (by show p + 1 = 0 + (p + 1); omega))
    obtain ⟨c1', hb2, hsim⟩ := sim_between (F := t) (G := F) (p := 0) (q := p + 1) (PR := Moved (nlc s s.size) p) (T := []) (T' := cS.toks) (c := { c0S with here := plNext t c0S.here 0 }) (c' := { cS with here := plNext F cS.here (p + 1) }) hsame hPR0 ⟨0, by simp only [hh0], by simp only [hh1]⟩ ⟨[], [], rfl, by simp, rfl, fun i a b h _ => by simp at h⟩ (by simp only [hh0]; exact Nat.zero_le _) (by simp only [hh1]; omega) c1 hb1
    have ht2 : tokenS F { cS with here := plNext F cS.here (p + 1) } ((r : Nat) : Int) = .ok c1' := by
      unfold tokenS
      rw [if_pos hS0]
      exact hb2
    have hgo3 : runS F (g2 + 1) (p + 1) cS = runS F g2 (p + 1 + v) c1' := by
      rw [runS, if_pos (by omega), hr, hv, ht2]
    rw [hgo3] at hgo
    have hrT' : runS t t.size (0 + v) c1 = .ok cT := hrT
    obtain ⟨cG, hG, hsG⟩ := sim_run hsame (Nat.zero_le _) (by omega) (PR := Moved (nlc s s.size) p) (fun u v x huv hmv hx => by
      have hBe := same_B hsame (x - 1)
      rw [Nat.zero_add] at hBe
      unfold Moved at huv
      subst huv
      unfold plNext
      rw [Nat.zero_add, show p + 1 + x - 1 = p + 1 + (x - 1) by omega, ← hBe]
      by_cases h10 : B t (x - 1) = 10
      · rw [if_pos ⟨hx, h10⟩, if_pos ⟨by omega, h10⟩]
        exact Prod.ext (by show _ + 1 = _ + 1 + _; omega) (Prod.ext rfl (by show p + 1 + x = x + (p + 1); omega))
      · rw [if_neg (fun h => h10 h.2), if_neg (fun h => h10 h.2)]
        exact Prod.ext rfl (Prod.ext rfl (by show p + 1 + x = x + (p + 1); omega))) t.size v c1 c1' cT g2 (by omega) hsim hrT' (by omega) (by omega)
    rw [hG] at hgo
    obtain ⟨X, X', x1, x2, x3⟩ := hsG.toks
    have hG0 : cG.st = 0 := hsG.st.trans hT0
    refine ⟨cS.toks, ⟨0, [], cS.from⟩, X' ++ [⟨0, [], cG.from⟩], hlS, ?_, ?_⟩
    · rw [run_scan (s := F) (c := cG) (by omega) ?_ hgo (by omega) (by omega), x2, List.append_assoc]
      have e1 : nlc F F.size = F.data.toList.count 10 := by unfold nlc; rw [Lib.size_eq, List.take_length]
      have e2 : nlc s s.size = s.data.toList.count 10 := by unfold nlc; rw [Lib.size_eq, List.take_length]
      have e3 : nlc t t.size = t.data.toList.count 10 := by unfold nlc; rw [Lib.size_eq, List.take_length]
      rw [e1, hFl, List.count_append, List.count_append, ← e2, ← e3]
      have : ([10] : List UInt8).count 10 = 1 := by decide
      omega
    · subst hp
      rw [hlT, x1, List.nil_append]
      exact x3.snoc (a := ⟨0, [], cT.from⟩) (b := ⟨0, [], cG.from⟩) ⟨rfl, rfl, hsG.fr.1⟩
end Go.Proofs.YtlfdpdlhppgakaaGreatDoor
/- ScanJoined: its walk. -/
namespace Go.Proofs.YtlfdpdlhppgakaaGreatDoor
open Go Go.RowKit Go.Kt Go.Shelf Go.Lib
attribute [local go_sem] Oper.semAt_some

abbrev tkA (k : Int) (t : ByteArray) (l c i : Int) : Value := .agg #[.int .i64 k, .string t, .int .i64 l, .int .i64 c, .int .i64 i]
abbrev tkX (k : Int) (t : ByteArray) (l c i : Int) : Array Value := #[.int .i64 k, .string t, .int .i64 l, .int .i64 c, .int .i64 i]
set_option maxRecDepth 100000 in
theorem load_tok (V : World) (g o : Nat) (a b c d e : Value) (h0 : V.cell? ⟨g, o, none⟩ = some a) (h1 : V.cell? ⟨g, o + 1, none⟩ = some b) (h2 : V.cell? ⟨g, o + 2, none⟩ = some c) (h3 : V.cell? ⟨g, o + 3, none⟩ = some d) (h4 : V.cell? ⟨g, o + 4, none⟩ = some e) :
    (Instr.loadAt 39 (.pointer (some ⟨g, o, none⟩))).run Tryz.prog V = .ok (.agg #[a, b, c, d, e]) V := by
  go_simp
def set5 (V : World) (n : Nat) (k : Int) (t : ByteArray) (l c i : Int) : World :=
  ((((V.setCell ⟨n, 0, none⟩ (.int .i64 k)).setCell ⟨n, 1, none⟩ (.string t)).setCell ⟨n, 2, none⟩ (.int .i64 l)).setCell ⟨n, 3, none⟩ (.int .i64 c)).setCell ⟨n, 4, none⟩ (.int .i64 i)
theorem setc_at {W : World} {n i : Nat} {cs : Array Value} {T : TypeId} {u : Value} (h : W.heap[n]? = some (.cells cs T (0, 0))) :
    (W.setCell ⟨n, i, none⟩ u).heap[n]? = some (.cells (cs.setIfInBounds i u) T (0, 0)) := by
  have hlt := (Array.getElem?_eq_some_iff.1 h).1
  have h' : W.heap[n] = .cells cs T (0, 0) := by rw [Array.getElem?_eq_getElem hlt] at h; exact Option.some.inj h
  simp [World.setCell, hlt, Array.getElem_modify, h']
theorem cell_at5 {W : World} {n i : Nat} {cs : Array Value} {T : TypeId} {u : Value} (h : W.heap[n]? = some (.cells cs T (0, 0))) (hu : cs[i]? = some u) : W.cell? ⟨n, i, none⟩ = some u := by rw [Lib.cell_of_heap h]; exact hu
theorem frozen_at5 {W : World} {n i : Nat} {cs : Array Value} {T : TypeId} (h : W.heap[n]? = some (.cells cs T (0, 0))) : W.frozen? ⟨n, i, none⟩ = false := by simp [World.frozen?, h]
theorem set5_at {V : World} {n : Nat} {a b c d e : Value} (k : Int) (t : ByteArray) (l c' i : Int) (h : V.heap[n]? = some (.cells #[a, b, c, d, e] 39 (0, 0))) : (set5 V n k t l c' i).heap[n]? = some (.cells (tkX k t l c' i) 39 (0, 0)) :=
  setc_at (setc_at (setc_at (setc_at (setc_at h))))
theorem set5_below {D : Nat} {V : World} {n : Nat} (hn : D ≤ n) (k : Int) (t : ByteArray) (l c i : Int) : Below D V (set5 V n k t l c i) := by
  unfold set5
  exact (((((Below.refl D V).setCell (p := ⟨n, 0, none⟩) hn _).setCell (p := ⟨n, 1, none⟩) hn _).setCell (p := ⟨n, 2, none⟩) hn _).setCell (p := ⟨n, 3, none⟩) hn _).setCell (p := ⟨n, 4, none⟩) hn _
set_option maxRecDepth 100000 in
theorem store_new (V : World) (n : Nat) (a b c d e : Value) (k : Int) (t : ByteArray) (l c' i : Int) (h : V.heap[n]? = some (.cells #[a, b, c, d, e] 39 (0, 0))) :
    (Instr.storeAt 39 (.pointer (some ⟨n, 0, none⟩)) (tkA k t l c' i)).run Tryz.prog V = .ok () (set5 V n k t l c' i) := by
  have h1 := setc_at (i := 0) (u := .int .i64 k) h
  have h2 := setc_at (i := 1) (u := .string t) h1
  have h3 := setc_at (i := 2) (u := .int .i64 l) h2
  have h4 := setc_at (i := 3) (u := .int .i64 c') h3
  have q0 := cell_at5 h (i := 0) rfl
  have q1 := cell_at5 h1 (i := 1) rfl
  have q2 := cell_at5 h2 (i := 2) rfl
  have q3 := cell_at5 h3 (i := 3) rfl
  have q4 := cell_at5 h4 (i := 4) rfl
  have f0 := frozen_at5 h (i := 0)
  have f1 := frozen_at5 h1 (i := 1)
  have f2 := frozen_at5 h2 (i := 2)
  have f3 := frozen_at5 h3 (i := 3)
  have f4 := frozen_at5 h4 (i := 4)
  unfold set5
  clear h h1 h2 h3 h4
  go_simp
theorem wpList_store_eq {P : Program} {ops : Array Oper} {rest : List Oper} {o : Oper} {a : Act} {Q : Exit → Act → World → Prop} {w w' : World} {p v : Value} (hgd : o.guard = none) {ty : TypeId} {x y : Operand}
    (ho : o.op = .store ty x y) (hd : o.dst = none) (hx : a.eval x = p) (hy : a.eval y = v) (hrun : (Instr.storeAt ty p v).run P w = .ok () w') (h : wpList P ops Q rest a w') : wpList P ops Q (o :: rest) a w := by
  refine wpList_plain hgd fun K hK => ?_
  refine wp_skipped (exec_store ho hx hy hrun) ?_
  rw [hd]
  exact hK _ _ h
set_option maxHeartbeats 4000000 in
set_option maxRecDepth 100000 in
theorem scanJoined_c (s t : ByteArray) (w : World) (hE : SEnv w) (_hB : BTab w) (_hl : 6 < w.heap.size) (hs : s.size ≤ 140737488351232) (ht : t.size ≤ 140737488351232) :
    Calls Tryz.prog 6 #[.string s, .string t] w fun e w' => e = .returned (.bool true) ∧ Below w.heap.size w w' := by
  have CS := Lib.hid (scan_any s w hE hs)
  have CT := Lib.hid (fun V (h : Below w.heap.size w V) => scan_any t V (hE.below h) ht)
  have CF := Lib.hid (fun V F (h : Below w.heap.size w V) (hz : F.size ≤ 140737488351232) => scan_any F V (hE.below h) hz)
  have CW := Lib.hid (fun V (h : Below w.heap.size w V) => works_any5 V (hE.below h))
  have C1 := Lib.hid (fun V => ended_any s V hs)
  have C2 := Lib.hid (fun V => ended_any t V ht)
  clear hE _hB _hl
  obtain ⟨Rt, hRt⟩ : ∃ R, scanS t = R := ⟨_, rfl⟩
  rw [hRt] at CT
  cases ho : scanS s with
  | bad no l c =>
    rw [ho] at CS
    clear ho hRt
    go_enter Tryz.func6, Tryz.ntmps6
    go_wp2_with fail
    refine CS.out.mono ?_
    rintro e w1 ⟨rfl, hb1⟩
    have HB1 := Lib.hid hb1
    clear hb1
    go_wp2_with fail
    refine (CT.out _ HB1.out).mono ?_
    rintro e w2 ⟨ho2, hb2⟩
    have HB2 := Lib.hid (HB1.out.trans (hb2.mono HB1.out.size))
    clear hb2
    cases Rt with
    | bad no2 l2 c2 =>
      have h2 : e = _ := ho2
      subst h2
      go_wp2_with (go_at_call 10; refine (CW.out _ HB2.out).mono ?_; rintro e w4 ⟨rfl, hb4⟩)
      go_ret
      exact ⟨rfl, HB2.out.trans (hb4.mono HB2.out.size)⟩
    | ok L2 =>
      obtain ⟨g2, cap2, rfl, ho3⟩ := ho2
      clear ho3
      go_wp2_with (go_at_call 10; refine (CW.out _ HB2.out).mono ?_; rintro e w4 ⟨rfl, hb4⟩)
      go_ret
      exact ⟨rfl, HB2.out.trans (hb4.mono HB2.out.size)⟩
  | ok L1 =>
    rw [ho] at CS
    cases Rt with
    | bad no2 l2 c2 =>
      clear ho hRt
      go_enter Tryz.func6, Tryz.ntmps6
      go_wp2_with fail
      refine CS.out.mono ?_
      rintro e w1 ⟨⟨g1, cap1, rfl, ho1⟩, hb1⟩
      have HB1 := Lib.hid hb1
      clear hb1 ho1
      go_wp2_with fail
      refine (CT.out _ HB1.out).mono ?_
      rintro e w2 ⟨rfl, hb2⟩
      have HB2 := Lib.hid (HB1.out.trans (hb2.mono HB1.out.size))
      clear hb2
      go_wp2_with (go_at_call 10; refine (CW.out _ HB2.out).mono ?_; rintro e w4 ⟨rfl, hb4⟩)
      go_ret
      exact ⟨rfl, HB2.out.trans (hb4.mono HB2.out.size)⟩
    | ok L2 =>
      by_cases hz : 500000 < s.size + t.size
      · have hz' : (500000 : Int) < (s.size : Int) + (t.size : Int) := by omega
        clear ho hRt
        go_enter Tryz.func6, Tryz.ntmps6
        go_wp2_with fail
        refine CS.out.mono ?_
        rintro e w1 ⟨⟨g1, cap1, rfl, ho1⟩, hb1⟩
        have HB1 := Lib.hid hb1
        clear hb1 ho1
        go_wp2_with fail
        refine (CT.out _ HB1.out).mono ?_
        rintro e w2 ⟨⟨g2, cap2, rfl, ho2⟩, hb2⟩
        have HB2 := Lib.hid (HB1.out.trans (hb2.mono HB1.out.size))
        clear hb2 ho2
        go_wp2_with (go_at_call 10; refine (CW.out _ HB2.out).mono ?_; rintro e w4 ⟨rfl, hb4⟩)
        go_ret
        exact ⟨rfl, HB2.out.trans (hb4.mono HB2.out.size)⟩
      have hz2 : s.size + t.size ≤ 500000 := by omega
      have hz' : ¬ (500000 : Int) < (s.size : Int) + (t.size : Int) := by omega
      have hns : nlc s s.size ≤ s.size := by unfold nlc; exact Nat.le_trans List.count_le_length (by rw [List.length_take]; exact Nat.min_le_left _ _)
      have hnt : nlc t t.size ≤ t.size := by unfold nlc; exact Nat.le_trans List.count_le_length (by rw [List.length_take]; exact Nat.min_le_left _ _)
      by_cases hn : 60000 < nlc s s.size + nlc t t.size
      · have hn' : (60000 : Int) < (nlc s s.size : Nat) + (nlc t t.size : Nat) := by omega
        generalize nlc s s.size = K1 at *
        generalize nlc t t.size = K2 at *
        clear ho hRt
        go_enter Tryz.func6, Tryz.ntmps6
        go_wp2_with fail
        refine CS.out.mono ?_
        rintro e w1 ⟨⟨g1, cap1, rfl, ho1⟩, hb1⟩
        have HB1 := Lib.hid hb1
        clear hb1 ho1
        go_wp2_with fail
        refine (CT.out _ HB1.out).mono ?_
        rintro e w2 ⟨⟨g2, cap2, rfl, ho2⟩, hb2⟩
        have HB2 := Lib.hid (HB1.out.trans (hb2.mono HB1.out.size))
        clear hb2 ho2
        go_wp2_with fail
        refine (C1.out _).mono ?_
        rintro e w3 ⟨rfl, rfl⟩
        go_wp2_with fail
        refine (C2.out _).mono ?_
        rintro e w3 ⟨rfl, rfl⟩
        go_wp2_with (go_at_call 10; refine (CW.out _ HB2.out).mono ?_; rintro e w4 ⟨rfl, hb4⟩)
        go_ret
        exact ⟨rfl, HB2.out.trans (hb4.mono HB2.out.size)⟩
      have hn' : ¬ (60000 : Int) < (nlc s s.size : Nat) + (nlc t t.size : Nat) := by omega
      obtain ⟨A, e0, B', hA, hF, hT⟩ := scan_joined s t ho hRt hz2 (by omega)
      obtain ⟨o1, L0, p0, q1, q2⟩ := scan_places s ho
      have f1 := toks_few o1
      have f2 := toks_few (scan_places t hRt).1
      have hl1 : L1.length = A.length + 1 := by rw [hA]; simp
      have hl2 : B'.length = L2.length := hT.1.symm
      obtain ⟨L3, h3⟩ : ∃ L3, A ++ B' = L3 := ⟨_, rfl⟩
      have hl3 : L3.length = A.length + L2.length := by rw [← h3, List.length_append, hl2]
      have hX : ∀ i t, i < A.length → L3[i]? = some t → L1[i]? = some t := fun i t hi h => by
        rw [← h3, List.getElem?_append_left hi] at h
        rw [hA, List.getElem?_append_left hi]
        exact h
      have hY : ∀ i y, ¬ i < A.length → L3[i]? = some y → ∃ x, L2[i - A.length]? = some x ∧ y.kind = x.kind ∧ y.text = x.text ∧ Moved (nlc s s.size) s.size x.pl y.pl ∧ x.pl.1 ≤ 500001 ∧ x.pl.2.2 ≤ 500000 := fun i y hi h => by
        have hlt := (List.getElem?_eq_some_iff.1 h).1
        rw [← h3, List.getElem?_append_right (by omega)] at h
        have hx : L2[i - A.length]? = some (L2[i - A.length]'(by omega)) := List.getElem?_eq_getElem _
        obtain ⟨a1, a2, a3⟩ := hT.2 _ _ _ hx h
        obtain ⟨m, hm⟩ := (scan_places t hRt).1.pl _ (List.mem_of_getElem? hx)
        have b1 := plN_line t m
        have b2 := plN_le t m
        have b3 : nlc t (plN t m).2.2 ≤ (plN t m).2.2 := by unfold nlc; exact Nat.le_trans List.count_le_length (by rw [List.length_take]; exact Nat.min_le_left _ _)
        rw [hm] at b1 b2 b3
        exact ⟨_, hx, a1, a2, a3, by omega, by omega⟩
      rw [h3] at hF
      clear h3 hT hA q1 q2 o1 L0 p0 ho hRt e0 hl2 B'
      obtain ⟨a, ha⟩ : ∃ a, A.length = a := ⟨_, rfl⟩
      rw [ha] at hl1 hl3 hX hY
      clear ha A
      obtain ⟨N1, hN1⟩ : ∃ n, L1.length = n := ⟨_, rfl⟩
      obtain ⟨N2, hN2⟩ : ∃ n, L2.length = n := ⟨_, rfl⟩
      obtain ⟨N3, hN3⟩ : ∃ n, L3.length = n := ⟨_, rfl⟩
      obtain ⟨K1, hK1⟩ : ∃ n, nlc s s.size = n := ⟨_, rfl⟩
      obtain ⟨K2, hK2⟩ : ∃ n, nlc t t.size = n := ⟨_, rfl⟩
      rw [hN1] at hl1 f1
      rw [hN2] at hl3 f2
      rw [hN3] at hl3
      rw [hK1] at hns hn hn' hY C1
      rw [hK2] at hnt hn hn' C2
      have i1 : (N1 : Int) = (a : Int) + 1 := by omega
      have i3 : (N3 : Int) = (a : Int) + (N2 : Int) := by omega
      have j0 : ((a : Int) + 1 == 0) = false := by simp; omega
      have j1 : (N1 : Int) ≤ 500001 := by omega
      have j2 : (N2 : Int) ≤ 500001 := by omega
      have k1 : (K1 : Int) ≤ 60000 := by omega
      have k2 : (K2 : Int) ≤ 60000 := by omega
      have z1 : (s.size : Int) ≤ 500000 := by omega
      have z2 : (t.size : Int) ≤ 500000 := by omega
      have HX := Lib.hid (And.intro hX (And.intro hY (And.intro hN1 (And.intro hN2 hN3))))
      have HF := Lib.hid hF
      clear hX hY hF hN1 hN2 hN3 hK1 hK2 hns hnt hn hz hz2 f1 f2 hl1 hl3
      go_enter Tryz.func6, Tryz.ntmps6
      go_wp2_with fail
      refine CS.out.mono ?_
      rintro e w1 ⟨⟨g1, cap1, rfl, ho1⟩, hb1⟩
      have HB1 := Lib.hid hb1
      have HO1 := Lib.hid ho1
      clear hb1 ho1
      go_wp2_with fail
      refine (CT.out _ HB1.out).mono ?_
      rintro e w2 ⟨⟨g2, cap2, rfl, ho2⟩, hb2⟩
      have HB12 := Lib.hid hb2
      have HB2 := Lib.hid (HB1.out.trans (hb2.mono HB1.out.size))
      have HO2 := Lib.hid ho2
      clear hb2 ho2
      rw [HX.out.2.2.1, HX.out.2.2.2.1]
      go_wp2_with fail
      refine (C1.out _).mono ?_
      rintro e w3 ⟨rfl, rfl⟩
      go_wp2_with fail
      refine (C2.out _).mono ?_
      rintro e w3 ⟨rfl, rfl⟩
      go_wp2_with fail
      refine (CF.out _ (s ++ nlB ++ t) HB2.out (by rw [ByteArray.size_append, nl_size]; omega)).mono ?_
      rintro e w3 ⟨ho3, hb3⟩
      rw [HF.out] at ho3
      obtain ⟨g3, cap3, rfl, ho3⟩ := ho3
      have HB3 := Lib.hid (HB2.out.trans (hb3.mono HB2.out.size))
      have HC1 : Hid (∀ V i t, Below w3.heap.size w3 V → L1[i]? = some t → _) := Lib.hid fun V i t hV ht => toks_cells HO1.out (HB12.out.trans ((hb3.trans (hV.mono hb3.size)).mono HB12.out.size)) ht
      have HC2 : Hid (∀ V i t, Below w3.heap.size w3 V → L2[i]? = some t → _) := Lib.hid fun V i t hV ht => toks_cells HO2.out (hb3.trans (hV.mono hb3.size)) ht
      have HC3 : Hid (∀ V i t, Below w3.heap.size w3 V → L3[i]? = some t → _) := Lib.hid fun V i t hV ht => toks_cells ho3 hV ht
      rw [HX.out.2.2.2.2]
      clear hb3 ho3
      go_wp2
      go_loopw [11] (fun v wr => ∃ i : Nat, v = .int .i64 i ∧ i ≤ N3 ∧ Below w3.heap.size w3 wr) (fun v _ => N3 - (RowKit.intOf v).toNat)
      case atStart => exact ⟨0, rfl, Nat.zero_le _, Below.refl _ _⟩
      case round =>
        obtain ⟨i, rfl, hi, hb⟩ := hrel
        by_cases hlt : i < N3
        · obtain ⟨x, hx3⟩ : ∃ x, L3[i]? = some x := ⟨_, List.getElem?_eq_getElem (by have := HX.out.2.2.2.2; omega)⟩
          have hlt' : (i : Int) < N3 := by omega
          obtain ⟨Wo, hWo⟩ : ∃ Wo, Wo = wr := ⟨_, rfl⟩
          subst hWo
          have hn3 : w3.heap.size ≤ Wo.heap.size := hb.size
          obtain ⟨n, hn⟩ : ∃ n, Wo.heap.size = n := ⟨_, rfl⟩
          rw [hn] at hn3
          have new0 := World.alloc_heap_new Wo (.cells (tkX 0 ⟨#[]⟩ 0 0 0) 39)
          have hbW1 : Below w3.heap.size w3 (Wo.alloc (.cells (tkX 0 ⟨#[]⟩ 0 0 0) 39)) := hb.trans (((Below.refl _ Wo).alloc (Nat.le_refl _) _).mono hb.size)
          rw [hn] at new0
          obtain ⟨W1, hW1⟩ : ∃ W1, Wo.alloc (.cells (tkX 0 ⟨#[]⟩ 0 0 0) 39) = W1 := ⟨_, rfl⟩
          rw [hW1] at new0 hbW1
          have st0 := store_new W1 n _ _ _ _ _ 0 ⟨#[]⟩ 0 0 0 new0
          have new1 := set5_at 0 ⟨#[]⟩ 0 0 0 new0
          have hbW2 : Below w3.heap.size w3 (set5 W1 n 0 ⟨#[]⟩ 0 0 0) := hbW1.trans (set5_below hn3 0 ⟨#[]⟩ 0 0 0)
          obtain ⟨W2, hW2⟩ : ∃ W2, set5 W1 n 0 ⟨#[]⟩ 0 0 0 = W2 := ⟨_, rfl⟩
          rw [hW2] at st0 new1 hbW2
          clear hW2
          by_cases hia : i < a
          · have hia' : (i : Int) < a := by omega
            have hx1 := HX.out.1 i x hia hx3
            obtain ⟨c0, c1, c2, c3, c4⟩ := HC1.out W2 i x hbW2 hx1
            have st1 := store_new W2 n _ _ _ _ _ (x.kind : Nat) ⟨x.text.toArray⟩ (x.pl.1 : Nat) (x.pl.2.1 : Nat) (x.pl.2.2 : Nat) new1
            have new2 := set5_at (x.kind : Nat) ⟨x.text.toArray⟩ (x.pl.1 : Nat) (x.pl.2.1 : Nat) (x.pl.2.2 : Nat) new1
            have hbW3 := hbW2.trans (set5_below (V := W2) hn3 (x.kind : Nat) ⟨x.text.toArray⟩ (x.pl.1 : Nat) (x.pl.2.1 : Nat) (x.pl.2.2 : Nat))
            obtain ⟨W3, hW3⟩ : ∃ W3, set5 W2 n (x.kind : Nat) ⟨x.text.toArray⟩ (x.pl.1 : Nat) (x.pl.2.1 : Nat) (x.pl.2.2 : Nat) = W3 := ⟨_, rfl⟩
            rw [hW3] at st1 new2 hbW3
            obtain ⟨d0, d1, d2, d3, d4⟩ := HC3.out W3 i x hbW3 hx3
            have n0 := cell_at5 new2 (i := 0) rfl
            have n1 := cell_at5 new2 (i := 1) rfl
            have n2 := cell_at5 new2 (i := 2) rfl
            have n3 := cell_at5 new2 (i := 3) rfl
            have n4 := cell_at5 new2 (i := 4) rfl
            obtain ⟨kd, tx, ln, cl, at_⟩ := x
            simp only at c0 c1 c2 c3 c4 st1 d0 d1 d2 d3 d4 n0 n1 n2 n3 n4
            have HBW3 := Lib.hid (And.intro hbW3 hlt)
            have ST0 := Lib.hid st0
            have ST1 := Lib.hid st1
            clear hW3 new0 new1 new2 hbW1 hbW2 hbW3 hb hx1 hx3 hia hlt hn3 st0 st1
            go_wp2_with (first | (refine wpList_store_eq rfl rfl rfl rfl rfl ST0.out ?_; clear ST0) | (refine wpList_store_eq rfl rfl rfl rfl rfl ST1.out ?_; clear ST1))
            go_quiet (fail)
            go_wp2
            go_roundw
            case rel => exact ⟨i + 1, by simp, by have := HBW3.out.2; omega, below_drewN HBW3.out.1 _⟩
            case measure => have := HBW3.out.2; simp [RowKit.intOf]; omega
          · obtain ⟨z, hz2, e1, e2, e3, b1, b2⟩ := HX.out.2.1 i x hia hx3
            obtain ⟨j, hj⟩ : ∃ j, i - a = j := ⟨_, rfl⟩
            rw [hj] at hz2
            have hij : (i : Int) = (a : Int) + (j : Int) := by omega
            have hjl : j < N2 := by have h := (List.getElem?_eq_some_iff.1 hz2).1; have := HX.out.2.2.2.1; omega
            have nlt : ¬ (i : Int) < (a : Int) := by omega
            have pa : (0 : Int) ≤ (i : Int) - ((a : Int) + 1) + 1 := by omega
            have pb : (i : Int) - ((a : Int) + 1) + 1 < (N2 : Int) := by omega
            have pc : ((i : Int) - ((a : Int) + 1) + 1).toNat = j := by omega
            have w1' : IntKind.i64.wrap ((i : Int) - ((a : Int) + 1)) = (i : Int) - ((a : Int) + 1) := IntWalk.i64_in _ (by omega)
            have w2' : IntKind.i64.wrap ((i : Int) - ((a : Int) + 1) + 1) = (i : Int) - ((a : Int) + 1) + 1 := IntWalk.i64_in _ (by omega)
            obtain ⟨c0, c1, c2, c3, c4⟩ := HC2.out W2 j z hbW2 hz2
            have st1 := store_new W2 n _ _ _ _ _ (z.kind : Nat) ⟨z.text.toArray⟩ (z.pl.1 : Nat) (z.pl.2.1 : Nat) (z.pl.2.2 : Nat) new1
            have new2 := set5_at (z.kind : Nat) ⟨z.text.toArray⟩ (z.pl.1 : Nat) (z.pl.2.1 : Nat) (z.pl.2.2 : Nat) new1
            have hbW3 := hbW2.trans (set5_below (V := W2) hn3 (z.kind : Nat) ⟨z.text.toArray⟩ (z.pl.1 : Nat) (z.pl.2.1 : Nat) (z.pl.2.2 : Nat))
            obtain ⟨W3, hW3⟩ : ∃ W3, set5 W2 n (z.kind : Nat) ⟨z.text.toArray⟩ (z.pl.1 : Nat) (z.pl.2.1 : Nat) (z.pl.2.2 : Nat) = W3 := ⟨_, rfl⟩
            rw [hW3] at st1 new2 hbW3
            have n2 := cell_at5 new2 (i := 2) rfl
            have q2 := frozen_at5 new2 (i := 2)
            obtain ⟨kd, tx, ln, cl, at_⟩ := z
            obtain ⟨kd', tx', ln', cl', at'⟩ := x
            simp only at e1 e2 b1 b2
            subst e1
            subst e2
            have e3' : ln' = ln + (K1 + 1) ∧ cl' = cl ∧ at' = at_ + (s.size + 1) := by
              have := e3
              unfold Moved at this
              simp only [Prod.mk.injEq] at this
              exact this
            obtain ⟨rfl, rfl, rfl⟩ := e3'
            simp only at c0 c1 c2 c3 c4 st1 n2
            have lb : (ln : Int) ≤ 500001 := by omega
            have ab : (at_ : Int) ≤ 500000 := by omega
            have HBW3 := Lib.hid (And.intro hbW3 (And.intro hlt (And.intro new2 (And.intro hx3 hn3))))
            have ST0 := Lib.hid st0
            have ST1 := Lib.hid st1
            clear hW3 new0 new1 new2 hbW1 hbW2 hbW3 hb hx3 hia hlt hn3 st0 st1 e3 b1 b2 hz2 hij hj hjl
            go_wp2_with (first | (refine wpList_store_eq rfl rfl rfl rfl rfl ST0.out ?_; clear ST0) | (refine wpList_store_eq rfl rfl rfl rfl rfl ST1.out ?_; clear ST1))
            clear c0 c1 c2 c3 c4 pa pb pc nlt w1' w2'
            go_region_with (first | (go_at_call 19; refine (C1.out _).mono ?_; rintro e w4 ⟨rfl, rfl⟩))
            all_goals
              obtain ⟨hbW3, hlt, new2, hx3, hn3⟩ := HBW3.out
              have u3 : IntKind.i64.wrap (IntKind.i64.wrap ((ln : Int) + (K1 : Int)) + 1) = ((ln + (K1 + 1) : Nat) : Int) := by rw [IntWalk.i64_in ((ln : Int) + (K1 : Int)) (by omega), IntWalk.i64_in _ (by omega)]; omega
              rw [u3]
              have m1 := setc_at (i := 2) (u := .int .i64 ((ln + (K1 + 1) : Nat) : Int)) new2
              have bV : Below w3.heap.size w3 ((W3.setCell ⟨n, 2, none⟩ (.int .i64 ((ln + (K1 + 1) : Nat) : Int))).drew) := (hbW3.trans ((Below.refl w3.heap.size W3).setCell (p := ⟨n, 2, none⟩) hn3 _)).trans (below_drewN (Below.refl _ _) 1)
              have m2 : ((W3.setCell ⟨n, 2, none⟩ (.int .i64 ((ln + (K1 + 1) : Nat) : Int))).drew).heap[n]? = some (.cells (tkX (kd' : Nat) ⟨tx'.toArray⟩ ((ln + (K1 + 1) : Nat) : Int) (cl' : Nat) (at_ : Nat)) 39 (0, 0)) := m1
              obtain ⟨W4, hW4⟩ : ∃ W4, (W3.setCell ⟨n, 2, none⟩ (.int .i64 ((ln + (K1 + 1) : Nat) : Int))).drew = W4 := ⟨_, rfl⟩
              rw [hW4] at m2 bV
              try rw [hW4]
              have n4 := cell_at5 m2 (i := 4) rfl
              have f4 := frozen_at5 m2 (i := 4)
              have u5 : IntKind.i64.wrap (IntKind.i64.wrap ((at_ : Int) + (s.size : Int)) + 1) = ((at_ + (s.size + 1) : Nat) : Int) := by rw [IntWalk.i64_in ((at_ : Int) + (s.size : Int)) (by omega), IntWalk.i64_in _ (by omega)]; omega
              have m3 := setc_at (i := 4) (u := .int .i64 ((at_ + (s.size + 1) : Nat) : Int)) m2
              have bV3 : Below w3.heap.size w3 (W4.setCell ⟨n, 4, none⟩ (.int .i64 ((at_ + (s.size + 1) : Nat) : Int))) := bV.trans ((Below.refl w3.heap.size W4).setCell (p := ⟨n, 4, none⟩) hn3 _)
              obtain ⟨W5, hW5⟩ : ∃ W5, W4.setCell ⟨n, 4, none⟩ (.int .i64 ((at_ + (s.size + 1) : Nat) : Int)) = W5 := ⟨_, rfl⟩
              rw [hW5] at m3 bV3
              obtain ⟨d0, d1, d2, d3, d4⟩ := HC3.out W5 i _ bV3 hx3
              have n0 : W5.cell? ⟨n, 0, none⟩ = some (.int .i64 (kd' : Nat)) := cell_at5 m3 (i := 0) rfl
              have n1 : W5.cell? ⟨n, 1, none⟩ = some (.string ⟨tx'.toArray⟩) := cell_at5 m3 (i := 1) rfl
              have n2 : W5.cell? ⟨n, 2, none⟩ = some (.int .i64 ((ln + (K1 + 1) : Nat) : Int)) := cell_at5 m3 (i := 2) rfl
              have n3 : W5.cell? ⟨n, 3, none⟩ = some (.int .i64 (cl' : Nat)) := cell_at5 m3 (i := 3) rfl
              have n4' : W5.cell? ⟨n, 4, none⟩ = some (.int .i64 ((at_ + (s.size + 1) : Nat) : Int)) := cell_at5 m3 (i := 4) rfl
              simp only at d0 d1 d2 d3 d4
              have HL := Lib.hid (And.intro bV3 hlt)
              clear hbW3 hlt new2 hx3 hn3 m1 m2 m3 bV bV3 u3 hW4 q2
              go_wp2
              rw [show (at_ : Int) + (s.size : Int) + 1 = ((at_ + (s.size + 1) : Nat) : Int) by omega, hW5]
              clear hW5 n4 f4 u5
              obtain ⟨LN, hLN⟩ : ∃ LN, ln + (K1 + 1) = LN := ⟨_, rfl⟩
              obtain ⟨AT, hAT⟩ : ∃ AT, at_ + (s.size + 1) = AT := ⟨_, rfl⟩
              rw [hLN] at d2 n2
              rw [hAT] at d4 n4'
              clear hLN hAT
              go_quiet (fail)
              go_wp2
              go_roundw
              case rel => exact ⟨i + 1, by simp, by have := HL.out.2; omega, below_drewN HL.out.1 _⟩
              case measure => have := HL.out.2; simp [RowKit.intOf]; omega
        · have hie : ¬ (i : Int) < N3 := by omega
          have HBl := Lib.hid hb
          clear hb
          go_wp2_with (go_at_call 10; refine (CW.out _ (HB3.out.trans (HBl.out.mono HB3.out.size))).mono ?_; rintro e w4 ⟨rfl, hb4⟩)
          go_ret
          have h5 := HB3.out.trans (HBl.out.mono HB3.out.size)
          exact ⟨rfl, h5.trans (hb4.mono h5.size)⟩
end Go.Proofs.YtlfdpdlhppgakaaGreatDoor
/- Of any two texts, ScanJoined answers true (two files, one behind the other, are read as the tokens of the first and those of the second), in any world in which the package's variables are laid: the row and the card. -/
namespace Go.Proofs.YtlfdpdlhppgakaaGreatDoor
open Go.ChangeShapes Go.WideShapes Go.ChangeAt Go.RowKit Go.Kt
set_option maxRecDepth 100000

theorem scanJoined_lifted (os : Os) (started : os.Started) (H : Type) (enc : TypeId × Value → H) (F : Stop.Interp) :
    ReturnsInHanded {} Tryz.checked os 6 .any ((OpenSpec.ofChange Rows.scanJoinedSpec).preRow enc Tryz.prog Tryz.f6 Rows.scanJoinedRow.domain false Rows.scanJoinedRow.laid) (((OpenSpec.ofChange Rows.scanJoinedSpec).at F).post enc Tryz.prog Tryz.f6 false true false false) := by
  refine returnsInHanded_of_row (C := Tryz.checked) (s := OpenSpec.ofChange Rows.scanJoinedSpec) own started (by kernel_rfl) Tryz.func6
    (witness_row_at (enc := enc) (C := Tryz.checked) false (world8 os) #[.string ⟨#[]⟩, .string ⟨#[]⟩] (world8_os _) (by kernel_rfl) (by kernel_rfl) (by kernel_rfl)
      (OpenSpec.preRow_of_cond (x := ([.lit (.string []), .lit (.string [])], [], [])) 8 (by kernel_rfl) (by kernel_rfl) (fun k hk => by cases hk) (by kernel_rfl) (laid_met8 os _))) ?_
  intro W base args ds gs before hval0 hW _ _ hz hL _ _
  have hval : ∀ (j : Nat) t v, Tryz.f6.params[j]? = some t → args[j]? = some v → Value.okWide Tryz.prog W .any base t v := hval0
  have hW' := hW
  obtain ⟨p, q, hA0, hV, rfl, _, _⟩ := hW
  have hA : DataW.TrodAll enc Tryz.prog W 0 (fun _ => true) true Tryz.f6.params.toList args.toList ds p := hA0
  rw [Tryz.params6] at hA hval
  obtain ⟨v0, v1, d0, d1, p0, p1, rfl, rfl, rfl, h0, h1⟩ := trodAll_two hA
  obtain ⟨rfl, rfl⟩ := trodVars_none hV
  obtain ⟨a0, rfl, rfl, rfl, w0⟩ := ChangeMaps.open_string Tryz.underlying9 (hval 0 9 v0 rfl rfl) h0
  have z0 : a0.size ≤ 140737488351232 := by simpa [reachBytes] using sized_string hz (j := 0) rfl rfl
  obtain ⟨a1, rfl, rfl, rfl, w1⟩ := ChangeMaps.open_string Tryz.underlying9 (hval 1 9 v1 rfl rfl) h1
  have z1 : a1.size ≤ 140737488351232 := by simpa [reachBytes] using sized_string hz (j := 1) rfl rfl
  obtain ⟨hE, hT, hTl⟩ := of_laid8 hL
  clear hA0 hval0
  simp only [List.append_nil] at hW'
  refine (scanJoined_c a0 a1 W hE hT hTl z0 z1).mono fun e W' ⟨he, hb⟩ => ?_
  subst he
  exact ⟨_, rfl, _, _, _, [], [], [], hW', trodAll_mk1 (shut_bool Tryz.underlying4 _), (trodAll_mk2 (ChangeMaps.shut_string Tryz.underlying9 w0) (ChangeMaps.shut_string Tryz.underlying9 w1)), rfl, hb.frame _, fun h => by cases h⟩

theorem scanJoined_said : Rows.ScanJoinedSaid :=
  OpenClaim.holds_of_cond 6 Tryz.f6 rfl rfl rfl rfl rfl rfl rfl ⟨rfl, rfl, rfl, rfl, rfl⟩ rfl rfl rfl rfl rfl (by kernel_rfl) Tryz.func6 (by kernel_rfl)
    (of_decide_eq_true (by kernel_rfl)) (by unfold Func.isWrapper; first | (rw [if_pos (by decide +kernel)]; kernel_rfl) | (rw [if_neg (by decide +kernel)]; exact ⟨rfl, rfl⟩))
    (fun os started H enc _ F => by rw [OpenClaim.pre_eq_preRow]; exact scanJoined_lifted os started H enc F)

theorem scanJoined_plain (f : FuncId) (fn : Func) (hf : Tryz.pinned.checked.prog.funcNamed "glossary/glossarylaw05.ScanJoined" = some f) (hfn : Tryz.pinned.checked.prog.funcs[f]? = some fn) :
    true = Tryz.pinned.checked.prog.looks [] ∧ ∀ (j : Nat) t, fn.params[j]? = some t → Tryz.pinned.checked.prog.wantsStandIn t = false := by
  obtain rfl : f = 6 := Option.some.inj ((show Tryz.prog.funcNamed "glossary/glossarylaw05.ScanJoined" = some 6 by kernel_rfl).symm.trans hf) |>.symm
  obtain rfl : fn = Tryz.f6 := (Option.some.inj (Tryz.func6.symm.trans hfn)).symm
  refine ⟨by kernel_rfl, fun j t ht => ?_⟩
  rw [Tryz.params6] at ht
  have hm : t ∈ [9, 9] := by simpa using Array.mem_of_getElem? ht
  have hall : ([9, 9].all fun u => !Tryz.prog.wantsStandIn u) = true := by kernel_rfl
  exact (show Tryz.prog.wantsStandIn t = false by simpa using List.all_eq_true.1 hall t hm)

theorem scanJoined_card : Rows.ScanJoinedCardSaid :=
  Claim7.holds_tied_plain_at .later [] _ _ _ _ scanJoined_said (fun _ h => by cases h) (by kernel_rfl) (fun _ h => by cases h) scanJoined_row_tie rfl ⟨rfl, rfl⟩ (by kernel_rfl) rfl scanJoined_plain (by kernel_rfl)

end Go.Proofs.YtlfdpdlhppgakaaGreatDoor
