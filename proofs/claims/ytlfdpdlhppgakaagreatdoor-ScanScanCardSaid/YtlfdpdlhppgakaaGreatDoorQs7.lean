/- Parts of the proof of what the last text says. -/
import Derived.Test.YtlfdpdlhppgakaaGreatDoorQs6
import Derived.Test.YtlfdpdlhppgakaaGreatDoorQs2
import Derived.Test.YtlfdpdlhppgakaaGreatDoorQs4
import Derived.Test.YtlfdpdlhppgakaaGreatDoorQs1
/- A text that is quoted is read as that text: the scanner's run over quoV. No run in this text. -/
namespace Go.Proofs.YtlfdpdlhppgakaaGreatDoor
open Go Go.RowKit Go.Kt Go.Kt.Rg Go.Shelf Go.Lib

theorem decN_pre {N N' b0 b1 b2 b3 d1 d2 d3 r w : Nat} (h : decodeN N b0 b1 b2 b3 = (r, w)) (hne : ¬ (r = 65533 ∧ w = 1)) (hN : w ≤ N') (h1 : 1 < w → d1 = b1) (h2 : 2 < w → d2 = b2) (h3 : 3 < w → d3 = b3) : decodeN N' b0 d1 d2 d3 = (r, w) := by
  unfold decodeN at h ⊢
  split at h
  · rename_i g; rw [if_pos g]; exact h
  rename_i g0
  rw [if_neg g0]
  split at h
  · rename_i g1
    split at h
    · rename_i g2
      cases h
      have e := h1 (by decide); subst e
      rw [if_pos ⟨g1.1, by omega, g1.2.2⟩, if_pos g2]
    · cases h; exact absurd ⟨rfl, rfl⟩ hne
  split at h
  · rename_i g1 g2
    split at h
    · rename_i g3
      cases h
      have e := h1 (by decide); subst e
      have e := h2 (by decide); subst e
      rw [if_neg (by omega), if_pos ⟨g2.1, ⟨by omega, g2.2.1.2⟩, by omega, g2.2.2.2⟩, if_pos g3]
    · cases h; exact absurd ⟨rfl, rfl⟩ hne
  split at h
  · rename_i g1 g2 g3
    split at h
    · rename_i g4
      cases h
      have e := h1 (by decide); subst e
      have e := h2 (by decide); subst e
      have e := h3 (by decide); subst e
      rw [if_neg (by omega), if_neg (by omega), if_pos ⟨g3.1, ⟨by omega, g3.2.1.2⟩, ⟨by omega, g3.2.2.1.2⟩, by omega, g3.2.2.2.2⟩, if_pos g4]
    · cases h; exact absurd ⟨rfl, rfl⟩ hne
  · cases h; exact absurd ⟨rfl, rfl⟩ hne

section
variable {Q : ByteArray} {p : Nat} {E rest : List UInt8}
theorem drop_len (h : Q.data.toList.drop p = E ++ rest) (hp : p ≤ Q.size) : p + E.length ≤ Q.size := by
  have h1 := congrArg List.length h
  rw [List.length_drop, List.length_append, ← Lib.size_eq] at h1
  omega
theorem B_drop (h : Q.data.toList.drop p = E ++ rest) {j : Nat} (hj : j < E.length) : B Q (p + j) = (E.getD j 0).toNat := by
  unfold B
  have h1 : Q.data.toList[p + j]? = E[j]? := by
    rw [← List.getElem?_drop, h, List.getElem?_append_left hj]
  rw [List.getD_eq_getElem?_getD, h1, List.getD_eq_getElem?_getD]
theorem drop_more (h : Q.data.toList.drop p = E ++ rest) : Q.data.toList.drop (p + E.length) = rest := by
  rw [← List.drop_drop, h, List.drop_left]
theorem seg_drop (h : Q.data.toList.drop p = E ++ rest) : seg Q p (p + E.length) = E := by
  rw [seg_eq, List.drop_take, Nat.add_sub_cancel_left, h, List.take_left]
theorem ext_rest (h : Q.data.toList.drop p = E ++ rest) : (Q.extract p Q.size).data.toList = E ++ rest := by
  have : (Q.extract p Q.size).data.toList = seg Q p Q.size := rfl
  rw [this, seg_eq, List.take_of_length_le (by rw [← Lib.size_eq]; omega), h]
end
theorem dec_lo (Q : ByteArray) (p : Nat) (h : B Q p < 128) : Utf8.decode Q p = (B Q p, 1) := by
  rw [decode_B]; unfold decodeN; rw [if_pos h]

/-- A text that is open at its next piece. -/
structure Bd (p : Nat) (c : Sc) (x : List UInt8) : Prop where
  fr : c.from = (1, 1, 0)
  toks : c.toks = []
  text : c.text = x
  st : c.st = 4 ∨ c.st = 7 ∧ c.behind ≤ p
def okr (r : Int) : Prop := isBlk r = false ∧ (r = 92 ∨ isSgs r = false) ∧ isSgn (encL r) = false
/-- The scanner is ready for a text's next piece. -/
def Rd (Q : ByteArray) (p : Nat) (c : Sc) (x : List UInt8) : Prop :=
  ∃ c1 : Sc, c1.here.2.2 = p ∧ c1.from = (1, 1, 0) ∧ c1.toks = [] ∧ c1.text = x ∧ ∀ r c', okr r → plainS Q c1 r = .took c' → tokenS Q { c with here := plNext Q c.here p } r = .ok c'
theorem Bd.token {p : Nat} {c : Sc} {x : List UInt8} (h : Bd p c x) (Q : ByteArray) (r : Int) : tokenS Q { c with here := plNext Q c.here p } r = textS Q { c with here := plNext Q c.here p } r ∧ pieceS Q { c with here := plNext Q c.here p } r = plainS Q { c with here := plNext Q c.here p } r := by
  have hx := (plNext_ix Q c.here p).1
  rcases h.st with h4 | ⟨h7, hb⟩
  · exact ⟨by unfold tokenS; simp [h4], by unfold pieceS; simp [h4]⟩
  · refine ⟨by unfold tokenS; simp [h7], ?_⟩
    simp [pieceS, escapeS, h7, hx, hb]
theorem Bd.rd {p : Nat} {c : Sc} {x : List UInt8} (h : Bd p c x) (Q : ByteArray) : Rd Q p c x := by
  refine ⟨{ c with here := plNext Q c.here p }, (plNext_ix Q c.here p).1, h.fr, h.toks, h.text, fun r c' _ hp => ?_⟩
  obtain ⟨h1, h2⟩ := h.token Q r
  rw [h1]
  unfold textS
  rw [h2, hp]
theorem rd_first (Q : ByteArray) : Rd Q 0 c0S [] := by
  refine ⟨⟨4, (1, 1, 0), (1, 1, 0), [], (0, 0, 0), 0, []⟩, rfl, rfl, rfl, rfl, fun r c' hr hp => ?_⟩
  obtain ⟨h1, h2, h3⟩ := hr
  have h35 : r ≠ 35 := by rintro rfl; rcases h2 with h | h; cases h; exact absurd h (by decide)
  have h91 : r ≠ 91 := by rintro rfl; rcases h2 with h | h; cases h; exact absurd h (by decide)
  have h93 : r ≠ 93 := by rintro rfl; rcases h2 with h | h; cases h; exact absurd h (by decide)
  have h42 : r ≠ 42 := by rintro rfl; rcases h2 with h | h; cases h; exact absurd h (by decide)
  have e : tokenS Q { c0S with here := plNext Q c0S.here 0 } r = betweenS Q { c0S with here := plNext Q c0S.here 0 } r := by simp [tokenS, c0S]
  rw [e]
  unfold betweenS
  rw [if_neg (by rw [h1]; decide), if_neg h35, if_neg (by rw [h3]; decide), if_neg h91, if_neg h93, if_neg h42]
  show (plainS Q ⟨4, (1, 1, 0), (1, 1, 0), [], (0, 0, 0), 0, []⟩ r).out = _
  rw [hp]
  rfl
theorem runS_one {Q : ByteArray} {f i v r : Nat} {c c' : Sc} (hi : i < Q.size + 1) (hd : Utf8.decode (Q ++ nlB) i = (r, v)) (ht : tokenS Q { c with here := plNext Q c.here i } (r : Nat) = .ok c') : runS Q (f + 1) i c = runS Q f (i + v) c' := by
  rw [runS, if_pos hi, hd, ht]
theorem dec_in {Q : ByteArray} {p : Nat} (h : p < Q.size) (hb : B Q p < 128) : Utf8.decode (Q ++ nlB) p = (B Q p, 1) := by
  rw [decode_nl Q p h, dec_lo Q p hb]
/-- The units of an escape pass. -/
theorem run_pass (Q : ByteArray) : ∀ (n p : Nat) (c : Sc) (F : Nat), (∀ j, j < n → B Q (p + j) < 128) → p + n ≤ Q.size → c.st = 7 → c.behind = p + n → Q.size + 1 ≤ p + F →
    ∃ F' c', runS Q F p c = runS Q F' (p + n) c' ∧ c'.from = c.from ∧ c'.toks = c.toks ∧ c'.text = c.text ∧ c'.st = 7 ∧ c'.behind = p + n ∧ Q.size + 1 ≤ p + n + F' := by
  intro n
  induction n with
  | zero => intro p c F _ _ hs hb hF; exact ⟨F, c, rfl, rfl, rfl, rfl, hs, hb, hF⟩
  | succ n ih =>
    intro p c F hB hp hs hb hF
    obtain ⟨F, rfl⟩ : ∃ f, F = f + 1 := ⟨F - 1, by omega⟩
    have hx := (plNext_ix Q c.here p).1
    have ht : tokenS Q { c with here := plNext Q c.here p } (B Q p : Nat) = .ok { c with here := plNext Q c.here p } := by
      have hnl : ¬ p + (n + 1) ≤ p := by omega
      simp [tokenS, textS, pieceS, escapeS, hs, hx, hb]
      rw [if_neg hnl]
    have hB0 := hB 0 (by omega)
    rw [Nat.add_zero] at hB0
    have h1 := runS_one (f := F) (by omega) (dec_in (by omega) hB0) ht
    obtain ⟨F', c', e1, e2, e3, e4, e5, e6, e7⟩ := ih (p + 1) { c with here := plNext Q c.here p } F (fun j hj => by have := hB (j + 1) (by omega); rw [show p + 1 + j = p + (j + 1) by omega]; exact this) (by omega) hs (by simp only; omega) (by omega)
    refine ⟨F', c', ?_, e2, e3, e4, e5, by omega, by omega⟩
    rw [h1, e1, show p + 1 + n = p + (n + 1) by omega]
/-- An escape E, that stands for t, is taken. -/
theorem run_esc {Q : ByteArray} {p : Nat} {c : Sc} {x E rest t : List UInt8} {F : Nat} (hE : Q.data.toList.drop p = (92 :: E) ++ rest) (hp : p ≤ Q.size) (ha : ∀ b ∈ E, b.toNat < 128) (hF : Q.size + 1 ≤ p + F) (hrd : Rd Q p c x)
    (hu : unescV (Q.extract p Q.size) = some (t, E.length + 1)) :
    ∃ F' c', runS Q F p c = runS Q F' (p + (E.length + 1)) c' ∧ Bd (p + (E.length + 1)) c' (x ++ t) ∧ Q.size + 1 ≤ p + (E.length + 1) + F' := by
  obtain ⟨c1, g1, g2, g3, g4, g5⟩ := hrd
  have hln := drop_len hE hp
  rw [List.length_cons] at hln
  obtain ⟨F, rfl⟩ : ∃ f, F = f + 1 := ⟨F - 1, by omega⟩
  have hB0 : B Q p = 92 := by have := B_drop hE (j := 0) (by simp); simpa using this
  have hpl : plainS Q c1 92 = .took { c1 with st := 7, text := c1.text ++ t, behind := c1.here.2.2 + (E.length + 1) } := by
    unfold plainS
    rw [if_neg (by decide), if_pos rfl, g1, hu]
  have ht := g5 92 _ ⟨by decide, .inl rfl, by decide⟩ hpl
  have h1 := runS_one (f := F) (v := 1) (r := 92) (by omega) (by rw [dec_in (by omega) (by omega), hB0]) ht
  obtain ⟨F', c', e1, e2, e3, e4, e5, e6, e7⟩ := run_pass Q E.length (p + 1) { c1 with st := 7, text := c1.text ++ t, behind := c1.here.2.2 + (E.length + 1) } F (fun j hj => by
      have := B_drop hE (j := j + 1) (by simp; omega)
      rw [show p + 1 + j = p + (j + 1) by omega, this]
      simp only [List.getD_cons_succ]
      rw [List.getD_eq_getElem?_getD, List.getElem?_eq_getElem hj]
      exact ha _ (List.getElem_mem hj)) (by omega) rfl (by simp only; omega) (by omega)
  refine ⟨F', c', ?_, ⟨e2.trans g2, e3.trans g3, by rw [e4]; simp only [g4], .inr ⟨e5, by omega⟩⟩, by omega⟩
  rw [h1, e1, show p + 1 + E.length = p + (E.length + 1) by omega]
/-- A unit that is neither a blank's nor a sign's is taken. -/
theorem run_plain {Q : ByteArray} {p r : Nat} {c : Sc} {x E rest : List UInt8} {F : Nat} (hE : Q.data.toList.drop p = E ++ rest) (hp : p ≤ Q.size) (hl : 1 ≤ E.length) (hd : Utf8.decode (Q ++ nlB) p = (r, E.length)) (hF : Q.size + 1 ≤ p + F) (hrd : Rd Q p c x)
    (h1 : isBlk (r : Nat) = false) (h2 : isSgs (r : Nat) = false) (h3 : isSgn (encL (r : Nat)) = false) :
    ∃ F' c', runS Q F p c = runS Q F' (p + E.length) c' ∧ Bd (p + E.length) c' (x ++ E) ∧ Q.size + 1 ≤ p + E.length + F' := by
  obtain ⟨c1, g1, g2, g3, g4, g5⟩ := hrd
  have hln := drop_len hE hp
  obtain ⟨F, rfl⟩ : ∃ f, F = f + 1 := ⟨F - 1, by omega⟩
  have n39 : ((r : Nat) : Int) ≠ 39 := fun h => by rw [h] at h2; exact absurd h2 (by decide)
  have n92 : ((r : Nat) : Int) ≠ 92 := fun h => by rw [h] at h2; exact absurd h2 (by decide)
  have hw : unitW Q p = E.length := by unfold unitW; rw [if_pos (by omega), ← decode_nl Q p (by omega), hd]
  have hU : unitL Q p = E := by unfold unitL; rw [hw]; exact seg_drop hE
  have hpl : plainS Q c1 (r : Nat) = .took { c1 with st := 4, text := c1.text ++ E } := by
    unfold plainS
    rw [if_neg n39, if_neg n92, if_neg (by rw [h1]; decide), if_neg (by rw [h2]; decide), g1, hU]
  have ht := g5 (r : Nat) _ ⟨h1, .inr h2, h3⟩ hpl
  refine ⟨F, _, runS_one (by omega) hd ht, ⟨g2, g3, by simp only [g4], .inl rfl⟩, by omega⟩

section
variable {X : ByteArray} {rest : List UInt8}
theorem xunit_one {u : UInt8} {a : UInt8} (hX : X.data.toList = a :: u :: rest) (hu : u.toNat < 128) : unitW X 1 = 1 ∧ (decP X 1).1 = (u.toNat : Int) ∧ 2 ≤ X.size := by
  have hz : 2 ≤ X.size := by rw [Lib.size_eq, hX]; simp
  have hB : B X 1 = u.toNat := by unfold B; rw [hX]; rfl
  have hd := dec_lo X 1 (by rw [hB]; exact hu)
  refine ⟨by unfold unitW; rw [if_pos (by omega), hd], ?_, hz⟩
  have := decP_in X 1 (by omega)
  rw [show ((1 : Nat) : Int) = 1 from rfl] at this
  rw [this, hd, hB]
theorem unesc_ill {b : Nat} (hX : X.data.toList = 92 :: (120 :: hexL b) ++ rest) (h : 128 ≤ b) (h2 : b < 256) : unescV X = some ([UInt8.ofNat b], 4) := by
  obtain ⟨e1, e2, e3⟩ := xunit_one hX (by decide)
  have hh := hex_two b h2 (by omega)
  unfold unescV
  rw [e1, if_neg (by decide), e2, if_neg (by decide), if_pos (by decide)]
  unfold illV
  have hd2 : (X.data.toList.drop 2).take 2 = hexL b := by
    rw [hX]
    show (hexL b ++ rest).take 2 = hexL b
    rw [← hh, List.take_left]
  rw [hd2, puV_hex 255 b (by omega) (by omega), if_neg (by rw [hX]; simp [hh])]
  simp only
  rw [if_neg (by omega)]
set_option maxRecDepth 100000 in
theorem unesc_chr {r : Nat} (hX : X.data.toList = 92 :: (117 :: 123 :: hexL r ++ [125]) ++ rest) (h : r < 128) : unescV X = some ([UInt8.ofNat r], 4 + (hexL r).length) := by
  have hX2 : X.data.toList = 92 :: 117 :: (123 :: (hexL r ++ 125 :: rest)) := by rw [hX]; simp
  obtain ⟨e1, e2, e3⟩ := xunit_one hX2 (by decide)
  unfold unescV
  rw [e1, if_neg (by decide), e2, if_pos (by decide)]
  unfold chrV
  have ho : opn X.data.toList = true := by rw [hX2]; rfl
  have hr : rst X.data.toList = hexL r ++ 125 :: rest := by unfold rst; rw [if_pos ho, hX2]; rfl
  have hup : upB (rst X.data.toList) = hexL r := by rw [hr]; exact upB_at _ _ (fun c hc => (hexF_clean 8 r c hc).1)
  have hct : (rst X.data.toList).contains 125 = true := by rw [hr]; simp
  have hpu : puV 16777215 (upB (rst X.data.toList)) = some r := by rw [hup]; exact puV_hex _ _ (by omega) (by omega)
  rw [hpu, hup, ho, hct]
  have hl6 : (hexL r).length ≤ 6 := (by decide +kernel : ∀ r, r < 128 → (hexL r).length ≤ 6) r h
  have hv : Lib.validRune (r : Nat) = true := (by decide +kernel : ∀ r : Nat, r < 128 → Lib.validRune (r : Nat) = true) r h
  have he : (Utf8.encode (r : Nat)).data.toList = [UInt8.ofNat r] := (by decide +kernel : ∀ r : Nat, r < 128 → (Utf8.encode (r : Nat)).data.toList = [UInt8.ofNat r]) r h
  unfold chrO
  simp only
  rw [hv, he, decide_eq_true hl6]
  rfl
theorem unesc_sgs {u : UInt8} (hX : X.data.toList = 92 :: [u] ++ rest) (hu : u.toNat < 128) (h1 : u ≠ 117) (h2 : u ≠ 120) : unescV X = some ([u], 2) := by
  obtain ⟨e1, e2, e3⟩ := xunit_one (X := X) (rest := rest) hX hu
  have n1 : (u.toNat : Int) ≠ 117 := fun h => h1 (by apply UInt8.toNat_inj.1; have : (117 : UInt8).toNat = 117 := rfl; omega)
  have n2 : (u.toNat : Int) ≠ 120 := fun h => h2 (by apply UInt8.toNat_inj.1; have : (120 : UInt8).toNat = 120 := rfl; omega)
  unfold unescV
  rw [e1, if_neg (by decide), e2, if_neg n1, if_neg n2]
  have : (X.extract 1 (1 + 1)).data.toList = [u] := by
    have h3 : (X.extract 1 (1 + 1)).data.toList = seg X 1 (1 + 1) := rfl
    rw [h3, seg_eq, hX]
    rfl
  rw [this]
end

theorem dec_r_lo {s : ByteArray} {i : Nat} (h : (Utf8.decode s i).1 < 128) : B s i = (Utf8.decode s i).1 ∧ (Utf8.decode s i).2 = 1 := by
  rw [decode_B] at h ⊢
  revert h
  unfold decodeN
  repeat' split
  all_goals (intro h; first | exact ⟨rfl, rfl⟩ | (exfalso; simp only at h; omega))
set_option maxRecDepth 100000 in
theorem nsgn {s : ByteArray} {i : Nat} (h : isSgs ((Utf8.decode s i).1 : Nat) = false) (_hi : i < s.size) (hw : ¬ ((Utf8.decode s i).1 = 65533 ∧ (Utf8.decode s i).2 = 1)) : isSgn (encL ((Utf8.decode s i).1 : Nat)) = false := by
  by_cases h1 : (Utf8.decode s i).1 < 128
  · generalize (Utf8.decode s i).1 = r at *
    revert h
    exact (by decide +kernel : ∀ r : Nat, r < 128 → isSgs (r : Nat) = false → isSgn (encL (r : Nat)) = false) r h1
  · have hv : Utf8.valid ((Utf8.decode s i).1 : Nat) = true := by
      rw [decode_B] at hw h1 ⊢
      revert hw h1
      unfold decodeN
      repeat' split
      all_goals (intro hw h1; simp only at hw h1 ⊢; first | (exfalso; omega) | (simp only [Utf8.valid, Bool.or_eq_true, Bool.and_eq_true, decide_eq_true_iff]; omega) | (exact absurd ⟨rfl, rfl⟩ hw))
    obtain ⟨q1, q2, q3⟩ := enc_hi ((Utf8.decode s i).1 : Nat) (by omega) hv
    have hl : (encL ((Utf8.decode s i).1 : Nat)).length = (Utf8.encode ((Utf8.decode s i).1 : Nat)).size := (Lib.size_eq _).symm
    have hne : encL ((Utf8.decode s i).1 : Nat) ∉ sgnL := by
      intro hm
      have hall : ∀ l ∈ sgnL, ∃ c ∈ l, c.toNat < 128 := by decide
      obtain ⟨c, hc, hlt⟩ := hall _ hm
      have := q3 c hc
      omega
    unfold isSgn
    simpa using hne
theorem one_byte {s : ByteArray} {i : Nat} (hi : i < s.size) : seg s i (i + 1) = [UInt8.ofNat (B s i)] := by
  rw [seg_range s i 1 (by omega)]
  rfl
theorem hexL_lo : ∀ u, u < 256 → ∀ b ∈ hexL u, b.toNat < 128 := by decide +kernel
theorem sgs_lt {r : Nat} (h : isSgs (r : Nat) = true) : r < 128 ∧ r ≠ 117 ∧ r ≠ 120 := by
  by_cases h1 : r < 128
  · refine ⟨h1, ?_, ?_⟩ <;> (rintro rfl; exact absurd h (by decide))
  · rw [isSgs_hi (r : Nat) (by omega)] at h; cases h
theorem unitW_dec {s : ByteArray} {i : Nat} (hi : i < s.size) : unitW s i = (Utf8.decode s i).2 := by unfold unitW; rw [if_pos hi]
theorem run_unit {s Q : ByteArray} {i p : Nat} {c : Sc} {x rest : List UInt8} {F : Nat} (hi : i < s.size) (hQ : Q.data.toList.drop p = quoU s i ++ rest) (hp : p ≤ Q.size) (hF : Q.size + 1 ≤ p + F) (hrd : Rd Q p c x) :
    ∃ F' c', runS Q F p c = runS Q F' (p + (quoU s i).length) c' ∧ Bd (p + (quoU s i).length) c' (x ++ seg s i (i + unitW s i)) ∧ Q.size + 1 ≤ p + (quoU s i).length + F' := by
  have hw := unitW_dec hi
  obtain ⟨d1, d2, d3⟩ := dec_width s i hi
  have hdP : (decP s (i : Nat)).1 = ((Utf8.decode s i).1 : Int) := by rw [decP_in s i hi]
  have hU : quoU s i = escV (seg s i (i + unitW s i)) ((Utf8.decode s i).1 : Nat) := by unfold quoU; rw [hdP]; rfl
  have hln : (seg s i (i + unitW s i)).length = unitW s i := by rw [seg_len s i _ (by omega) (by omega)]; omega
  unfold escV at hU
  by_cases h1 : ((Utf8.decode s i).1 : Int) = 65533 ∧ (seg s i (i + unitW s i)).length = 1
  · rw [if_pos h1] at hU
    obtain ⟨h1, h2⟩ := h1
    have hw1 : unitW s i = 1 := by omega
    have hb : ¬ B s i < 128 := fun hb => by
      have := dec_lo s i hb
      rw [this] at h1
      simp only at h1
      omega
    have hB := B_lt s i
    rw [hw1, one_byte hi] at hU ⊢
    have hU2 : quoU s i = 92 :: (120 :: hexL (B s i)) := by
      rw [hU]
      have : (([UInt8.ofNat (B s i)] : List UInt8).getD 0 0).toNat = B s i := by simp; omega
      rw [this]; rfl
    have hh := hex_two (B s i) hB (by omega)
    rw [hU2] at hQ ⊢
    exact run_esc (t := [UInt8.ofNat (B s i)]) hQ hp (by
      intro b hb2
      rcases List.mem_cons.1 hb2 with rfl | hb2
      · decide
      · exact hexL_lo _ hB b hb2) hF hrd (by rw [unesc_ill (X := Q.extract p Q.size) (ext_rest hQ) (by omega) hB]; simp [hh])
  rw [if_neg h1] at hU
  by_cases h2 : ((Utf8.decode s i).1 : Int) ≤ 32 ∨ ((Utf8.decode s i).1 : Int) = 127
  · rw [if_pos h2] at hU
    obtain ⟨hb, hw1⟩ := dec_r_lo (s := s) (i := i) (by omega)
    have hw1 : unitW s i = 1 := hw.trans hw1
    rw [hw1, one_byte hi]
    have hU2 : quoU s i = 92 :: (117 :: 123 :: hexL (B s i) ++ [125]) := by
      rw [hU, ← hb]; simp
    rw [hU2] at hQ ⊢
    exact run_esc (t := [UInt8.ofNat (B s i)]) hQ hp (by
      intro b hb2
      simp only [List.cons_append, List.mem_cons, List.mem_append, List.not_mem_nil, or_false] at hb2
      rcases hb2 with rfl | rfl | hb2 | rfl
      · decide
      · decide
      · exact hexL_lo _ (by omega) b hb2
      · decide) hF hrd (by rw [unesc_chr (X := Q.extract p Q.size) (ext_rest hQ) (by omega)]; simp; omega)
  rw [if_neg h2] at hU
  by_cases h3 : isSgs ((Utf8.decode s i).1 : Nat) = true
  · rw [if_pos h3] at hU
    obtain ⟨q1, q2, q3⟩ := sgs_lt h3
    obtain ⟨hb, hw1⟩ := dec_r_lo (s := s) (i := i) q1
    have hw1 : unitW s i = 1 := hw.trans hw1
    rw [hw1, one_byte hi] at hU ⊢
    have hu : (UInt8.ofNat (B s i)).toNat = B s i := by simp; omega
    have hU2 : quoU s i = 92 :: [UInt8.ofNat (B s i)] := by rw [hU]; rfl
    rw [hU2] at hQ ⊢
    exact run_esc (t := [UInt8.ofNat (B s i)]) hQ hp (by
      intro b hb2
      rw [List.mem_singleton] at hb2
      subst hb2
      omega) hF hrd (by
        rw [unesc_sgs (X := Q.extract p Q.size) (ext_rest hQ) (by omega) (fun h => by rw [h] at hu; have : (117 : UInt8).toNat = 117 := rfl; omega) (fun h => by rw [h] at hu; have : (120 : UInt8).toNat = 120 := rfl; omega)]
        rfl)
  have h3 : isSgs ((Utf8.decode s i).1 : Nat) = false := by simpa using h3
  rw [if_neg (by rw [h3]; decide)] at hU
  have hne : ¬ ((Utf8.decode s i).1 = 65533 ∧ (Utf8.decode s i).2 = 1) := fun h => h1 ⟨by omega, by omega⟩
  rw [hU] at hQ ⊢
  have hdl := drop_len hQ hp
  have hBj : ∀ j, j < unitW s i → B (Q ++ nlB) (p + j) = B s (i + j) := fun j hj => by
    rw [nl_B Q _ (by omega), B_drop hQ (by omega), seg_range s i _ (by omega), List.getD_eq_getElem?_getD, List.getElem?_map, List.getElem?_range hj]
    have := B_lt s (i + j)
    simp; omega
  have hd : Utf8.decode (Q ++ nlB) p = ((Utf8.decode s i).1, (seg s i (i + unitW s i)).length) := by
    rw [hln, hw, decode_B]
    have hB0 := hBj 0 (by omega)
    rw [Nat.add_zero, Nat.add_zero] at hB0
    rw [hB0]
    have hnz := nl_size Q
    exact decN_pre (by rw [← decode_B]) hne (by omega) (fun h => hBj 1 (by omega)) (fun h => hBj 2 (by omega)) (fun h => hBj 3 (by omega))
  have hbk : isBlk ((Utf8.decode s i).1 : Nat) = false := by
    unfold isBlk
    simp only [Bool.or_eq_false_iff, beq_eq_false_iff_ne]
    refine ⟨⟨⟨?_, ?_⟩, ?_⟩, ?_⟩ <;> omega
  exact run_plain hQ hp (by omega) hd hF hrd hbk h3 (nsgn h3 hi hne)

theorem run_quo (s Q : ByteArray) : ∀ (f i p : Nat) (F : Nat) (c : Sc) (x : List UInt8), Q.data.toList.drop p = quoF s f i → s.size ≤ i + f → i ≤ s.size → p ≤ Q.size → Q.size + 1 ≤ p + F → Bd p c x →
    ∃ F' c', runS Q F p c = runS Q F' Q.size c' ∧ Bd Q.size c' (x ++ seg s i s.size) ∧ 1 ≤ F' := by
  have hend : ∀ (p F : Nat) (c : Sc) (x : List UInt8), Q.data.toList.drop p = [] → p ≤ Q.size → Q.size + 1 ≤ p + F → Bd p c x → ∃ F' c', runS Q F p c = runS Q F' Q.size c' ∧ Bd Q.size c' (x ++ seg s s.size s.size) ∧ 1 ≤ F' := by
    intro p F c x hq hp hF hb
    have : p = Q.size := by
      have h1 := congrArg List.length hq
      rw [List.length_drop, ← Lib.size_eq] at h1
      simp at h1
      omega
    subst this
    exact ⟨F, c, rfl, by rw [seg_self, List.append_nil]; exact hb, by omega⟩
  intro f
  induction f with
  | zero =>
    intro i p F c x hq hf hi hp hF hb
    have : i = s.size := by omega
    subst this
    exact hend p F c x hq hp hF hb
  | succ f ih =>
    intro i p F c x hq hf hi hp hF hb
    rw [quoF] at hq
    by_cases hlt : i < s.size
    · rw [if_pos hlt] at hq
      obtain ⟨u1, u2, u3⟩ := unitW_bd s i hi
      have u3 := u3 hlt
      obtain ⟨F1, c1, e1, e2, e3⟩ := run_unit hlt hq hp hF (hb.rd Q)
      obtain ⟨F2, c2, e4, e5, e6⟩ := ih (i + unitW s i) (p + (quoU s i).length) F1 c1 _ (drop_more hq) (by omega) (by omega) (drop_len hq hp) e3 e2
      refine ⟨F2, c2, e1.trans e4, ?_, e6⟩
      rw [List.append_assoc, seg_app s i _ _ (by omega) (by omega)] at e5
      exact e5
    · rw [if_neg hlt] at hq
      have : i = s.size := by omega
      subst this
      exact hend p F c x hq hp hF hb
theorem run_end {Q : ByteArray} {F : Nat} {c : Sc} {x : List UInt8} (hF : 1 ≤ F) (hb : Bd Q.size c x) : ∃ l k, runS Q F Q.size c = .ok ⟨0, (l, k, Q.size), (l, k, Q.size), x, c.quote, c.behind, [⟨1, x, (1, 1, 0)⟩]⟩ := by
  obtain ⟨F, rfl⟩ : ∃ f, F = f + 1 := ⟨F - 1, by omega⟩
  obtain ⟨h1, h2⟩ := hb.token Q ((10 : Nat) : Int)
  have hx := (plNext_ix Q c.here Q.size).1
  have hpl : plainS Q { c with here := plNext Q c.here Q.size } ((10 : Nat) : Int) = .left { c with st := 4, here := plNext Q c.here Q.size } := by
    unfold plainS
    rw [if_neg (by decide), if_neg (by decide), if_pos (by decide)]
  have ht : tokenS Q { c with here := plNext Q c.here Q.size } ((10 : Nat) : Int) = .ok ⟨0, plNext Q c.here Q.size, plNext Q c.here Q.size, x, c.quote, c.behind, [⟨1, x, (1, 1, 0)⟩]⟩ := by
    rw [h1]
    unfold textS
    rw [h2, hpl]
    unfold betweenS
    simp only
    rw [if_pos (by decide)]
    unfold addT
    simp only [hb.fr, hb.toks, hb.text, List.nil_append]
  refine ⟨(plNext Q c.here Q.size).1, (plNext Q c.here Q.size).2.1, ?_⟩
  rw [runS_one (by omega) (decode_end Q) ht]
  have hp2 : plNext Q c.here Q.size = ((plNext Q c.here Q.size).1, (plNext Q c.here Q.size).2.1, Q.size) := Prod.ext rfl (Prod.ext rfl hx)
  rw [← hp2]
  cases F with
  | zero => rfl
  | succ f => rw [runS, if_neg (by omega)]

theorem dec_hi_bytes {s : ByteArray} {i : Nat} (h : 128 ≤ (Utf8.decode s i).1) (hne : ¬ ((Utf8.decode s i).1 = 65533 ∧ (Utf8.decode s i).2 = 1)) : ∀ j, j < (Utf8.decode s i).2 → 128 ≤ B s (i + j) := by
  rw [decode_B] at h hne ⊢
  revert h hne
  unfold decodeN
  repeat' split
  all_goals (intro h hne j hj; simp only at h hne hj)
  · omega
  · obtain rfl | rfl : j = 0 ∨ j = 1 := by omega
    · rw [Nat.add_zero]; omega
    · omega
  · exact absurd ⟨trivial, trivial⟩ hne
  · obtain rfl | rfl | rfl : j = 0 ∨ j = 1 ∨ j = 2 := by omega
    · rw [Nat.add_zero]; omega
    · omega
    · omega
  · exact absurd ⟨trivial, trivial⟩ hne
  · obtain rfl | rfl | rfl | rfl : j = 0 ∨ j = 1 ∨ j = 2 ∨ j = 3 := by omega
    · rw [Nat.add_zero]; omega
    · omega
    · omega
    · omega
  · exact absurd ⟨trivial, trivial⟩ hne
  · exact absurd ⟨trivial, trivial⟩ hne
theorem quoU_no10 {s : ByteArray} {i : Nat} (hi : i < s.size) : ∀ b ∈ quoU s i, b ≠ 10 := by
  have hx : ∀ n, n < 256 → ∀ b ∈ hexL n, b ≠ 10 := by decide +kernel
  have hw := unitW_dec hi
  obtain ⟨d1, d2, d3⟩ := dec_width s i hi
  have hdP : (decP s (i : Nat)).1 = ((Utf8.decode s i).1 : Int) := by rw [decP_in s i hi]
  have hU : quoU s i = escV (seg s i (i + unitW s i)) ((Utf8.decode s i).1 : Nat) := by unfold quoU; rw [hdP]; rfl
  have hln : (seg s i (i + unitW s i)).length = unitW s i := by rw [seg_len s i _ (by omega) (by omega)]; omega
  rw [hU]
  unfold escV
  split
  · intro b hb
    simp only [List.cons_append, List.nil_append, List.mem_cons] at hb
    rcases hb with rfl | rfl | hb
    · decide
    · decide
    · exact hx _ (UInt8.toNat_lt _) b hb
  · rename_i h1
    split
    · intro b hb
      simp only [List.cons_append, List.nil_append, List.mem_cons, List.mem_append, List.not_mem_nil, or_false] at hb
      rcases hb with rfl | rfl | rfl | hb | rfl
      · decide
      · decide
      · decide
      · exact hx _ (by omega) b hb
      · decide
    · rename_i h2
      have hne : ¬ ((Utf8.decode s i).1 = 65533 ∧ (Utf8.decode s i).2 = 1) := fun h => h1 ⟨by omega, by omega⟩
      have hs : ∀ b ∈ seg s i (i + unitW s i), b ≠ 10 := by
        intro b hb
        rw [seg_range s i _ (by omega)] at hb
        obtain ⟨j, hj, rfl⟩ := List.mem_map.1 hb
        rw [List.mem_range] at hj
        have hBlt := B_lt s (i + j)
        intro h10
        have h10' : B s (i + j) = 10 := by
          have := congrArg UInt8.toNat h10
          simpa [Nat.mod_eq_of_lt hBlt] using this
        by_cases hlo : (Utf8.decode s i).1 < 128
        · obtain ⟨q1, q2⟩ := dec_r_lo hlo
          obtain rfl : j = 0 := by omega
          rw [Nat.add_zero] at h10'
          omega
        · have := dec_hi_bytes (by omega) hne j (by omega)
          omega
      split
      · intro b hb
        simp only [List.cons_append, List.nil_append, List.mem_cons] at hb
        rcases hb with rfl | hb
        · decide
        · exact hs b hb
      · exact hs
theorem quoF_no10 (s : ByteArray) : ∀ (f i : Nat), ∀ b ∈ quoF s f i, b ≠ 10 := by
  intro f
  induction f with
  | zero => intro i b hb; simp [quoF] at hb
  | succ f ih =>
    intro i b hb
    rw [quoF] at hb
    split at hb
    · rename_i h
      rcases List.mem_append.1 hb with hb | hb
      · exact quoU_no10 h b hb
      · exact ih _ b hb
    · simp at hb
theorem nlN_none {Q : ByteArray} (h : ∀ b ∈ Q.data.toList, b ≠ 10) : nlN Q = 0 := by
  unfold nlN
  have h1 : ∀ b ∈ Lib.trimSuffix Q.data.toList [10], b ≠ 10 := by
    intro b hb
    unfold Lib.trimSuffix at hb
    split at hb
    · exact h b (List.mem_of_mem_take hb)
    · exact h b hb
  generalize Lib.trimSuffix Q.data.toList [10] = l at h1
  induction l with
  | nil => rfl
  | cons a l ih =>
    have h2 := h1 a (by simp)
    have h3 := ih (fun b hb => h1 b (by simp [hb]))
    unfold Lib.countByte at h3 ⊢
    simp_all
/-- Scan of a text that is quoted. -/
theorem scan_quo (s : ByteArray) (hz : (quoV s).length ≤ 1048576) : ∃ l k, scanS ⟨(quoV s).toArray⟩ = .ok [⟨1, s.data.toList, (1, 1, 0)⟩, ⟨0, [], (l, k, (quoV s).length)⟩] := by
  by_cases h0 : s.size = 0
  · have hq : quoV s = [39, 39] := by unfold quoV; rw [if_pos h0]
    have hs : s.data.toList = [] := by apply List.eq_nil_of_length_eq_zero; rw [← Lib.size_eq]; exact h0
    rw [hq, hs]
    exact ⟨1, 3, by kernel_rfl⟩
  · have hq : quoV s = quoF s s.size 0 := by unfold quoV; rw [if_neg h0]
    obtain ⟨Q, hQ⟩ : ∃ Q : ByteArray, Q = ⟨(quoV s).toArray⟩ := ⟨_, rfl⟩
    have hQl : Q.data.toList = quoF s s.size 0 := by rw [hQ]; simp [hq]
    have hQz : Q.size = (quoV s).length := by rw [Lib.size_eq, hQl, hq]
    rw [← hQ]
    obtain ⟨n, hn⟩ : ∃ n, s.size = n + 1 := ⟨s.size - 1, by omega⟩
    have hqu : quoF s s.size 0 = quoU s 0 ++ quoF s n (0 + unitW s 0) := by rw [hn, quoF, if_pos (by omega)]
    obtain ⟨u1, u2, u3⟩ := unitW_bd s 0 (by omega)
    have u3 := u3 (by omega)
    have hd0 : Q.data.toList.drop 0 = quoU s 0 ++ quoF s n (0 + unitW s 0) := by rw [List.drop_zero, hQl, hqu]
    obtain ⟨F1, c1, e1, e2, e3⟩ := run_unit (F := Q.size + 1) (by omega) hd0 (by omega) (by omega) (rd_first Q)
    obtain ⟨F2, c2, e4, e5, e6⟩ := run_quo s Q n (0 + unitW s 0) (0 + (quoU s 0).length) F1 c1 _ (drop_more hd0) (by omega) (by omega) (drop_len hd0 (by omega)) e3 e2
    rw [List.nil_append, seg_app s 0 _ _ (by omega) (by omega), seg_all] at e5
    obtain ⟨l, k, e7⟩ := run_end e6 e5
    refine ⟨l, k, ?_⟩
    have hn10 : nlN Q = 0 := nlN_none (by rw [hQl]; exact quoF_no10 s _ _)
    unfold scanS
    rw [if_neg (by omega), if_neg (by omega), e1, e4, e7]
    simp only [endS]
    rw [if_neg (by decide), if_neg (by decide), hQz]
    rfl
end Go.Proofs.YtlfdpdlhppgakaaGreatDoor
/- The places of the scanner's tokens. No run in this text. -/
namespace Go.Proofs.YtlfdpdlhppgakaaGreatDoor
open Go Go.RowKit Go.Kt Go.Kt.Rg Go.Shelf Go.Lib

/-- The place of the n-th unit: line, column, byte. -/
def plN (s : ByteArray) : Nat → Pl
  | 0 => (1, 1, 0)
  | n + 1 => let p := plN s n; if p.2.2 < s.size then (if (Utf8.decode s p.2.2).1 = 10 then (p.1 + 1, 1, p.2.2 + (Utf8.decode s p.2.2).2) else (p.1, p.2.1 + 1, p.2.2 + (Utf8.decode s p.2.2).2)) else p
theorem plN_at (s : ByteArray) (n : Nat) : (plN s (n + 1)).2.2 = if (plN s n).2.2 < s.size then (plN s n).2.2 + (Utf8.decode s (plN s n).2.2).2 else (plN s n).2.2 := by
  rw [plN]
  split
  · split <;> rfl
  · rfl
theorem plN_le (s : ByteArray) : ∀ n, (plN s n).2.2 ≤ s.size
  | 0 => Nat.zero_le _
  | n + 1 => by
    rw [plN_at]
    split
    · rename_i h
      exact (dec_width s _ h).2.2
    · exact plN_le s n
theorem plN_up (s : ByteArray) (n : Nat) : (plN s n).2.2 ≤ (plN s (n + 1)).2.2 := by rw [plN_at]; split <;> omega
theorem plN_mono (s : ByteArray) (n : Nat) : ∀ k, (plN s n).2.2 ≤ (plN s (n + k)).2.2
  | 0 => Nat.le_refl _
  | k + 1 => Nat.le_trans (plN_mono s n k) (plN_up s (n + k))
theorem plN_stuck (s : ByteArray) (n : Nat) (h : ¬ (plN s n).2.2 < s.size) : ∀ k, plN s (n + k) = plN s n
  | 0 => rfl
  | k + 1 => by
    have ih := plN_stuck s n h k
    show plN s (n + k + 1) = _
    rw [plN]
    rw [ih, if_neg h]
theorem plN_lt (s : ByteArray) {n m : Nat} (h : (plN s n).2.2 < (plN s m).2.2) : n < m := by
  by_cases hnm : n < m
  · exact hnm
  · have := plN_mono s m (n - m)
    rw [show m + (n - m) = n by omega] at this
    omega
theorem plN_next (s : ByteArray) {n m : Nat} (h : (plN s n).2.2 < (plN s m).2.2) : (plN s n).2.2 + (Utf8.decode s (plN s n).2.2).2 ≤ (plN s m).2.2 := by
  have h1 := plN_lt s h
  have h2 := plN_mono s (n + 1) (m - (n + 1))
  rw [show n + 1 + (m - (n + 1)) = m by omega, plN_at, if_pos (by have := plN_le s m; omega)] at h2
  exact h2
/-- One byte, one place. -/
theorem plN_one (s : ByteArray) {n m : Nat} (h : (plN s n).2.2 = (plN s m).2.2) : plN s n = plN s m := by
  have key : ∀ {n m : Nat}, n < m → (plN s n).2.2 = (plN s m).2.2 → plN s n = plN s m := by
    intro n m hnm h
    by_cases hlt : (plN s n).2.2 < s.size
    · exfalso
      have h2 := plN_mono s (n + 1) (m - (n + 1))
      rw [show n + 1 + (m - (n + 1)) = m by omega, plN_at, if_pos hlt] at h2
      have := (dec_width s _ hlt).1
      omega
    · have := plN_stuck s n hlt (m - n)
      rw [show n + (m - n) = m by omega] at this
      exact this.symm
  rcases Nat.lt_trichotomy n m with h1 | h1 | h1
  · exact key h1 h
  · rw [h1]
  · exact (key h1 h.symm).symm

theorem dec_last {s : ByteArray} {i : Nat} (hi : i < s.size) : B s (i + (Utf8.decode s i).2 - 1) = 10 ↔ (Utf8.decode s i).1 = 10 := by
  obtain ⟨d1, d2, d3⟩ := dec_width s i hi
  by_cases hlo : (Utf8.decode s i).1 < 128
  · obtain ⟨q1, q2⟩ := dec_r_lo hlo
    rw [q2, Nat.add_sub_cancel, q1]
  · by_cases hne : (Utf8.decode s i).1 = 65533 ∧ (Utf8.decode s i).2 = 1
    · rw [hne.2, Nat.add_sub_cancel, hne.1]
      constructor
      · intro h
        have := dec_lo s i (by omega)
        rw [this] at hlo
        simp only at hlo
        omega
      · intro h; omega
    · have h1 := dec_hi_bytes (by omega) hne ((Utf8.decode s i).2 - 1) (by omega)
      rw [show i + (Utf8.decode s i).2 - 1 = i + ((Utf8.decode s i).2 - 1) by omega]
      omega
theorem plNext_plN (s : ByteArray) (n : Nat) (h : (plN s n).2.2 < s.size) : plNext s (plN s n) ((plN s n).2.2 + (Utf8.decode s (plN s n).2.2).2) = plN s (n + 1) := by
  have hd := dec_last h
  have hw := (dec_width s _ h).1
  unfold plNext
  rw [plN]
  rw [if_pos h]
  by_cases h10 : (Utf8.decode s (plN s n).2.2).1 = 10
  · rw [if_pos ⟨by omega, hd.2 h10⟩, if_pos h10]
  · rw [if_neg (fun hh => h10 (hd.1 hh.2)), if_neg h10]

theorem plN_col (s : ByteArray) : ∀ n, (plN s n).2.1 ≤ (plN s n).2.2 + 1
  | 0 => Nat.le_refl _
  | n + 1 => by
    have ih := plN_col s n
    rw [plN_at, plN]
    by_cases h : (plN s n).2.2 < s.size
    · have hw := (dec_width s _ h).1
      rw [if_pos h, if_pos h]
      split
      · simp only; omega
      · simp only; omega
    · rw [if_neg h, if_neg h]; exact ih
theorem plN_step (s : ByteArray) {n l c p : Nat} (h : plN s n = (l, c, p)) (hp : p < s.size) : plN s (n + 1) = if (Utf8.decode s p).1 = 10 then (l + 1, 1, p + (Utf8.decode s p).2) else (l, c + 1, p + (Utf8.decode s p).2) := by
  rw [plN, h]
  simp only
  rw [if_pos hp]
/-- How many line ends a text has up to a byte. -/
def nlc (s : ByteArray) (i : Nat) : Nat := (s.data.toList.take i).count 10
theorem nlc_succ (s : ByteArray) (i : Nat) (h : i < s.size) : nlc s (i + 1) = nlc s i + if B s i = 10 then 1 else 0 := by
  have hl : i < s.data.toList.length := by rw [← Lib.size_eq]; exact h
  unfold nlc B
  rw [List.take_add_one, List.count_append, List.getElem?_eq_getElem hl, List.getD_eq_getElem?_getD, List.getElem?_eq_getElem hl]
  simp only [Option.toList_some, Option.getD_some, List.count_singleton]
  congr 1
  have : (s.data.toList[i] == 10) = decide ((s.data.toList[i]).toNat = 10) := by
    rw [Bool.eq_iff_iff]
    simp only [beq_iff_eq, decide_eq_true_iff]
    constructor
    · intro e; rw [e]; rfl
    · intro e; exact UInt8.toNat_inj.1 e
  rw [this]
  simp
theorem nlc_unit (s : ByteArray) (i : Nat) (h : i < s.size) : nlc s (i + (Utf8.decode s i).2) = nlc s i + if (Utf8.decode s i).1 = 10 then 1 else 0 := by
  obtain ⟨d1, d2, d3⟩ := dec_width s i h
  by_cases hw : (Utf8.decode s i).2 = 1
  · have hd := dec_last h
    rw [hw, Nat.add_sub_cancel] at hd
    rw [hw, nlc_succ s i h]
    by_cases h10 : (Utf8.decode s i).1 = 10
    · rw [if_pos h10, if_pos (hd.2 h10)]
    · rw [if_neg h10, if_neg (fun hh => h10 (hd.1 hh))]
  · have hlo : ¬ (Utf8.decode s i).1 < 128 := fun hlo => hw (dec_r_lo hlo).2
    have hb := dec_hi_bytes (by omega) (fun hh => hw hh.2)
    rw [if_neg (by omega)]
    have key : ∀ k, k ≤ (Utf8.decode s i).2 → nlc s (i + k) = nlc s i := by
      intro k
      induction k with
      | zero => intro _; rfl
      | succ k ih =>
        intro hk
        rw [← Nat.add_assoc, nlc_succ s (i + k) (by omega), ih (by omega), if_neg (by have := hb k (by omega); omega), Nat.add_zero]
    exact key _ (Nat.le_refl _)
theorem plN_line (s : ByteArray) : ∀ n, (plN s n).1 = nlc s (plN s n).2.2 + 1
  | 0 => by simp [plN, nlc]
  | n + 1 => by
    have ih := plN_line s n
    rw [plN_at, plN]
    by_cases h : (plN s n).2.2 < s.size
    · rw [if_pos h, if_pos h, nlc_unit s _ h]
      by_cases h10 : (Utf8.decode s (plN s n).2.2).1 = 10
      · rw [if_pos h10, if_pos h10]; simp only; omega
      · rw [if_neg h10, if_neg h10]; simp only; omega
    · rw [if_neg h, if_neg h]; exact ih

/-- The tokens stand behind one another, each at a place. -/
structure TokOk (s : ByteArray) (l : List Tk) : Prop where
  up : l.Pairwise fun a b => a.pl.2.2 < b.pl.2.2
  pl : ∀ t ∈ l, ∃ n, plN s n = t.pl
  sg : ∀ t ∈ l, t.kind = 2 → t.pl.2.2 + t.text.length ≤ s.size ∧ seg s t.pl.2.2 (t.pl.2.2 + t.text.length) = t.text
theorem TokOk.snoc {s : ByteArray} {l : List Tk} {t : Tk} (h : TokOk s l) (h1 : ∀ a ∈ l, a.pl.2.2 < t.pl.2.2) (h2 : ∃ n, plN s n = t.pl) (h3 : t.kind = 2 → t.pl.2.2 + t.text.length ≤ s.size ∧ seg s t.pl.2.2 (t.pl.2.2 + t.text.length) = t.text) : TokOk s (l ++ [t]) := by
  refine ⟨?_, ?_, ?_⟩
  · rw [List.pairwise_append]
    exact ⟨h.up, List.pairwise_singleton _ _, fun a ha b hb => by rw [List.mem_singleton] at hb; subst hb; exact h1 a ha⟩
  · intro a ha
    rcases List.mem_append.1 ha with ha | ha
    · exact h.pl a ha
    · rw [List.mem_singleton] at ha; subst ha; exact h2
  · intro a ha
    rcases List.mem_append.1 ha with ha | ha
    · exact h.sg a ha
    · rw [List.mem_singleton] at ha; subst ha; exact h3
/-- Ahead of a unit. -/
structure JS (s : ByteArray) (c : Sc) : Prop where
  here : ∃ n, plN s n = c.here
  fr : c.st ≠ 0 → ∃ n, plN s n = c.from
  lt : c.st ≠ 0 → c.from.2.2 < c.here.2.2
  tl : c.st ≠ 0 → ∀ t ∈ c.toks, t.pl.2.2 < c.from.2.2
  t0 : ∀ t ∈ c.toks, t.pl.2.2 < c.here.2.2
  bh : c.behind ≤ s.size
  ok : TokOk s c.toks
/-- Behind a unit. -/
structure KS (s : ByteArray) (h0 : Pl) (c : Sc) : Prop where
  here : c.here = h0
  fr : c.st ≠ 0 → ∃ n, plN s n = c.from
  le : c.st ≠ 0 → c.from.2.2 ≤ c.here.2.2
  tl : c.st ≠ 0 → ∀ t ∈ c.toks, t.pl.2.2 < c.from.2.2
  t0 : ∀ t ∈ c.toks, t.pl.2.2 ≤ c.here.2.2
  tz : c.from.2.2 = c.here.2.2 → ∀ t ∈ c.toks, t.pl.2.2 < c.here.2.2
  bh : c.behind ≤ s.size
  ok : TokOk s c.toks
theorem unesc_le {s : ByteArray} {t : List UInt8} {k : Nat} (h1 : 1 ≤ s.size) (h : unescV s = some (t, k)) : k ≤ s.size := by
  obtain ⟨b1, b2, b3⟩ := unitW_bd s 1 h1
  have hl : s.data.toList.length = s.size := (Lib.size_eq s).symm
  unfold unescV at h
  split at h
  · cases h
  · split at h
    · unfold chrV at h
      cases ho : puV 16777215 (upB (rst s.data.toList)) with
      | none => rw [ho] at h; cases h
      | some n =>
        rw [ho] at h
        unfold chrO at h
        simp only at h
        split at h
        · rename_i hc
          injection h with h
          injection h with h2 h3
          simp only [Bool.and_eq_true] at hc
          obtain ⟨⟨⟨ho, hk⟩, _⟩, _⟩ := hc
          have hr : rst s.data.toList = s.data.toList.drop 3 := by unfold rst; rw [if_pos ho]
          have hup : (upB (rst s.data.toList)).length < (rst s.data.toList).length := by
            generalize rst s.data.toList = l at hk
            unfold upB
            induction l with
            | nil => simp at hk
            | cons a l ih =>
              rw [List.takeWhile_cons]
              split
              · rename_i ha
                have : a ≠ 125 := by simpa using ha
                have hk2 : l.contains 125 = true := by
                  rw [List.contains_cons] at hk
                  rcases Bool.or_eq_true _ _ ▸ hk with h | h
                  · exact absurd (beq_iff_eq.1 h).symm this
                  · exact h
                have := ih hk2
                simp only [List.length_cons]; omega
              · simp
          have hrl : (rst s.data.toList).length ≤ s.size - 3 := by rw [hr, List.length_drop]; omega
          omega
        · cases h
    · split at h
      · unfold illV at h
        split at h
        · cases h
        · split at h
          · split at h
            · cases h
            · injection h with h
              injection h with h2 h3
              omega
          · cases h
      · injection h with h
        injection h with h2 h3
        omega
section
variable {s : ByteArray} {c c' : Sc} {r : Int}
theorem plainS_K (h92 : r = 92 → c.here.2.2 < s.size) (hi : c.here.2.2 ≤ s.size) (hb : c.behind ≤ s.size) (h : plainS s c r = .took c') : c'.behind ≤ s.size ∧ c'.st ≠ 0 := by
  unfold plainS at h
  split at h
  · cases h; exact ⟨hb, by simp⟩
  · split at h
    · rename_i h92'
      split at h
      · cases h
      · rename_i t k hu
        cases h
        have hz : (s.extract c.here.2.2 s.size).size = s.size - c.here.2.2 := by rw [ByteArray.size_extract]; omega
        have := unesc_le (by have := h92 h92'; omega) hu
        have := h92 h92'
        exact ⟨by simp only; omega, by simp⟩
    · split at h
      · cases h
      · split at h
        · cases h
        · cases h; exact ⟨hb, by simp⟩
theorem pieceS_K (h92 : r = 92 → c.here.2.2 < s.size) (hi : c.here.2.2 ≤ s.size) (hb : c.behind ≤ s.size) (h : pieceS s c r = .took c') : c'.behind ≤ s.size ∧ c'.st ≠ 0 := by
  unfold pieceS at h
  split at h
  · rename_i h5
    unfold quotedS at h
    split at h
    · cases h; exact ⟨hb, by simp⟩
    · cases h; exact ⟨hb, by simp [h5]⟩
  · split at h
    · unfold closingS at h
      split at h
      · cases h; exact ⟨hb, by simp⟩
      · exact plainS_K h92 hi hb h
    · split at h
      · rename_i h7
        unfold escapeS at h
        split at h
        · exact plainS_K h92 hi hb h
        · cases h; exact ⟨hb, by simp [h7]⟩
      · exact plainS_K h92 hi hb h
theorem betweenS_K (hp : ∃ n, plN s n = c.here) (t0 : ∀ t ∈ c.toks, t.pl.2.2 < c.here.2.2) (bh : c.behind ≤ s.size) (ok : TokOk s c.toks) (h92 : r = 92 → c.here.2.2 < s.size) (hi : c.here.2.2 ≤ s.size) (h : betweenS s c r = .ok c') : KS s c.here c' := by
  obtain ⟨a1, a2, a3, _⟩ := betweenS_ok h92 hi h
  have hbh : c'.behind ≤ s.size := by
    unfold betweenS at h
    repeat' split at h
    all_goals first | (cases h; done) | (cases h; exact bh) | skip
    cases hpl : plainS s { c with st := 4, «from» := c.here, text := [] } r with
    | took c2 =>
      rw [hpl] at h
      cases h
      exact (plainS_K (c := { c with st := 4, «from» := c.here, text := [] }) h92 hi bh hpl).1
    | left c2 =>
      rw [hpl] at h
      cases h
      have hl : pieceS s { c with st := 4, «from» := c.here, text := [] } r = plainS s { c with st := 4, «from» := c.here, text := [] } r := by simp [pieceS]
      have := pieceS_left (hl.trans hpl)
      subst this
      exact bh
    | bad no p => rw [hpl] at h; cases h
  exact ⟨a1, fun _ => by rw [a2]; exact hp, fun _ => by rw [a1, a2]; exact Nat.le_refl _, fun _ t ht => by rw [a2]; rw [a3] at ht; exact t0 t ht, fun t ht => by rw [a1]; rw [a3] at ht; exact Nat.le_of_lt (t0 t ht), fun _ t ht => by rw [a1]; rw [a3] at ht; exact t0 t ht, hbh, by rw [a3]; exact ok⟩
theorem tokenS_K (hj : JS s c) (h92 : r = 92 → c.here.2.2 < s.size) (hi : c.here.2.2 ≤ s.size) (h : tokenS s c r = .ok c') : KS s c.here c' := by
  unfold tokenS at h
  split at h
  · exact betweenS_K hj.here hj.t0 hj.bh hj.ok h92 hi h
  rename_i n0
  have hfr := hj.fr n0
  have hlt := hj.lt n0
  have htl := hj.tl n0
  have hle : ∀ t ∈ c.toks, t.pl.2.2 ≤ c.here.2.2 := fun t ht => Nat.le_of_lt (hj.t0 t ht)
  have hadd : ∀ k x, (k = 2 → c.from.2.2 + x.length ≤ s.size ∧ seg s c.from.2.2 (c.from.2.2 + x.length) = x) → TokOk s (c.toks ++ [⟨k, x, c.from⟩]) := fun k x hk => hj.ok.snoc htl hfr hk
  have hall : ∀ k x, ∀ t ∈ c.toks ++ [(⟨k, x, c.from⟩ : Tk)], t.pl.2.2 < c.here.2.2 := fun k x t ht => by
    rcases List.mem_append.1 ht with ht | ht
    · exact hj.t0 t ht
    · rw [List.mem_singleton] at ht; subst ht; exact hlt
  split at h
  · unfold remarkS at h
    split at h
    · exact betweenS_K (c := { c with st := 1 }) hj.here hj.t0 hj.bh hj.ok h92 hi h
    · cases h; exact ⟨rfl, fun _ => hfr, fun _ => Nat.le_of_lt hlt, fun _ => htl, hle, fun h => absurd h (Nat.ne_of_lt hlt), hj.bh, hj.ok⟩
  split at h
  · unfold signS at h
    split at h
    · cases h; exact ⟨rfl, fun _ => hfr, fun _ => Nat.le_of_lt hlt, fun _ => htl, hle, fun h => absurd h (Nat.ne_of_lt hlt), hj.bh, hj.ok⟩
    · have hsl : (sinceL s c).length = c.here.2.2 - c.from.2.2 := seg_len s _ _ (Nat.le_of_lt hlt) hi
      have ha := hadd 2 (sinceL s c) (fun _ => by
        have e : c.from.2.2 + (sinceL s c).length = c.here.2.2 := by omega
        rw [e]
        exact ⟨hi, rfl⟩)
      exact betweenS_K (c := addT { c with st := 2 } 2 (sinceL s c)) hj.here (hall 2 _) hj.bh ha h92 hi h
  split at h
  · unfold optionS at h
    split at h
    · cases h
      refine ⟨rfl, fun hh => absurd rfl hh, fun hh => absurd rfl hh, fun hh => absurd rfl hh, fun t ht => Nat.le_of_lt (hall 3 _ t ht), fun h => absurd h (Nat.ne_of_lt hlt), hj.bh, hadd 3 _ (fun hk => by cases hk)⟩
    · cases h; exact ⟨rfl, fun _ => hfr, fun _ => Nat.le_of_lt hlt, fun _ => htl, hle, fun h => absurd h (Nat.ne_of_lt hlt), hj.bh, hj.ok⟩
  · unfold textS at h
    cases hp : pieceS s c r with
    | took c2 =>
      rw [hp] at h
      cases h
      obtain ⟨a1, a2, a3, _⟩ := pieceS_ok h92 hi hp
      obtain ⟨b1, b2⟩ := pieceS_K h92 hi hj.bh hp
      exact ⟨a1, fun _ => by rw [a2]; exact hfr, fun _ => by rw [a1, a2]; exact Nat.le_of_lt hlt, fun _ t ht => by rw [a2]; rw [a3] at ht; exact htl t ht, fun t ht => by rw [a1]; rw [a3] at ht; exact hle t ht, fun h => by rw [a1, a2] at h; exact absurd h (Nat.ne_of_lt hlt), b1, by rw [a3]; exact hj.ok⟩
    | bad no p => rw [hp] at h; cases h
    | left c2 =>
      rw [hp] at h
      have := pieceS_left hp
      subst this
      exact betweenS_K (c := addT { c with st := 4 } 1 c.text) hj.here (hall 1 _) hj.bh (hadd 1 _ (fun hk => by cases hk)) h92 hi h
theorem between_10 (h : betweenS s c 10 = .ok c') : c'.st = 0 ∧ c'.from = c.here := by
  unfold betweenS at h
  rw [if_pos (by decide)] at h
  cases h
  exact ⟨rfl, rfl⟩
theorem plain_10 : plainS s c 10 = .left { c with st := 4 } := by
  unfold plainS
  rw [if_neg (by decide), if_neg (by decide), if_pos (by decide)]
theorem piece_10 (hb : c.behind ≤ c.here.2.2) : pieceS s c 10 = .left { c with st := 4 } ∨ ∃ c2, pieceS s c 10 = .took c2 ∧ c2.st = 5 := by
  unfold pieceS
  by_cases h5 : c.st = 5
  · rw [if_pos h5]
    unfold quotedS
    rw [if_neg (by decide)]
    exact .inr ⟨_, rfl, h5⟩
  rw [if_neg h5]
  by_cases h6 : c.st = 6
  · rw [if_pos h6]
    unfold closingS
    rw [if_neg (by decide)]
    exact .inl plain_10
  rw [if_neg h6]
  by_cases h7 : c.st = 7
  · rw [if_pos h7]
    unfold escapeS
    rw [if_pos hb]
    exact .inl plain_10
  rw [if_neg h7]
  exact .inl plain_10
theorem tokenS_end (hb : c.behind ≤ c.here.2.2) (h : tokenS s c 10 = .ok c') : c'.st = 3 ∨ c'.st = 5 ∨ c'.st = 0 ∧ c'.from = c.here := by
  unfold tokenS at h
  split at h
  · exact .inr (.inr (between_10 h))
  split at h
  · unfold remarkS at h
    rw [if_pos rfl] at h
    have := between_10 h
    exact .inr (.inr this)
  split at h
  · unfold signS at h
    have hn : isSgn (sinceL s c ++ encL 10) = false := by
      have he : encL 10 = [10] := by decide
      rw [he]
      have hall : ∀ l ∈ sgnL, l.getLast? ≠ some 10 := by decide
      unfold isSgn
      have hne : sinceL s c ++ [10] ∉ sgnL := fun hm => hall _ hm (by simp)
      simpa using hne
    rw [if_neg (by rw [hn]; decide)] at h
    have := between_10 h
    exact .inr (.inr this)
  split at h
  · unfold optionS at h
    rw [if_neg (by decide)] at h
    cases h
    exact .inl rfl
  · unfold textS at h
    rcases piece_10 (s := s) hb with e | ⟨c2, e, h5⟩
    · rw [e] at h
      have := between_10 h
      exact .inr (.inr this)
    · rw [e] at h
      cases h
      exact .inr (.inl h5)
end
/-- The scanner's run: its tokens are at their places. -/
theorem runS_K (s : ByteArray) (cF : Sc) : ∀ (f i : Nat) (c : Sc), (i = 0 ∧ c = c0S ∨ KS s c.here c ∧ (∃ n, plN s n = c.here) ∧ c.here.2.2 < s.size ∧ i = c.here.2.2 + (Utf8.decode s c.here.2.2).2) → s.size + 1 ≤ i + f → runS s f i c = .ok cF →
    cF.st = 3 ∨ cF.st = 5 ∨ cF.st = 0 ∧ TokOk s cF.toks ∧ (∃ n, plN s n = cF.from) ∧ cF.from.2.2 = s.size ∧ ∀ t ∈ cF.toks, t.pl.2.2 < s.size := by
  intro f
  induction f with
  | zero =>
    intro i c hc hf
    exfalso
    rcases hc with ⟨rfl, _⟩ | ⟨_, _, h3, h4⟩
    · omega
    · have := (dec_width s _ h3).2.2; omega
  | succ f ih =>
    intro i c hc hf hrun
    have hiz : i ≤ s.size := by
      rcases hc with ⟨rfl, _⟩ | ⟨_, _, h3, h4⟩
      · exact Nat.zero_le _
      · have := (dec_width s _ h3).2.2; omega
    have hx := (plNext_ix s c.here i).1
    have hj : JS s { c with here := plNext s c.here i } := by
      rcases hc with ⟨rfl, rfl⟩ | ⟨hk, ⟨n, hn⟩, h3, h4⟩
      · exact ⟨⟨0, rfl⟩, fun h => absurd rfl h, fun h => absurd rfl h, fun h => absurd rfl h, fun t ht => by simp [c0S] at ht, Nat.zero_le _, ⟨List.Pairwise.nil, fun t ht => by simp [c0S] at ht, fun t ht => by simp [c0S] at ht⟩⟩
      · have hw := (dec_width s _ h3).1
        have hpl : plNext s c.here i = plN s (n + 1) := by
          rw [← hn] at h3 h4 ⊢
          rw [h4]
          exact plNext_plN s n h3
        exact ⟨⟨n + 1, hpl.symm⟩, hk.fr, fun h0 => by have := hk.le h0; simp only [hx]; omega, hk.tl, fun t ht => by have := hk.t0 t ht; simp only [hx]; omega, hk.bh, hk.ok⟩
    rw [runS, if_pos (by omega)] at hrun
    by_cases hlt : i < s.size
    · rw [decode_nl s i hlt] at hrun
      cases ht : tokenS s { c with here := plNext s c.here i } ((Utf8.decode s i).1 : Nat) with
      | bad no p => rw [ht] at hrun; cases hrun
      | ok c2 =>
        rw [ht] at hrun
        have hk := tokenS_K hj (fun _ => by simp only [hx]; exact hlt) (by simp only [hx]; omega) ht
        have hh : c2.here = plNext s c.here i := hk.here
        have hw := (dec_width s i hlt).1
        refine ih (i + (Utf8.decode s i).2) c2 (.inr ⟨by rw [hh]; exact hk, by rw [hh]; exact hj.here, by rw [hh, hx]; exact hlt, by rw [hh, hx]⟩) (by omega) hrun
    · have hie : i = s.size := by omega
      subst hie
      rw [decode_end] at hrun
      cases ht : tokenS s { c with here := plNext s c.here s.size } ((10 : Nat) : Int) with
      | bad no p => rw [ht] at hrun; cases hrun
      | ok c2 =>
        rw [ht] at hrun
        have he : runS s f (s.size + 1) c2 = .ok c2 := by
          cases f with
          | zero => rfl
          | succ f => rw [runS, if_neg (by omega)]
        have hcF : c2 = cF := by
          have h2 : runS s f (s.size + 1) c2 = .ok cF := hrun
          rw [he] at h2
          exact TR.ok.inj h2
        subst hcF
        have hk := tokenS_K hj (fun h => by exact absurd h (by decide)) (by simp only [hx]; omega) ht
        rcases tokenS_end (c := { c with here := plNext s c.here s.size }) (by simp only [hx]; exact hj.bh) ht with h | h | ⟨h1, h2⟩
        · exact .inl h
        · exact .inr (.inl h)
        · refine .inr (.inr ⟨h1, hk.ok, by rw [h2]; exact hj.here, by rw [h2]; exact hx, fun t htm => ?_⟩)
          have h3 : c2.here = plNext s c.here s.size := hk.here
          have h4 := hk.tz (by rw [h2, h3]) t htm
          rw [h3, hx] at h4
          exact h4
/-- The tokens of a file that is taken. -/
theorem scan_places (s : ByteArray) {l : List Tk} (h : scanS s = .ok l) : TokOk s l ∧ ∃ l0 p, l = l0 ++ [⟨0, [], p⟩] ∧ p.2.2 = s.size := by
  unfold scanS at h
  split at h
  · cases h
  split at h
  · cases h
  cases hr : runS s (s.size + 1) 0 c0S with
  | bad no p => rw [hr] at h; cases h
  | ok c =>
    rw [hr] at h
    simp only [endS] at h
    rcases runS_K s c (s.size + 1) 0 c0S (.inl ⟨rfl, rfl⟩) (by omega) hr with h3 | h5 | ⟨h0, hok, hpl, hz, hlt⟩
    · rw [if_pos h3] at h; cases h
    · rw [if_neg (by omega), if_pos h5] at h; cases h
    · rw [if_neg (by omega), if_neg (by omega)] at h
      cases h
      exact ⟨hok.snoc (fun a ha => by rw [hz]; exact hlt a ha) hpl (fun hk => by cases hk), c.toks, c.from, rfl, hz⟩
end Go.Proofs.YtlfdpdlhppgakaaGreatDoor
/- Two files with the same rest: what the scanner sees of it. No run in this text. -/
namespace Go.Proofs.YtlfdpdlhppgakaaGreatDoor
open Go Go.RowKit Go.Kt Go.Kt.Rg Go.Shelf Go.Lib

section
variable {F G : ByteArray} {p q : Nat}
theorem same_size (h : F.data.toList.drop p = G.data.toList.drop q) : F.size - p = G.size - q := by
  have h1 := congrArg List.length h
  rw [List.length_drop, List.length_drop, ← Lib.size_eq, ← Lib.size_eq] at h1
  exact h1
theorem same_B (h : F.data.toList.drop p = G.data.toList.drop q) (j : Nat) : B F (p + j) = B G (q + j) := by
  unfold B
  rw [List.getD_eq_getElem?_getD, List.getD_eq_getElem?_getD, ← List.getElem?_drop, ← List.getElem?_drop, h]
theorem same_more (h : F.data.toList.drop p = G.data.toList.drop q) (j : Nat) : F.data.toList.drop (p + j) = G.data.toList.drop (q + j) := by
  rw [← List.drop_drop, ← List.drop_drop, h]
theorem same_dec (h : F.data.toList.drop p = G.data.toList.drop q) : Utf8.decode F p = Utf8.decode G q := by
  have h0 := same_B h 0
  rw [Nat.add_zero, Nat.add_zero] at h0
  rw [decode_B, decode_B, same_size h, h0, same_B h 1, same_B h 2, same_B h 3]
theorem same_nl (h : F.data.toList.drop p = G.data.toList.drop q) (hp : p ≤ F.size) (hq : q ≤ G.size) : (F ++ nlB).data.toList.drop p = (G ++ nlB).data.toList.drop q := by
  rw [nl_list, nl_list, List.drop_append_of_le_length (by rw [← Lib.size_eq]; exact hp), List.drop_append_of_le_length (by rw [← Lib.size_eq]; exact hq), h]
theorem same_seg (h : F.data.toList.drop p = G.data.toList.drop q) (x y : Nat) : seg F (p + x) (p + y) = seg G (q + x) (q + y) := by
  rw [seg_eq, seg_eq, List.drop_take, List.drop_take, same_more h x, show p + y - (p + x) = y - x by omega, show q + y - (q + x) = y - x by omega]
theorem same_unitW (h : F.data.toList.drop p = G.data.toList.drop q) (hp : p ≤ F.size) (hq : q ≤ G.size) : unitW F p = unitW G q := by
  have hz := same_size h
  unfold unitW
  by_cases h1 : p < F.size
  · rw [if_pos h1, if_pos (by omega), same_dec h]
  · rw [if_neg h1, if_neg (by omega)]
theorem same_unitL (h : F.data.toList.drop p = G.data.toList.drop q) (hp : p ≤ F.size) (hq : q ≤ G.size) : unitL F p = unitL G q := by
  have h1 : unitL F p = seg F (p + 0) (p + unitW F p) := rfl
  have h2 : unitL G q = seg G (q + 0) (q + unitW G q) := rfl
  rw [h1, h2, same_seg h, same_unitW h hp hq]
theorem same_rest (h : F.data.toList.drop p = G.data.toList.drop q) : F.extract p F.size = G.extract q G.size := by
  apply ByteArray.ext
  apply Array.toList_inj.1
  have h1 : (F.extract p F.size).data.toList = seg F p F.size := rfl
  have h2 : (G.extract q G.size).data.toList = seg G q G.size := rfl
  rw [h1, h2, seg_eq, seg_eq, List.take_of_length_le (by rw [← Lib.size_eq]; omega), List.take_of_length_le (by rw [← Lib.size_eq]; omega), h]
theorem same_unesc (h : F.data.toList.drop p = G.data.toList.drop q) : unescV (F.extract p F.size) = unescV (G.extract q G.size) := by rw [same_rest h]
end

/-- The same byte of the rest. -/
def Mv (p q u v : Nat) : Prop := ∃ x, u = p + x ∧ v = q + x
/-- Tokens one by one: kind, text, places. -/
def TkRel (PR : Pl → Pl → Prop) (X X' : List Tk) : Prop := X.length = X'.length ∧ ∀ (i : Nat) (a b : Tk), X[i]? = some a → X'[i]? = some b → b.kind = a.kind ∧ b.text = a.text ∧ PR a.pl b.pl
theorem TkRel.snoc {PR : Pl → Pl → Prop} {X X' : List Tk} {a b : Tk} (h : TkRel PR X X') (h1 : b.kind = a.kind ∧ b.text = a.text ∧ PR a.pl b.pl) : TkRel PR (X ++ [a]) (X' ++ [b]) := by
  refine ⟨by simp [h.1], fun i u v hu hv => ?_⟩
  by_cases hi : i < X.length
  · rw [List.getElem?_append_left hi] at hu
    rw [List.getElem?_append_left (by rw [← h.1]; exact hi)] at hv
    exact h.2 i u v hu hv
  · rw [List.getElem?_append_right (by omega)] at hu
    rw [List.getElem?_append_right (by rw [← h.1]; omega), ← h.1] at hv
    cases hk : i - X.length with
    | zero => rw [hk] at hu hv; simp at hu hv; subst hu; subst hv; exact h1
    | succ k => rw [hk] at hu; simp at hu
/-- Two scanners over two files with the same rest (from p on; from q on): PR relates their places, T their earlier tokens. -/
structure Sim (p q : Nat) (PR : Pl → Pl → Prop) (T T' : List Tk) (c c' : Sc) : Prop where
  st : c'.st = c.st
  here : PR c.here c'.here
  mv : Mv p q c.here.2.2 c'.here.2.2
  fr : PR c.from c'.from ∧ Mv p q c.from.2.2 c'.from.2.2
  text : 4 ≤ c.st → c'.text = c.text
  bh : c.st = 7 → Mv p q c.behind c'.behind
  qu : c.st = 5 ∨ c.st = 6 → PR c.quote c'.quote
  toks : ∃ X X', c.toks = T ++ X ∧ c'.toks = T' ++ X' ∧ TkRel PR X X'
section
variable {F G : ByteArray} {p q : Nat} {PR : Pl → Pl → Prop} {T T' : List Tk} {c c' c2 : Sc} {r : Int}
theorem sim_plain (h : F.data.toList.drop p = G.data.toList.drop q) (hs : Sim p q PR T T' c c') (h4 : 4 ≤ c.st) (hF : c.here.2.2 ≤ F.size) (hG : c'.here.2.2 ≤ G.size) :
    (∀ c2, plainS F c r = .took c2 → ∃ c2', plainS G c' r = .took c2' ∧ Sim p q PR T T' c2 c2') ∧ (∀ c2, plainS F c r = .left c2 → plainS G c' r = .left { c' with st := 4 }) := by
  obtain ⟨x, hx, hx'⟩ := hs.mv
  have hm := same_more h x
  rw [← hx, ← hx'] at hm
  have hfr := hs.fr
  have htx := hs.text h4
  constructor
  · intro c2 hp
    unfold plainS at hp ⊢
    by_cases h39 : r = 39
    · rw [if_pos h39] at hp ⊢
      cases hp
      exact ⟨_, rfl, ⟨rfl, hs.here, hs.mv, hfr, fun _ => htx, fun h => absurd h (by simp), fun _ => hs.here, hs.toks⟩⟩
    rw [if_neg h39] at hp ⊢
    by_cases h92 : r = 92
    · rw [if_pos h92] at hp ⊢
      rw [← same_unesc hm]
      cases hu : unescV (F.extract c.here.2.2 F.size) with
      | none => rw [hu] at hp; cases hp
      | some z =>
        obtain ⟨t, k⟩ := z
        rw [hu] at hp
        cases hp
        refine ⟨_, rfl, ⟨rfl, hs.here, hs.mv, hfr, fun _ => by simp only [htx], fun _ => ⟨x + k, by simp only; omega, by simp only; omega⟩, fun h => absurd h (by simp), hs.toks⟩⟩
    rw [if_neg h92] at hp ⊢
    by_cases hb : isBlk r = true
    · rw [if_pos hb] at hp; cases hp
    rw [if_neg hb] at hp ⊢
    by_cases hg : isSgs r = true
    · rw [if_pos hg] at hp; cases hp
    rw [if_neg hg] at hp ⊢
    cases hp
    refine ⟨_, rfl, ⟨rfl, hs.here, hs.mv, hfr, fun _ => by simp only [htx, same_unitL hm hF hG], fun h => absurd h (by simp), fun h => absurd h (by simp), hs.toks⟩⟩
  · intro c2 hp
    unfold plainS at hp ⊢
    by_cases h39 : r = 39
    · rw [if_pos h39] at hp; cases hp
    rw [if_neg h39] at hp ⊢
    by_cases h92 : r = 92
    · rw [if_pos h92] at hp
      split at hp <;> cases hp
    rw [if_neg h92] at hp ⊢
    by_cases hb : isBlk r = true
    · rw [if_pos hb]
    rw [if_neg hb] at hp ⊢
    by_cases hg : isSgs r = true
    · rw [if_pos hg]
    rw [if_neg hg] at hp
    cases hp
theorem sim_piece (h : F.data.toList.drop p = G.data.toList.drop q) (hs : Sim p q PR T T' c c') (h4 : 4 ≤ c.st) (hF : c.here.2.2 ≤ F.size) (hG : c'.here.2.2 ≤ G.size) :
    (∀ c2, pieceS F c r = .took c2 → ∃ c2', pieceS G c' r = .took c2' ∧ Sim p q PR T T' c2 c2') ∧ (∀ c2, pieceS F c r = .left c2 → pieceS G c' r = .left { c' with st := 4 }) := by
  obtain ⟨x, hx, hx'⟩ := hs.mv
  have hm := same_more h x
  rw [← hx, ← hx'] at hm
  have hfr := hs.fr
  have htx := hs.text h4
  have hpl := sim_plain (r := r) h hs h4 hF hG
  unfold pieceS
  rw [hs.st]
  by_cases h5 : c.st = 5
  · rw [if_pos h5, if_pos h5]
    unfold quotedS
    have hq := hs.qu (.inl h5)
    by_cases h39 : r = 39
    · rw [if_pos h39, if_pos h39]
      refine ⟨fun c2 hp => ?_, fun c2 hp => by cases hp⟩
      cases hp
      exact ⟨_, rfl, ⟨rfl, hs.here, hs.mv, hfr, fun _ => htx, fun h => absurd h (by simp), fun _ => hq, hs.toks⟩⟩
    · rw [if_neg h39, if_neg h39]
      refine ⟨fun c2 hp => ?_, fun c2 hp => by cases hp⟩
      cases hp
      exact ⟨_, rfl, ⟨hs.st, hs.here, hs.mv, hfr, fun _ => by simp only [htx, same_unitL hm hF hG], fun h => absurd h (by simp only; omega), fun _ => hq, hs.toks⟩⟩
  rw [if_neg h5, if_neg h5]
  by_cases h6 : c.st = 6
  · rw [if_pos h6, if_pos h6]
    unfold closingS
    have hq := hs.qu (.inr h6)
    by_cases h39 : r = 39
    · rw [if_pos h39, if_pos h39]
      refine ⟨fun c2 hp => ?_, fun c2 hp => by cases hp⟩
      cases hp
      exact ⟨_, rfl, ⟨rfl, hs.here, hs.mv, hfr, fun _ => by simp only [htx], fun h => absurd h (by simp), fun _ => hq, hs.toks⟩⟩
    · rw [if_neg h39, if_neg h39]
      exact hpl
  rw [if_neg h6, if_neg h6]
  by_cases h7 : c.st = 7
  · rw [if_pos h7, if_pos h7]
    unfold escapeS
    obtain ⟨y, hy, hy'⟩ := hs.bh h7
    by_cases hb : c.behind ≤ c.here.2.2
    · rw [if_pos hb, if_pos (by omega)]
      exact hpl
    · rw [if_neg hb, if_neg (by omega)]
      refine ⟨fun c2 hp => ?_, fun c2 hp => by cases hp⟩
      cases hp
      exact ⟨_, rfl, hs⟩
  rw [if_neg h7, if_neg h7]
  exact hpl
/-- From between on, whatever the states were. -/
theorem sim_between (h : F.data.toList.drop p = G.data.toList.drop q) (hh : PR c.here c'.here) (hv : Mv p q c.here.2.2 c'.here.2.2) (hk : ∃ X X', c.toks = T ++ X ∧ c'.toks = T' ++ X' ∧ TkRel PR X X') (hF : c.here.2.2 ≤ F.size) (hG : c'.here.2.2 ≤ G.size) (c2 : Sc) (hp : betweenS F c r = .ok c2) :
    ∃ c2', betweenS G c' r = .ok c2' ∧ Sim p q PR T T' c2 c2' := by
  unfold betweenS at hp ⊢
  by_cases hb : isBlk r = true
  · rw [if_pos hb] at hp ⊢
    cases hp
    exact ⟨_, rfl, ⟨rfl, hh, hv, ⟨hh, hv⟩, fun h => absurd h (by simp), fun h => absurd h (by simp), fun h => absurd h (by simp), hk⟩⟩
  rw [if_neg hb] at hp ⊢
  by_cases h35 : r = 35
  · rw [if_pos h35] at hp ⊢
    cases hp
    exact ⟨_, rfl, ⟨rfl, hh, hv, ⟨hh, hv⟩, fun h => absurd h (by simp), fun h => absurd h (by simp), fun h => absurd h (by simp), hk⟩⟩
  rw [if_neg h35] at hp ⊢
  by_cases hg : isSgn (encL r) = true
  · rw [if_pos hg] at hp ⊢
    cases hp
    exact ⟨_, rfl, ⟨rfl, hh, hv, ⟨hh, hv⟩, fun h => absurd h (by simp), fun h => absurd h (by simp), fun h => absurd h (by simp), hk⟩⟩
  rw [if_neg hg] at hp ⊢
  by_cases h91 : r = 91
  · rw [if_pos h91] at hp ⊢
    cases hp
    exact ⟨_, rfl, ⟨rfl, hh, hv, ⟨hh, hv⟩, fun h => absurd h (by simp), fun h => absurd h (by simp), fun h => absurd h (by simp), hk⟩⟩
  rw [if_neg h91] at hp ⊢
  by_cases h93 : r = 93
  · rw [if_pos h93] at hp; cases hp
  rw [if_neg h93] at hp ⊢
  by_cases h42 : r = 42
  · rw [if_pos h42] at hp; cases hp
  rw [if_neg h42] at hp ⊢
  have hs : Sim p q PR T T' { c with st := 4, «from» := c.here, text := [] } { c' with st := 4, «from» := c'.here, text := [] } :=
    ⟨rfl, hh, hv, ⟨hh, hv⟩, fun _ => rfl, fun h => absurd h (by simp), fun h => absurd h (by simp), hk⟩
  obtain ⟨s1, s2⟩ := sim_plain (r := r) h hs (by simp) hF hG
  cases hpl : plainS F { c with st := 4, «from» := c.here, text := [] } r with
  | took d =>
    rw [hpl] at hp
    cases hp
    obtain ⟨d', e1, e2⟩ := s1 _ hpl
    exact ⟨d', by rw [e1]; rfl, e2⟩
  | left d =>
    exact (plain_left hpl (by simpa using hb) (by simpa using hg) h35 h91 h93 h42).elim
  | bad no z => rw [hpl] at hp; cases hp
theorem sim_token (h : F.data.toList.drop p = G.data.toList.drop q) (hs : Sim p q PR T T' c c') (hF : c.here.2.2 ≤ F.size) (hG : c'.here.2.2 ≤ G.size) (c2 : Sc) (hp : tokenS F c r = .ok c2) :
    ∃ c2', tokenS G c' r = .ok c2' ∧ Sim p q PR T T' c2 c2' := by
  have hadd : ∀ (k : Nat) (x : List UInt8), c.st ≠ 0 → ∃ X X', c.toks ++ [⟨k, x, c.from⟩] = T ++ X ∧ c'.toks ++ [⟨k, x, c'.from⟩] = T' ++ X' ∧ TkRel PR X X' := fun k x h0 => by
    obtain ⟨X, X', e1, e2, e3⟩ := hs.toks
    exact ⟨X ++ [⟨k, x, c.from⟩], X' ++ [⟨k, x, c'.from⟩], by rw [e1, List.append_assoc], by rw [e2, List.append_assoc], e3.snoc ⟨rfl, rfl, hs.fr.1⟩⟩
  have hsl : ∀ y, c.st ≠ 0 → seg F (c.from.2.2 + y) c.here.2.2 = seg G (c'.from.2.2 + y) c'.here.2.2 := fun y h0 => by
    obtain ⟨x, hx, hx'⟩ := hs.mv
    obtain ⟨z, hz, hz'⟩ := hs.fr.2
    rw [hx, hx', hz, hz', show p + z + y = p + (z + y) by omega, show q + z + y = q + (z + y) by omega]
    exact same_seg h (z + y) x
  unfold tokenS at hp ⊢
  rw [hs.st]
  by_cases h0 : c.st = 0
  · rw [if_pos h0] at hp ⊢
    exact sim_between h hs.here hs.mv hs.toks hF hG c2 hp
  rw [if_neg h0] at hp ⊢
  have hfr := hs.fr
  have hsi : sinceL F c = sinceL G c' := hsl 0 h0
  by_cases h1 : c.st = 1
  · rw [if_pos h1] at hp ⊢
    unfold remarkS at hp ⊢
    by_cases h10 : r = 10
    · rw [if_pos h10] at hp ⊢
      exact sim_between (c := { c with st := 1 }) (c' := { c' with st := 1 }) h hs.here hs.mv hs.toks hF hG c2 hp
    · rw [if_neg h10] at hp ⊢
      cases hp
      exact ⟨_, rfl, ⟨rfl, hs.here, hs.mv, hfr, fun h => absurd h (by simp), fun h => absurd h (by simp), fun h => absurd h (by simp), hs.toks⟩⟩
  rw [if_neg h1] at hp ⊢
  by_cases h2 : c.st = 2
  · rw [if_pos h2] at hp ⊢
    unfold signS at hp ⊢
    rw [← hsi]
    by_cases hg : isSgn (sinceL F c ++ encL r) = true
    · rw [if_pos hg] at hp ⊢
      cases hp
      exact ⟨_, rfl, ⟨rfl, hs.here, hs.mv, hfr, fun h => absurd h (by simp), fun h => absurd h (by simp), fun h => absurd h (by simp), hs.toks⟩⟩
    · rw [if_neg hg] at hp ⊢
      exact sim_between (c := addT { c with st := 2 } 2 (sinceL F c)) (c' := addT { c' with st := 2 } 2 (sinceL F c)) h hs.here hs.mv (hadd 2 _ h0) hF hG c2 hp
  rw [if_neg h2] at hp ⊢
  by_cases h3 : c.st = 3
  · rw [if_pos h3] at hp ⊢
    unfold optionS at hp ⊢
    by_cases h93 : r = 93
    · rw [if_pos h93] at hp ⊢
      have he : F.extract (c.from.2.2 + 1) c.here.2.2 = G.extract (c'.from.2.2 + 1) c'.here.2.2 := by
        apply ByteArray.ext
        apply Array.toList_inj.1
        exact hsl 1 h0
      rw [← he]
      cases hp
      exact ⟨_, rfl, ⟨rfl, hs.here, hs.mv, hfr, fun h => absurd h (by simp), fun h => absurd h (by simp), fun h => absurd h (by simp), hadd 3 _ h0⟩⟩
    · rw [if_neg h93] at hp ⊢
      cases hp
      exact ⟨_, rfl, ⟨rfl, hs.here, hs.mv, hfr, fun h => absurd h (by simp), fun h => absurd h (by simp), fun h => absurd h (by simp), hs.toks⟩⟩
  rw [if_neg h3] at hp ⊢
  have h4 : 4 ≤ c.st := by omega
  obtain ⟨s1, s2⟩ := sim_piece (r := r) h hs h4 hF hG
  unfold textS at hp ⊢
  cases hpp : pieceS F c r with
  | took d =>
    rw [hpp] at hp
    cases hp
    obtain ⟨d', e1, e2⟩ := s1 _ hpp
    exact ⟨d', by rw [e1], e2⟩
  | bad no z => rw [hpp] at hp; cases hp
  | left d =>
    rw [hpp] at hp
    have hd := pieceS_left hpp
    subst hd
    rw [s2 _ hpp]
    have htx := hs.text h4
    have := hadd 1 c.text h0
    exact sim_between (c := addT { c with st := 4 } 1 c.text) (c' := addT { c' with st := 4 } 1 c'.text) h hs.here hs.mv (by rw [htx]; exact this) hF hG c2 hp
/-- The runs over the rest go side by side. -/
theorem sim_run (h : F.data.toList.drop p = G.data.toList.drop q) (hp : p ≤ F.size) (hq : q ≤ G.size) (hPR : ∀ u v x, PR u v → Mv p q u.2.2 v.2.2 → 0 < x → PR (plNext F u (p + x)) (plNext G v (q + x))) :
    ∀ (f x : Nat) (c c' cF : Sc) (f' : Nat), 0 < x → Sim p q PR T T' c c' → runS F f (p + x) c = .ok cF → F.size + 1 ≤ p + x + f → G.size + 1 ≤ q + x + f' → ∃ cG, runS G f' (q + x) c' = .ok cG ∧ Sim p q PR T T' cF cG := by
  have hz := same_size h
  have stop : ∀ (H : ByteArray) (f i : Nat) (c : Sc), ¬ i < H.size + 1 → runS H f i c = .ok c := fun H f i c hi => by
    cases f with
    | zero => rfl
    | succ f => rw [runS, if_neg hi]
  intro f
  induction f with
  | zero =>
    intro x c c' cF f' hx hs hr hf hf'
    cases hr
    exact ⟨c', stop G f' (q + x) c' (by omega), hs⟩
  | succ f ih =>
    intro x c c' cF f' hx hs hr hf hf'
    by_cases hlt : p + x < F.size + 1
    · obtain ⟨f', rfl⟩ : ∃ g, f' = g + 1 := ⟨f' - 1, by omega⟩
      rw [runS, if_pos hlt] at hr
      rw [runS, if_pos (by omega)]
      have hd : Utf8.decode (F ++ nlB) (p + x) = Utf8.decode (G ++ nlB) (q + x) := same_dec (same_more (same_nl h hp hq) x)
      rw [← hd]
      have e1 := (plNext_ix F c.here (p + x)).1
      have e2 := (plNext_ix G c'.here (q + x)).1
      have hs1 : Sim p q PR T T' { c with here := plNext F c.here (p + x) } { c' with here := plNext G c'.here (q + x) } :=
        ⟨hs.st, hPR _ _ x hs.here hs.mv hx, ⟨x, e1, e2⟩, hs.fr, hs.text, hs.bh, hs.qu, hs.toks⟩
      have hw : 1 ≤ (Utf8.decode (F ++ nlB) (p + x)).2 := (dec_width (F ++ nlB) (p + x) (by rw [nl_size]; exact hlt)).1
      generalize (Utf8.decode (F ++ nlB) (p + x)).2 = v at *
      cases ht : tokenS F { c with here := plNext F c.here (p + x) } ((Utf8.decode (F ++ nlB) (p + x)).1 : Nat) with
      | bad no z => rw [ht] at hr; cases hr
      | ok c2 =>
        rw [ht] at hr
        obtain ⟨c2', e3, e4⟩ := sim_token h hs1 (by simp only [e1]; omega) (by simp only [e2]; omega) c2 ht
        rw [e3]
        simp only at hr ⊢
        rw [Nat.add_assoc] at hr ⊢
        exact ih (x + v) c2 c2' cF f' (by omega) e4 hr (by omega) (by omega)
    · rw [stop F (f + 1) (p + x) c hlt] at hr
      cases hr
      exact ⟨c', stop G f' (q + x) c' (by omega), hs⟩
end
end Go.Proofs.YtlfdpdlhppgakaaGreatDoor
/- A file whose beginning is another's: escapes. No run in this text. -/
namespace Go.Proofs.YtlfdpdlhppgakaaGreatDoor
open Go Go.RowKit Go.Kt Go.Kt.Rg Go.Shelf Go.Lib

theorem upB_ext {a b : List UInt8} (h : a.contains 125 = true) : upB (a ++ b) = upB a := by
  unfold upB
  induction a with
  | nil => simp at h
  | cons x a ih =>
    rw [List.cons_append, List.takeWhile_cons, List.takeWhile_cons]
    by_cases hx : x = 125
    · subst hx; rfl
    · have h2 : a.contains 125 = true := by
        rw [List.contains_cons] at h
        rcases Bool.or_eq_true _ _ ▸ h with h | h
        · exact absurd (beq_iff_eq.1 h).symm hx
        · exact h
      rw [ih h2]
theorem unesc_ext {X Y : ByteArray} {Z t : List UInt8} {k : Nat} (hY : Y.data.toList = X.data.toList ++ Z) (hd : Utf8.decode Y 1 = Utf8.decode X 1) (h : unescV X = some (t, k)) : unescV Y = some (t, k) := by
  have h1 : 1 < X.size := by
    by_cases h1 : 1 < X.size
    · exact h1
    · unfold unescV at h
      rw [show unitW X 1 = 0 by unfold unitW; rw [if_neg h1], if_pos rfl] at h
      cases h
  have hz : Y.size = X.size + Z.length := by rw [Lib.size_eq, hY, List.length_append, ← Lib.size_eq]
  have hw : unitW Y 1 = unitW X 1 := by unfold unitW; rw [if_pos h1, if_pos (by omega), hd]
  have hp : (decP Y 1).1 = (decP X 1).1 := by
    have e1 := decP_in Y 1 (by omega)
    have e2 := decP_in X 1 h1
    rw [show ((1 : Nat) : Int) = 1 from rfl] at e1 e2
    rw [e1, e2, hd]
  have hsg : (Y.extract 1 (1 + unitW X 1)).data.toList = (X.extract 1 (1 + unitW X 1)).data.toList := by
    have a1 : (Y.extract 1 (1 + unitW X 1)).data.toList = seg Y 1 (1 + unitW X 1) := rfl
    have a2 : (X.extract 1 (1 + unitW X 1)).data.toList = seg X 1 (1 + unitW X 1) := rfl
    have hb := (unitW_bd X 1 (by omega)).2.1
    rw [a1, a2, seg_eq, seg_eq, hY, List.take_append_of_le_length (by rw [← Lib.size_eq]; exact hb)]
  unfold unescV at h ⊢
  rw [hw, hp, hsg]
  split at h
  · cases h
  rename_i n0
  rw [if_neg n0]
  split at h
  · rename_i n1
    rw [if_pos n1]
    unfold chrV at h ⊢
    cases hop : opn X.data.toList with
    | false =>
      rw [hop] at h
      unfold chrO at h
      split at h
      · cases h
      · simp at h
    | true =>
      rw [hop] at h
      have hpx : [92, 117, 123] <+: X.data.toList := by
        unfold opn at hop
        exact List.isPrefixOf_iff_prefix.1 hop
      have hl3 : 3 ≤ X.data.toList.length := by have := hpx.length_le; simpa using this
      have hoy : opn Y.data.toList = true := by
        unfold opn
        rw [hY]
        exact List.isPrefixOf_iff_prefix.2 (hpx.trans (List.prefix_append _ _))
      have hr : rst Y.data.toList = rst X.data.toList ++ Z := by
        unfold rst
        rw [if_pos hop, if_pos hoy, hY, List.drop_append_of_le_length hl3]
      cases hct : (rst X.data.toList).contains 125 with
      | false =>
        rw [hct] at h
        unfold chrO at h
        split at h
        · cases h
        · simp at h
      | true =>
        rw [hct] at h
        rw [hoy, hr, upB_ext hct, show (rst X.data.toList ++ Z).contains 125 = true by rw [List.contains_iff_mem, List.mem_append]; exact .inl (List.contains_iff_mem.1 hct)]
        exact h
  · rename_i n1
    rw [if_neg n1]
    split at h
    · rename_i n2
      rw [if_pos n2]
      unfold illV at h ⊢
      split at h
      · cases h
      · rename_i h4
        rw [if_neg (by rw [hY, List.length_append]; omega)]
        have hdt : (Y.data.toList.drop 2).take 2 = (X.data.toList.drop 2).take 2 := by
          rw [hY, List.drop_append_of_le_length (by omega), List.take_append_of_le_length (by rw [List.length_drop]; omega)]
        rw [hdt]
        exact h
    · rename_i n2
      rw [if_neg n2]
      exact h
/-- A unit of the beginning is the same where a byte below 128 stands behind the beginning. -/
theorem dec_two {E F : ByteArray} {p i : Nat} (hag : ∀ j, j < p → B E j = B F j) (hi : i < p) (hpE : p ≤ E.size) (hpF : p < F.size) (hb : B F p < 128) (hw : i + (Utf8.decode E i).2 ≤ p) : Utf8.decode F i = Utf8.decode E i := by
  obtain ⟨d1, d2, d3⟩ := dec_width E i (by omega)
  obtain ⟨e1, e2, e3⟩ := dec_width F i (by omega)
  by_cases hne : (Utf8.decode E i).1 = 65533 ∧ (Utf8.decode E i).2 = 1
  · by_cases hnf : (Utf8.decode F i).1 = 65533 ∧ (Utf8.decode F i).2 = 1
    · exact Prod.ext (hnf.1.trans hne.1.symm) (hnf.2.trans hne.2.symm)
    · have hin : i + (Utf8.decode F i).2 ≤ p := by
        by_cases hlo : (Utf8.decode F i).1 < 128
        · have := (dec_r_lo hlo).2; omega
        · by_cases hgt : i + (Utf8.decode F i).2 ≤ p
          · exact hgt
          · have := dec_hi_bytes (by omega) hnf (p - i) (by omega)
            rw [show i + (p - i) = p by omega] at this
            omega
      have hq : Utf8.decode F i = ((Utf8.decode F i).1, (Utf8.decode F i).2) := rfl
      generalize (Utf8.decode F i).1 = r at *
      generalize (Utf8.decode F i).2 = v at *
      rw [hq, decode_B E i, hag i hi]
      rw [decode_B] at hq
      exact (decN_pre hq hnf (by omega) (fun h => hag _ (by omega)) (fun h => hag _ (by omega)) (fun h => hag _ (by omega))).symm
  · have hq : Utf8.decode E i = ((Utf8.decode E i).1, (Utf8.decode E i).2) := rfl
    generalize (Utf8.decode E i).1 = r at *
    generalize (Utf8.decode E i).2 = v at *
    rw [hq, decode_B F i, ← hag i hi]
    rw [decode_B] at hq
    exact decN_pre hq hne (by omega) (fun h => (hag _ (by omega)).symm) (fun h => (hag _ (by omega)).symm) (fun h => (hag _ (by omega)).symm)
end Go.Proofs.YtlfdpdlhppgakaaGreatDoor
/- The laws' own: works. -/
namespace Go.Proofs.YtlfdpdlhppgakaaGreatDoor
open Go Go.RowKit Go.Kt Go.Shelf Go.Lib
attribute [local go_sem] Oper.semAt_some

theorem ownS_at {Y : Nat → Prop} {e : TypeId} {sz n g cap : Nat} {xs : List Value} {W : World} (h : OwnS Y e sz (.slice (some ⟨g, 0, none⟩) n cap) n xs W) {i : Nat} {u : Value} (hi : xs[i]? = some u) : W.cell? ⟨g, i, none⟩ = some u := by
  have := h.1.cells (g := g) rfl i u hi
  by_cases h0 : i = 0
  · subst h0; simpa [Addr.add] using this
  · simpa [Addr.add, h0] using this
theorem scan_a : scanS ⟨#[97, 32, 60]⟩ = .ok [⟨1, [97], (1, 1, 0)⟩, ⟨2, [60], (1, 3, 2)⟩, ⟨0, [], (1, 4, 3)⟩] := by kernel_rfl
theorem scan_b : scanS ⟨#[97, 32, 93]⟩ = .bad 25 1 3 := by kernel_rfl

set_option maxHeartbeats 1000000 in
set_option maxRecDepth 100000 in
theorem works_any5 (w : World) (hE : SEnv w) :
    Calls Tryz.prog 10 #[] w fun e w' => e = .returned (.bool true) ∧ Below w.heap.size w w' := by
  have C1 := Lib.hid (scan_any ⟨#[97, 32, 60]⟩ w hE (by decide))
  rw [scan_a] at C1
  have HE := Lib.hid hE
  clear hE
  go_enter Tryz.func10, Tryz.ntmps10
  go_wp2_with fail
  refine C1.out.mono ?_
  rintro e w1 ⟨⟨g, cap, rfl, ho⟩, hb1⟩
  have hE1 := HE.out.below hb1
  have C2 := Lib.hid (scan_any ⟨#[97, 32, 93]⟩ w1 hE1 (by decide))
  rw [scan_b] at C2
  have HO := Lib.hid (And.intro ho hb1)
  clear ho hb1 hE1
  go_wp2_with fail
  refine C2.out.mono ?_
  rintro e w2 ⟨rfl, hb2⟩
  have hE2 := (HE.out.below HO.out.2).below hb2
  have ho2 := HO.out.1.keep (X := fun _ => False) (Keep.of_all hb2) (fun _ h => h.elim)
  have q1 : w2.cell? ⟨g, 1, none⟩ = some (.string ⟨#[97]⟩) := ownS_at ho2 (i := 1) rfl
  have q5 : w2.cell? ⟨g, 5, none⟩ = some (.int .i64 2) := ownS_at ho2 (i := 5) rfl
  have CA := Lib.hid (fun V (h : Below w2.heap.size w2 V) => at_fault 25 1 3 V (by decide) (by decide) (hE2.below h).err)
  have HB := Lib.hid (HO.out.2.trans (hb2.mono HO.out.2.size))
  clear ho2 hb2 hE2
  go_wp2_with (go_at_call 13; refine (CA.out _ (Below.refl _ _)).mono ?_; rintro e w3 ⟨rfl, hb3⟩)
  go_ret
  exact ⟨rfl, HB.out.trans (hb3.mono HB.out.size)⟩
end Go.Proofs.YtlfdpdlhppgakaaGreatDoor
/- A text's line ends, counted by the law; cells of tokens; a beginning's units. -/
namespace Go.Proofs.YtlfdpdlhppgakaaGreatDoor
open Go Go.RowKit Go.Kt Go.Shelf Go.Lib
attribute [local go_sem] Oper.semAt_some

set_option maxRecDepth 100000 in
theorem ended_any (s : ByteArray) (w : World) (hs : s.size ≤ 140737488351232) :
    Calls Tryz.prog 19 #[.string s] w fun e w' => e = .returned (.int .i64 (nlc s s.size : Nat)) ∧ w = w' := by
  go_enter Tryz.func19, Tryz.ntmps19
  go_wp2
  go_loopw [3, 4] (fun n v wr => ∃ i : Nat, v = .int .i64 i ∧ n = .int .i64 (nlc s i : Nat) ∧ i ≤ s.size ∧ nlc s i ≤ i ∧ wr = w) (fun _ v _ => s.size - (RowKit.intOf v).toNat)
  case atStart => exact ⟨0, rfl, by simp [nlc], Nat.zero_le _, by simp [nlc], rfl⟩
  case round =>
    obtain ⟨i, rfl, rfl, hi, hni, rfl⟩ := hrel
    by_cases hlt : i < s.size
    · have HI : ∀ w, (Instr.index 9 (.string s) (.int .i64 (i : Nat))).run Tryz.prog w = .ok (.int .u8 (bAt s i)) w := fun w => run_bAt s i hlt w
      have hBb : bAt s i = (B s i : Nat) := rfl
      have hsu := nlc_succ s i hlt
      have hlt' : (i : Int) < s.size := by omega
      by_cases h10 : B s i = 10
      · have hb : bAt s i = 10 := by rw [hBb, h10]; rfl
        rw [if_pos h10] at hsu
        generalize nlc s i = n at *
        rw [hb] at HI
        clear hb hBb h10
        have HS := Lib.hid hsu
        clear hsu
        go_wp2
        go_roundw
        case rel => exact ⟨i + 1, rfl, by rw [HS.out]; rfl, by omega, by have := HS.out; omega, trivial⟩
        case measure => simp [RowKit.intOf]; omega
      · rw [if_neg h10, Nat.add_zero] at hsu
        have hb : (bAt s i == 10) = false := by rw [hBb]; simp; omega
        generalize bAt s i = b at *
        generalize nlc s i = n at *
        have HS := Lib.hid hsu
        clear hsu hBb h10
        go_wp2
        go_roundw
        case rel => exact ⟨i + 1, rfl, congrArg (fun x : Nat => Value.int .i64 x) HS.out.symm, by omega, by have := HS.out; omega, trivial⟩
        case measure => simp [RowKit.intOf]; omega
    · have hie : i = s.size := by omega
      subst hie
      have hlt' : ¬ (s.size : Int) < s.size := by omega
      go_wp2
      go_ret
      exact ⟨rfl, rfl⟩
theorem tksC_get : ∀ (L : List Tk) (i k : Nat) (t : Tk), L[i]? = some t → k < 5 → (tksC L)[i * 5 + k]? = (tkC t)[k]?
  | [], i, k, t, h, _ => by simp at h
  | a :: L, 0, k, t, h, hk => by
    simp at h
    subst h
    have : tksC (a :: L) = tkC a ++ tksC L := by simp [tksC]
    rw [this, Nat.zero_mul, Nat.zero_add, List.getElem?_append_left (by simp [tkC]; omega)]
  | a :: L, i + 1, k, t, h, hk => by
    have h' : L[i]? = some t := by simpa using h
    have : tksC (a :: L) = tkC a ++ tksC L := by simp [tksC]
    rw [this, List.getElem?_append_right (by simp [tkC]; omega), ← tksC_get L i k t h' hk]
    congr 1
    simp [tkC]; omega
/-- The units of a text's beginning. -/
theorem dec_head (s : ByteArray) (p m : Nat) (hm : m ≤ s.size) (hp : p < m) (hw : p + (Utf8.decode s p).2 ≤ m) : Utf8.decode (s.extract 0 m) p = Utf8.decode s p := by
  have hz : (s.extract 0 m).size = m := by rw [ByteArray.size_extract]; omega
  have hB : ∀ j, j < m → B (s.extract 0 m) j = B s j := fun j hj => by
    unfold B
    have : (s.extract 0 m).data.toList = s.data.toList.take m := by simp
    rw [this, List.getD_eq_getElem?_getD, List.getD_eq_getElem?_getD, List.getElem?_take, if_pos hj]
  obtain ⟨d1, d2, d3⟩ := dec_width s p (by omega)
  obtain ⟨e1, e2, e3⟩ := dec_width (s.extract 0 m) p (by omega)
  rw [hz] at e3
  by_cases hne : (Utf8.decode s p).1 = 65533 ∧ (Utf8.decode s p).2 = 1
  · by_cases hne2 : (Utf8.decode (s.extract 0 m) p).1 = 65533 ∧ (Utf8.decode (s.extract 0 m) p).2 = 1
    · exact Prod.ext (hne2.1.trans hne.1.symm) (hne2.2.trans hne.2.symm)
    · have hq : Utf8.decode (s.extract 0 m) p = ((Utf8.decode (s.extract 0 m) p).1, (Utf8.decode (s.extract 0 m) p).2) := rfl
      generalize (Utf8.decode (s.extract 0 m) p).1 = r at *
      generalize (Utf8.decode (s.extract 0 m) p).2 = v at *
      rw [hq, decode_B s p]
      rw [decode_B, hB p hp] at hq
      exact (decN_pre hq hne2 (by omega) (fun h => (hB _ (by omega)).symm) (fun h => (hB _ (by omega)).symm) (fun h => (hB _ (by omega)).symm)).symm
  · have hq : Utf8.decode s p = ((Utf8.decode s p).1, (Utf8.decode s p).2) := rfl
    generalize (Utf8.decode s p).1 = r at *
    generalize (Utf8.decode s p).2 = v at *
    rw [hq, decode_B, hB p hp]
    rw [decode_B] at hq
    exact decN_pre hq hne (by omega) (fun h => hB _ (by omega)) (fun h => hB _ (by omega)) (fun h => hB _ (by omega))

theorem toks_few {s : ByteArray} {L : List Tk} (h : TokOk s L) : L.length ≤ s.size + 1 := by
  have key : ∀ k (hk : k < L.length), k ≤ (L[k]).pl.2.2 := by
    intro k
    induction k with
    | zero => intro _; exact Nat.zero_le _
    | succ k ih =>
      intro hk
      have h1 := ih (by omega)
      have h2 := List.pairwise_iff_getElem.1 h.up k (k + 1) (by omega) hk (by omega)
      omega
  by_cases h0 : L.length = 0
  · omega
  have h1 := key (L.length - 1) (by omega)
  obtain ⟨n, hn⟩ := h.pl (L[L.length - 1]'(by omega)) (List.getElem_mem _)
  have h2 := plN_le s n
  rw [hn] at h2
  omega
/-- The cells of a list of tokens that was handed out. -/
theorem toks_cells {Y : Nat → Prop} {L : List Tk} {g cap : Nat} {W : World} (ho : OwnS Y 39 5 (.slice (some ⟨g, 0, none⟩) L.length cap) L.length (tksC L) W) {V : World} {i : Nat} {t : Tk} (hV : Below W.heap.size W V) (ht : L[i]? = some t) :
    V.cell? ⟨g, i * 5, none⟩ = some (.int .i64 (t.kind : Nat)) ∧ V.cell? ⟨g, i * 5 + 1, none⟩ = some (.string ⟨t.text.toArray⟩) ∧ V.cell? ⟨g, i * 5 + 2, none⟩ = some (.int .i64 (t.pl.1 : Nat)) ∧ V.cell? ⟨g, i * 5 + 3, none⟩ = some (.int .i64 (t.pl.2.1 : Nat)) ∧ V.cell? ⟨g, i * 5 + 4, none⟩ = some (.int .i64 (t.pl.2.2 : Nat)) := by
  have hgl : g < W.heap.size := (ho.1.lt g rfl).2
  have hc : ∀ k u, k < 5 → (tkC t)[k]? = some u → V.cell? ⟨g, i * 5 + k, none⟩ = some u := fun k u hk hu => (hV.cell (p := ⟨g, i * 5 + k, none⟩) hgl).trans (ownS_at ho (by rw [tksC_get L i k t ht hk]; exact hu))
  exact ⟨hc 0 _ (by decide) rfl, hc 1 _ (by decide) rfl, hc 2 _ (by decide) rfl, hc 3 _ (by decide) rfl, hc 4 _ (by decide) rfl⟩
end Go.Proofs.YtlfdpdlhppgakaaGreatDoor
/- A file whose beginning is another's: the scanner's run over it. No run in this text. -/
namespace Go.Proofs.YtlfdpdlhppgakaaGreatDoor
open Go Go.RowKit Go.Kt Go.Kt.Rg Go.Shelf Go.Lib

theorem unesc_ge {Y : ByteArray} {t : List UInt8} {k : Nat} (h : unescV Y = some (t, k)) : 2 ≤ k := by
  unfold unescV at h
  split at h
  · cases h
  rename_i n0
  split at h
  · unfold chrV at h
    cases hp : puV 16777215 (upB (rst Y.data.toList)) with
    | none => rw [hp] at h; cases h
    | some n =>
      rw [hp] at h
      unfold chrO at h
      simp only at h
      split at h
      · injection h with h; injection h with h2 h3; omega
      · cases h
  split at h
  · unfold illV at h
    split at h
    · cases h
    split at h
    · split at h
      · cases h
      · injection h with h; injection h with h2 h3; omega
    · cases h
  · injection h with h; injection h with h2 h3; omega
theorem upB_long {a b : List UInt8} (h : (upB (a ++ b)).length < a.length) : a.contains 125 = true := by
  cases hc : a.contains 125 with
  | true => rfl
  | false =>
    exfalso
    have hall : ∀ x ∈ a, (x != 125) = true := fun x hx => by
      have : x ≠ 125 := fun e => by
        subst e
        rw [List.contains_iff_mem.2 hx] at hc
        cases hc
      simpa using this
    unfold upB at h
    rw [List.takeWhile_append_of_pos hall, List.length_append] at h
    omega
set_option maxRecDepth 100000 in
theorem unesc_cut {X Y : ByteArray} {Z t : List UInt8} {k : Nat} (hY : Y.data.toList = X.data.toList ++ Z) (hd : 1 < X.size → Utf8.decode Y 1 = Utf8.decode X 1) (hk : k ≤ X.size) (h : unescV Y = some (t, k)) : unescV X = some (t, k) := by
  have hk2 := unesc_ge h
  have h1 : 1 < X.size := by omega
  have hd := hd h1
  have hz : Y.size = X.size + Z.length := by rw [Lib.size_eq, hY, List.length_append, ← Lib.size_eq]
  have hw : unitW Y 1 = unitW X 1 := by unfold unitW; rw [if_pos h1, if_pos (by omega), hd]
  have hp : (decP Y 1).1 = (decP X 1).1 := by
    have e1 := decP_in Y 1 (by omega)
    have e2 := decP_in X 1 h1
    rw [show ((1 : Nat) : Int) = 1 from rfl] at e1 e2
    rw [e1, e2, hd]
  have hsg : (Y.extract 1 (1 + unitW X 1)).data.toList = (X.extract 1 (1 + unitW X 1)).data.toList := by
    have a1 : (Y.extract 1 (1 + unitW X 1)).data.toList = seg Y 1 (1 + unitW X 1) := rfl
    have a2 : (X.extract 1 (1 + unitW X 1)).data.toList = seg X 1 (1 + unitW X 1) := rfl
    have hb := (unitW_bd X 1 (by omega)).2.1
    rw [a1, a2, seg_eq, seg_eq, hY, List.take_append_of_le_length (by rw [← Lib.size_eq]; exact hb)]
  have hxl : X.data.toList.length = X.size := (Lib.size_eq X).symm
  unfold unescV at h ⊢
  rw [hw, hp, hsg] at h
  split at h
  · cases h
  rename_i n0
  rw [if_neg n0]
  split at h
  · rename_i n1
    rw [if_pos n1]
    unfold chrV at h ⊢
    cases hpu : puV 16777215 (upB (rst Y.data.toList)) with
    | none => rw [hpu] at h; cases h
    | some n =>
      rw [hpu] at h
      unfold chrO at h
      simp only at h
      split at h
      · rename_i hc
        have hc0 := hc
        have h2 := congrArg Prod.fst (Option.some.inj h)
        have h3 := congrArg Prod.snd (Option.some.inj h)
        simp only at h2 h3
        simp only [Bool.and_eq_true] at hc
        obtain ⟨⟨⟨ho, hkk⟩, h6⟩, hv⟩ := hc
        clear hc0
        have hpy : [92, 117, 123] <+: Y.data.toList := by
          unfold opn at ho
          exact List.isPrefixOf_iff_prefix.1 ho
        have hpx : [92, 117, 123] <+: X.data.toList := by
          rw [List.prefix_iff_eq_take] at hpy ⊢
          rw [hY, List.take_append_of_le_length (by simp; omega)] at hpy
          exact hpy
        have hox : opn X.data.toList = true := by
          unfold opn
          exact List.isPrefixOf_iff_prefix.2 hpx
        have hr : rst Y.data.toList = rst X.data.toList ++ Z := by
          unfold rst
          rw [if_pos ho, if_pos hox, hY, List.drop_append_of_le_length (by omega)]
        have hrl : (rst X.data.toList).length = X.size - 3 := by unfold rst; rw [if_pos hox, List.length_drop, hxl]
        have hcx : (rst X.data.toList).contains 125 = true := upB_long (b := Z) (by rw [← hr]; omega)
        have hu : upB (rst Y.data.toList) = upB (rst X.data.toList) := by rw [hr, upB_ext hcx]
        rw [hu] at hpu h6 h3
        rw [hpu]
        unfold chrO
        simp only
        have hc1 : (opn X.data.toList && (rst X.data.toList).contains 125 && decide ((upB (rst X.data.toList)).length ≤ 6) && Lib.validRune (n : Nat)) = true := by
          rw [hox, hcx, h6, hv]; rfl
        rw [if_pos hc1, ← h2, ← h3]
      · cases h
  · rename_i n1
    rw [if_neg n1]
    split at h
    · rename_i n2
      rw [if_pos n2]
      unfold illV at h ⊢
      split at h
      · cases h
      · rename_i h4
        have hk4 : 4 ≤ X.size := by
          split at h
          · split at h
            · cases h
            · injection h with h; injection h with h2 h3; omega
          · cases h
        rw [if_neg (by omega)]
        have hdt : (Y.data.toList.drop 2).take 2 = (X.data.toList.drop 2).take 2 := by
          rw [hY, List.drop_append_of_le_length (by omega), List.take_append_of_le_length (by rw [List.length_drop]; omega)]
        rw [← hdt]
        exact h
    · rename_i n2
      rw [if_neg n2]
      exact h

/-- F begins as E does, up to p; there a byte below 128 stands in F. -/
structure Beg (E F : ByteArray) (p : Nat) : Prop where
  eq : F.data.toList.take p = E.data.toList.take p
  pE : p ≤ E.size
  pF : p < F.size
  lo : B F p < 128
section
variable {E F : ByteArray} {p : Nat} {c c2 : Sc} {r : Int}
theorem Beg.seg (h : Beg E F p) (a : Nat) {b : Nat} (hb : b ≤ p) : seg F a b = seg E a b := by
  rw [seg_eq, seg_eq, ← Nat.min_eq_left hb, ← List.take_take, ← List.take_take, h.eq]
theorem Beg.ext (h : Beg E F p) (a : Nat) {b : Nat} (hb : b ≤ p) : F.extract a b = E.extract a b := by
  apply ByteArray.ext
  apply Array.toList_inj.1
  exact h.seg a hb
theorem Beg.at (h : Beg E F p) {j : Nat} (hj : j < p) : B E j = B F j := by
  have h1 : F.data.toList[j]? = E.data.toList[j]? := by
    have := congrArg (fun l => l[j]?) h.eq
    simp only [List.getElem?_take, if_pos hj] at this
    exact this
  unfold B
  rw [List.getD_eq_getElem?_getD, List.getD_eq_getElem?_getD, h1]
theorem Beg.dec (h : Beg E F p) {i : Nat} (hi : i < p) (hw : i + (Utf8.decode E i).2 ≤ p) : Utf8.decode F i = Utf8.decode E i :=
  dec_two (fun _ hj => h.at hj) hi h.pE h.pF h.lo hw
theorem Beg.unit (h : Beg E F p) {i : Nat} (hi : i < p) (hw : i + (Utf8.decode E i).2 ≤ p) : unitL F i = unitL E i := by
  have e1 : unitW F i = (Utf8.decode E i).2 := by unfold unitW; rw [if_pos (by have := h.pF; omega), h.dec hi hw]
  have e2 : unitW E i = (Utf8.decode E i).2 := by unfold unitW; rw [if_pos (by have := h.pE; omega)]
  show (F.extract i (i + unitW F i)).data.toList = (E.extract i (i + unitW E i)).data.toList
  rw [e1, e2]
  exact h.seg i hw
theorem Beg.since (h : Beg E F p) (hi : c.here.2.2 ≤ p) : sinceL F c = sinceL E c := h.seg _ hi
theorem Beg.unesc (h : Beg E F p) {i : Nat} (hi : i < p) (hw : i + 1 < p → i + 1 + (Utf8.decode E (i + 1)).2 ≤ p) {t : List UInt8} {k : Nat} (hk : i + k ≤ p) (hu : unescV (E.extract i E.size) = some (t, k)) : unescV (F.extract i F.size) = some (t, k) := by
  have lst : ∀ (Q : ByteArray) (j : Nat), (Q.extract i j).data.toList = (Q.data.toList.take j).drop i := fun Q j => seg_eq Q i j
  have all : ∀ Q : ByteArray, Q.data.toList.take Q.size = Q.data.toList := fun Q => by rw [Lib.size_eq, List.take_length]
  have cut : ∀ Q : ByteArray, p ≤ Q.size → (Q.extract i Q.size).data.toList = (Q.extract i p).data.toList ++ Q.data.toList.drop p := fun Q hQ => by
    rw [lst, lst, all]
    rw [← List.drop_append_of_le_length (by rw [List.length_take, ← Lib.size_eq]; omega), List.take_append_drop]
  have hxz : (E.extract i p).size = p - i := by rw [ByteArray.size_extract]; have := h.pE; omega
  have hkk := unesc_ge hu
  have hw' := hw (by omega)
  have dr : ∀ Q : ByteArray, (Q.extract i Q.size).data.toList.drop 1 = Q.data.toList.drop (i + 1) := fun Q => by rw [lst, all, List.drop_drop]
  have dX : Utf8.decode (E.extract i p) 1 = Utf8.decode E (i + 1) := by
    have e1 : Utf8.decode (E.extract i p) 1 = Utf8.decode (E.extract 0 p) (i + 1) := same_dec (by
      rw [lst]
      have : (E.extract 0 p).data.toList = E.data.toList.take p := by simp
      rw [this, List.drop_drop])
    rw [e1, dec_head E _ p h.pE (by omega) hw']
  have h1 : unescV (E.extract i p) = some (t, k) := unesc_cut (cut E h.pE) (fun _ => by
    rw [dX]
    exact same_dec (dr E)) (by omega) hu
  refine unesc_ext (X := E.extract i p) (Z := F.data.toList.drop p) ?_ ?_ h1
  · rw [cut F (by have := h.pF; omega), h.ext i (Nat.le_refl _)]
  · rw [dX, same_dec (dr F)]
    exact h.dec (by omega) hw'
theorem Beg.plain (h : Beg E F p) (hi : c.here.2.2 < p) (hw : c.here.2.2 + (Utf8.decode E c.here.2.2).2 ≤ p) (hn : r = 92 → c.here.2.2 + 1 < p → c.here.2.2 + 1 + (Utf8.decode E (c.here.2.2 + 1)).2 ≤ p) :
    (∀ c2, plainS E c r = .took c2 → plainS F c r = .took c2 ∨ c2.st = 7 ∧ p < c2.behind) ∧ (∀ c2, plainS E c r = .left c2 → plainS F c r = .left c2) := by
  unfold plainS
  by_cases h39 : r = 39
  · rw [if_pos h39, if_pos h39]
    exact ⟨fun c2 h => .inl h, fun c2 h => h⟩
  rw [if_neg h39, if_neg h39]
  by_cases h92 : r = 92
  · rw [if_pos h92, if_pos h92]
    cases hu : unescV (E.extract c.here.2.2 E.size) with
    | none => exact ⟨fun c2 h => (by cases h), fun c2 h => (by cases h)⟩
    | some z =>
      obtain ⟨t, k⟩ := z
      refine ⟨fun c2 h2 => ?_, fun c2 h => by cases h⟩
      by_cases hk : c.here.2.2 + k ≤ p
      · left
        rw [h.unesc hi (hn h92) hk hu]
        exact h2
      · right
        cases h2
        exact ⟨rfl, by simp only; omega⟩
  rw [if_neg h92, if_neg h92, h.unit hi hw]
  exact ⟨fun c2 h => .inl h, fun c2 h => h⟩
theorem Beg.piece (h : Beg E F p) (hi : c.here.2.2 < p) (hw : c.here.2.2 + (Utf8.decode E c.here.2.2).2 ≤ p) (hn : r = 92 → c.here.2.2 + 1 < p → c.here.2.2 + 1 + (Utf8.decode E (c.here.2.2 + 1)).2 ≤ p) :
    (∀ c2, pieceS E c r = .took c2 → pieceS F c r = .took c2 ∨ c2.st = 7 ∧ p < c2.behind) ∧ (∀ c2, pieceS E c r = .left c2 → pieceS F c r = .left c2) := by
  have hp := h.plain hi hw hn
  unfold pieceS
  by_cases h5 : c.st = 5
  · rw [if_pos h5, if_pos h5]
    unfold quotedS
    rw [h.unit hi hw]
    exact ⟨fun c2 h => .inl h, fun c2 h => h⟩
  rw [if_neg h5, if_neg h5]
  by_cases h6 : c.st = 6
  · rw [if_pos h6, if_pos h6]
    unfold closingS
    by_cases h39 : r = 39
    · rw [if_pos h39, if_pos h39]
      exact ⟨fun c2 h => .inl h, fun c2 h => h⟩
    · rw [if_neg h39, if_neg h39]
      exact hp
  rw [if_neg h6, if_neg h6]
  by_cases h7 : c.st = 7
  · rw [if_pos h7, if_pos h7]
    unfold escapeS
    by_cases hb : c.behind ≤ c.here.2.2
    · rw [if_pos hb, if_pos hb]
      exact hp
    · rw [if_neg hb, if_neg hb]
      exact ⟨fun c2 h => .inl h, fun c2 h => h⟩
  rw [if_neg h7, if_neg h7]
  exact hp
theorem Beg.between (h : Beg E F p) (hi : c.here.2.2 < p) (hw : c.here.2.2 + (Utf8.decode E c.here.2.2).2 ≤ p) (hn : r = 92 → c.here.2.2 + 1 < p → c.here.2.2 + 1 + (Utf8.decode E (c.here.2.2 + 1)).2 ≤ p) (hb : betweenS E c r = .ok c2) :
    betweenS F c r = .ok c2 ∨ c2.st = 7 ∧ p < c2.behind := by
  obtain ⟨p1, p2⟩ := h.plain (c := { c with st := 4, «from» := c.here, text := [] }) hi hw hn
  unfold betweenS at hb ⊢
  by_cases g1 : isBlk r = true
  · rw [if_pos g1] at hb ⊢; exact .inl hb
  rw [if_neg g1] at hb ⊢
  by_cases g2 : r = 35
  · rw [if_pos g2] at hb ⊢; exact .inl hb
  rw [if_neg g2] at hb ⊢
  by_cases g3 : isSgn (encL r) = true
  · rw [if_pos g3] at hb ⊢; exact .inl hb
  rw [if_neg g3] at hb ⊢
  by_cases g4 : r = 91
  · rw [if_pos g4] at hb ⊢; exact .inl hb
  rw [if_neg g4] at hb ⊢
  by_cases g5 : r = 93
  · rw [if_pos g5] at hb; cases hb
  rw [if_neg g5] at hb ⊢
  by_cases g6 : r = 42
  · rw [if_pos g6] at hb; cases hb
  rw [if_neg g6] at hb ⊢
  cases hpl : plainS E { c with st := 4, «from» := c.here, text := [] } r with
  | took d =>
    rw [hpl] at hb
    cases hb
    rcases p1 _ hpl with e | e
    · left; rw [e]; rfl
    · exact .inr e
  | left d =>
    rw [hpl] at hb
    cases hb
    left; rw [p2 _ hpl]; rfl
  | bad no z => rw [hpl] at hb; cases hb
theorem Beg.token (h : Beg E F p) (hi : c.here.2.2 < p) (hw : c.here.2.2 + (Utf8.decode E c.here.2.2).2 ≤ p) (hn : r = 92 → c.here.2.2 + 1 < p → c.here.2.2 + 1 + (Utf8.decode E (c.here.2.2 + 1)).2 ≤ p) (ht : tokenS E c r = .ok c2) :
    tokenS F c r = .ok c2 ∨ c2.st = 7 ∧ p < c2.behind := by
  have hs : sinceL F c = sinceL E c := h.since (Nat.le_of_lt hi)
  unfold tokenS at ht ⊢
  by_cases h0 : c.st = 0
  · rw [if_pos h0] at ht ⊢
    exact h.between hi hw hn ht
  rw [if_neg h0] at ht ⊢
  by_cases h1 : c.st = 1
  · rw [if_pos h1] at ht ⊢
    unfold remarkS at ht ⊢
    by_cases h10 : r = 10
    · rw [if_pos h10] at ht ⊢
      exact h.between (c := { c with st := 1 }) hi hw hn ht
    · rw [if_neg h10] at ht ⊢
      exact .inl ht
  rw [if_neg h1] at ht ⊢
  by_cases h2 : c.st = 2
  · rw [if_pos h2] at ht ⊢
    unfold signS at ht ⊢
    rw [hs]
    by_cases hg : isSgn (sinceL E c ++ encL r) = true
    · rw [if_pos hg] at ht ⊢
      exact .inl ht
    · rw [if_neg hg] at ht ⊢
      exact h.between (c := addT { c with st := 2 } 2 (sinceL E c)) hi hw hn ht
  rw [if_neg h2] at ht ⊢
  by_cases h3 : c.st = 3
  · rw [if_pos h3] at ht ⊢
    unfold optionS at ht ⊢
    rw [h.ext _ (Nat.le_of_lt hi)]
    exact .inl ht
  rw [if_neg h3] at ht ⊢
  obtain ⟨p1, p2⟩ := h.piece hi hw hn
  unfold textS at ht ⊢
  cases hp : pieceS E c r with
  | took d =>
    rw [hp] at ht
    cases ht
    rcases p1 _ hp with e | e
    · left; rw [e]
    · exact .inr e
  | bad no z => rw [hp] at ht; cases ht
  | left d =>
    rw [hp] at ht
    have hd := pieceS_left hp
    subst hd
    rw [p2 _ hp]
    exact h.between (c := addT { c with st := 4 } 1 c.text) hi hw hn ht
end

/-- Ahead of the unit at i. -/
def Ahead (s : ByteArray) (i : Nat) (c : Sc) : Prop := i = 0 ∧ c = c0S ∨ KS s c.here c ∧ (∃ n, plN s n = c.here) ∧ c.here.2.2 < s.size ∧ i = c.here.2.2 + (Utf8.decode s c.here.2.2).2
section
variable {s : ByteArray} {i : Nat} {c c2 cF : Sc}
theorem Ahead.le (h : Ahead s i c) : i ≤ s.size := by
  rcases h with ⟨rfl, _⟩ | ⟨_, _, h3, h4⟩
  · exact Nat.zero_le _
  · have := (dec_width s _ h3).2.2; omega
theorem Ahead.js (h : Ahead s i c) : JS s { c with here := plNext s c.here i } := by
  have hx := (plNext_ix s c.here i).1
  rcases h with ⟨rfl, rfl⟩ | ⟨hk, ⟨n, hn⟩, h3, h4⟩
  · exact ⟨⟨0, rfl⟩, fun h => absurd rfl h, fun h => absurd rfl h, fun h => absurd rfl h, fun t ht => by simp [c0S] at ht, Nat.zero_le _, ⟨List.Pairwise.nil, fun t ht => by simp [c0S] at ht, fun t ht => by simp [c0S] at ht⟩⟩
  · have hw := (dec_width s _ h3).1
    have hpl : plNext s c.here i = plN s (n + 1) := by
      rw [← hn] at h3 h4 ⊢
      rw [h4]
      exact plNext_plN s n h3
    exact ⟨⟨n + 1, hpl.symm⟩, hk.fr, fun h0 => by have := hk.le h0; simp only [hx]; omega, hk.tl, fun t ht => by have := hk.t0 t ht; simp only [hx]; omega, hk.bh, hk.ok⟩
theorem Ahead.ks (h : Ahead s i c) {r : Int} (h92 : r = 92 → i < s.size) (ht : tokenS s { c with here := plNext s c.here i } r = .ok c2) : KS s (plNext s c.here i) c2 := by
  have hx := (plNext_ix s c.here i).1
  have hl := h.le
  exact tokenS_K h.js (fun e => by simp only [hx]; exact h92 e) (by simp only [hx]; exact hl) ht
theorem Ahead.step (h : Ahead s i c) (hlt : i < s.size) {r : Int} (ht : tokenS s { c with here := plNext s c.here i } r = .ok c2) : Ahead s (i + (Utf8.decode s i).2) c2 ∧ c2.here = plNext s c.here i := by
  have hx := (plNext_ix s c.here i).1
  have hj := h.js
  have hk := h.ks (fun _ => hlt) ht
  have hh := hk.here
  exact ⟨.inr ⟨by rw [hh]; exact hk, by rw [hh]; exact hj.here, by rw [hh, hx]; exact hlt, by rw [hh, hx]⟩, hh⟩
/-- The next unit of a file that is read up to one of its places. -/
theorem Ahead.fits (h : Ahead s i c) {p : Nat} (hm : ∃ m, (plN s m).2.2 = p) (hi : i < p) : i + (Utf8.decode s i).2 ≤ p := by
  obtain ⟨m, rfl⟩ := hm
  obtain ⟨n, hn⟩ := h.js.here
  have hx := (plNext_ix s c.here i).1
  have e : (plN s n).2.2 = i := by rw [hn]; exact hx
  have := plN_next s (n := n) (m := m) (by rw [e]; exact hi)
  rw [e] at this
  exact this
theorem run_on {f : Nat} (hr : runS s (f + 1) i c = .ok cF) (hi : i < s.size) : ∃ c2, tokenS s { c with here := plNext s c.here i } ((Utf8.decode s i).1 : Nat) = .ok c2 ∧ runS s f (i + (Utf8.decode s i).2) c2 = .ok cF := by
  rw [runS, if_pos (by omega), decode_nl s i hi] at hr
  cases ht : tokenS s { c with here := plNext s c.here i } ((Utf8.decode s i).1 : Nat) with
  | bad no p => rw [ht] at hr; cases hr
  | ok c2 => rw [ht] at hr; exact ⟨c2, rfl, hr⟩
theorem run_to {f : Nat} (hi : i < s.size) (ht : tokenS s { c with here := plNext s c.here i } ((Utf8.decode s i).1 : Nat) = .ok c2) : runS s (f + 1) i c = runS s f (i + (Utf8.decode s i).2) c2 := by
  rw [runS, if_pos (by omega), decode_nl s i hi, ht]
theorem run_last {f : Nat} (hr : runS s (f + 1) s.size c = .ok cF) : tokenS s { c with here := plNext s c.here s.size } 10 = .ok cF := by
  rw [runS, if_pos (by omega), decode_end] at hr
  cases ht : tokenS s { c with here := plNext s c.here s.size } ((10 : Nat) : Int) with
  | bad no p => rw [ht] at hr; cases hr
  | ok c2 =>
    rw [ht] at hr
    have h2 : runS s f (s.size + 1) c2 = .ok cF := hr
    have he : runS s f (s.size + 1) c2 = .ok c2 := by
      cases f with
      | zero => rfl
      | succ f => rw [runS, if_neg (by omega)]
    rw [he] at h2
    exact congrArg TR.ok (TR.ok.inj h2)
end
section
variable {E F : ByteArray} {p : Nat} {cF : Sc}
theorem run_lost (hm : ∃ m, (plN E m).2.2 = p) (hp : p ≤ E.size) : ∀ (f i : Nat) (c : Sc), Ahead E i c → i ≤ p → E.size + 1 ≤ i + f → c.st = 7 → p < c.behind → runS E f i c = .ok cF →
    ∃ cp f1, Ahead E p cp ∧ E.size + 1 ≤ p + f1 ∧ runS E f1 p cp = .ok cF ∧ cp.st = 7 ∧ p < cp.behind := by
  intro f
  induction f with
  | zero => intro i c _ hi hf; omega
  | succ f ih =>
    intro i c hA hi hf h7 hb hr
    by_cases hip : i = p
    · subst hip
      exact ⟨c, f + 1, hA, hf, hr, h7, hb⟩
    obtain ⟨c2, ht, hr2⟩ := run_on hr (by omega)
    have hx := (plNext_ix E c.here i).1
    have hfit := hA.fits hm (by omega)
    have hA2 := (hA.step (by omega) ht).1
    have hw := (dec_width E i (by omega)).1
    have hc2 : c2.st = 7 ∧ c2.behind = c.behind := by
      unfold tokenS at ht
      simp only at ht
      rw [if_neg (by omega), if_neg (by omega), if_neg (by omega), if_neg (by omega)] at ht
      unfold textS pieceS at ht
      simp only at ht
      rw [if_neg (by omega), if_neg (by omega), if_pos h7] at ht
      unfold escapeS at ht
      simp only [hx] at ht
      rw [if_neg (by omega)] at ht
      cases ht
      exact ⟨h7, rfl⟩
    exact ih _ c2 hA2 hfit (by omega) hc2.1 (by omega) hr2
/-- The runs over the beginning are the same, or an escape goes beyond it. -/
theorem run_beg (hB : Beg E F p) (hm : ∃ m, (plN E m).2.2 = p) : ∀ (f i : Nat) (c : Sc) (f' : Nat), Ahead E i c → i ≤ p → E.size + 1 ≤ i + f → F.size + 1 ≤ i + f' → runS E f i c = .ok cF →
    ∃ cp f1, Ahead E p cp ∧ E.size + 1 ≤ p + f1 ∧ runS E f1 p cp = .ok cF ∧ ((∃ f2, F.size + 1 ≤ p + f2 ∧ runS F f' i c = runS F f2 p cp) ∨ cp.st = 7 ∧ p < cp.behind) := by
  intro f
  induction f with
  | zero => intro i c f' _ hi hf; have := hB.pE; omega
  | succ f ih =>
    intro i c f' hA hi hf hf' hr
    by_cases hip : i = p
    · subst hip
      exact ⟨c, f + 1, hA, hf, hr, .inl ⟨f', hf', rfl⟩⟩
    have hpE := hB.pE
    have hpF := hB.pF
    have hip' : i < p := by omega
    obtain ⟨c2, ht, hr2⟩ := run_on hr (by omega)
    have hx := (plNext_ix E c.here i).1
    have hfit := hA.fits hm hip'
    have hA2 := (hA.step (by omega) ht).1
    have hw := (dec_width E i (by omega)).1
    have hn : (((Utf8.decode E i).1 : Nat) : Int) = 92 → i + 1 < p → i + 1 + (Utf8.decode E (i + 1)).2 ≤ p := fun h92 h1 => by
      have hd := (dec_r_lo (s := E) (i := i) (by omega)).2
      rw [hd] at hA2
      exact hA2.fits hm h1
    have htok := hB.token (c := { c with here := plNext E c.here i }) (r := ((Utf8.decode E i).1 : Nat)) (by simp only [hx]; exact hip') (by simp only [hx]; exact hfit) (by simp only [hx]; exact hn) ht
    rcases htok with hF | ⟨h7, hbh⟩
    · obtain ⟨f', rfl⟩ : ∃ g, f' = g + 1 := ⟨f' - 1, by omega⟩
      have hpl : plNext F c.here i = plNext E c.here i := by
        unfold plNext
        by_cases h0 : 0 < i
        · rw [hB.at (show i - 1 < p by omega)]
        · rw [if_neg (by omega), if_neg (by omega)]
      have hd := hB.dec hip' hfit
      have hgo : runS F (f' + 1) i c = runS F f' (i + (Utf8.decode E i).2) c2 := by
        rw [run_to (s := F) (c2 := c2) (by omega) (by rw [hpl, hd]; exact hF), hd]
      obtain ⟨cp, f1, a1, a2, a3, a4⟩ := ih _ c2 f' hA2 hfit (by omega) (by omega) hr2
      refine ⟨cp, f1, a1, a2, a3, ?_⟩
      rw [hgo]
      exact a4
    · obtain ⟨cp, f1, a1, a2, a3, a4⟩ := run_lost hm hpE f _ c2 hA2 hfit (by omega) h7 hbh hr2
      exact ⟨cp, f1, a1, a2, a3, .inr a4⟩
end
end Go.Proofs.YtlfdpdlhppgakaaGreatDoor
/- Two files, one behind the other: what Scan answers. No run in this text. -/
namespace Go.Proofs.YtlfdpdlhppgakaaGreatDoor
open Go Go.RowKit Go.Kt Go.Kt.Rg Go.Shelf Go.Lib

theorem nlN_le (s : ByteArray) : nlN s ≤ nlc s s.size := by
  have h1 : nlc s s.size = s.data.toList.count 10 := by unfold nlc; rw [Lib.size_eq, List.take_length]
  rw [h1]
  unfold nlN Lib.countByte Lib.trimSuffix
  split
  · exact (List.take_sublist _ _).count_le _
  · exact Nat.le_refl _
theorem endS_ok {c : Sc} {l : List Tk} (h : endS c = .ok l) : c.st ≠ 3 ∧ c.st ≠ 5 ∧ l = c.toks ++ [⟨0, [], c.from⟩] := by
  unfold endS at h
  split at h
  · cases h
  split at h
  · cases h
  · cases h
    exact ⟨by assumption, by assumption, rfl⟩
theorem endS_of {c : Sc} (h3 : c.st ≠ 3) (h5 : c.st ≠ 5) : endS c = .ok (c.toks ++ [⟨0, [], c.from⟩]) := by
  unfold endS
  rw [if_neg h3, if_neg h5]
theorem scan_run {s : ByteArray} {l : List Tk} (h : scanS s = .ok l) : ∃ cF, runS s (s.size + 1) 0 c0S = .ok cF ∧ cF.st = 0 ∧ (∃ n, plN s n = cF.from) ∧ cF.from.2.2 = s.size ∧ (∀ t ∈ cF.toks, t.pl.2.2 < s.size) ∧ l = cF.toks ++ [⟨0, [], cF.from⟩] := by
  unfold scanS at h
  split at h
  · cases h
  split at h
  · cases h
  cases hr : runS s (s.size + 1) 0 c0S with
  | bad no p => rw [hr] at h; cases h
  | ok c =>
    rw [hr] at h
    obtain ⟨h3, h5, hl⟩ := endS_ok (c := c) h
    rcases runS_K s c (s.size + 1) 0 c0S (.inl ⟨rfl, rfl⟩) (by omega) hr with e | e | ⟨h0, hok, hpl, hz, hlt⟩
    · exact absurd e h3
    · exact absurd e h5
    · exact ⟨c, rfl, h0, hpl, hz, hlt, hl⟩
theorem run_scan {s : ByteArray} {c : Sc} (hz : s.size ≤ 1048576) (hn : nlc s s.size < 65536) (hr : runS s (s.size + 1) 0 c0S = .ok c) (h3 : c.st ≠ 3) (h5 : c.st ≠ 5) : scanS s = .ok (c.toks ++ [⟨0, [], c.from⟩]) := by
  unfold scanS
  rw [if_neg (by omega), if_neg (by have := nlN_le s; omega), hr]
  exact endS_of h3 h5
theorem between10 (s : ByteArray) (c : Sc) : betweenS s c 10 = .ok { c with st := 0, «from» := c.here } := by
  unfold betweenS
  rw [if_pos (by decide)]
theorem Beg.token10 {E F : ByteArray} {p : Nat} {c c2 : Sc} (h : Beg E F p) (hi : c.here.2.2 ≤ p) (ht : tokenS E c 10 = .ok c2) (hst : c2.st = 0) : tokenS F c 10 = .ok c2 := by
  have hs : sinceL F c = sinceL E c := h.since hi
  unfold tokenS at ht ⊢
  by_cases h0 : c.st = 0
  · rw [if_pos h0] at ht ⊢
    rw [between10] at ht ⊢
    exact ht
  rw [if_neg h0] at ht ⊢
  by_cases h1 : c.st = 1
  · rw [if_pos h1] at ht ⊢
    unfold remarkS at ht ⊢
    rw [if_pos rfl] at ht ⊢
    rw [between10] at ht ⊢
    exact ht
  rw [if_neg h1] at ht ⊢
  by_cases h2 : c.st = 2
  · rw [if_pos h2] at ht ⊢
    unfold signS at ht ⊢
    rw [hs]
    rw [between10] at ht ⊢
    exact ht
  rw [if_neg h2] at ht ⊢
  by_cases h3 : c.st = 3
  · rw [if_pos h3] at ht
    unfold optionS at ht
    rw [if_neg (by decide)] at ht
    cases ht
    cases hst
  rw [if_neg h3] at ht ⊢
  have hp : ∀ Q : ByteArray, pieceS Q c 10 = .left { c with st := 4 } ∨ ∃ d, pieceS Q c 10 = .took d ∧ d.st ≠ 0 ∧ (c.st = 5 ∨ c.st = 7 ∧ ¬ c.behind ≤ c.here.2.2) := fun Q => by
    unfold pieceS
    by_cases h5 : c.st = 5
    · rw [if_pos h5]
      unfold quotedS
      rw [if_neg (by decide)]
      exact .inr ⟨_, rfl, by simp [h5], .inl h5⟩
    rw [if_neg h5]
    by_cases h6 : c.st = 6
    · rw [if_pos h6]
      unfold closingS
      rw [if_neg (by decide)]
      exact .inl plain_10
    rw [if_neg h6]
    by_cases h7 : c.st = 7
    · rw [if_pos h7]
      unfold escapeS
      by_cases hb : c.behind ≤ c.here.2.2
      · rw [if_pos hb]; exact .inl plain_10
      · rw [if_neg hb]; exact .inr ⟨_, rfl, by simp [h7], .inr ⟨h7, hb⟩⟩
    rw [if_neg h7]
    exact .inl plain_10
  unfold textS at ht ⊢
  rcases hp E with e | ⟨d, e, hd, _⟩
  · rw [e] at ht
    rcases hp F with e2 | ⟨d2, e2, _, hc⟩
    · rw [e2]
      simp only [between10] at ht ⊢
      exact ht
    · exfalso
      unfold pieceS at e
      rcases hc with h5 | ⟨h7, hb⟩
      · rw [if_pos h5] at e
        unfold quotedS at e
        rw [if_neg (by decide)] at e
        cases e
      · rw [if_neg (by omega), if_neg (by omega), if_pos h7] at e
        unfold escapeS at e
        rw [if_neg hb] at e
        cases e
  · rw [e] at ht
    cases ht
    exact absurd hst hd
theorem token0 {s : ByteArray} {c : Sc} {r : Int} (h : c.st = 0) : tokenS s c r = betweenS s c r := by unfold tokenS; rw [if_pos h]
/-- The places of the second file's tokens. -/
def Moved (K p : Nat) (u v : Pl) : Prop := v = (u.1 + (K + 1), u.2.1, u.2.2 + (p + 1))
theorem scan_joined (s t : ByteArray) {a b : List Tk} (ha : scanS s = .ok a) (hb : scanS t = .ok b) (hz : s.size + t.size ≤ 500000) (hn : nlc s s.size + nlc t t.size ≤ 60000) :
    ∃ A e B', a = A ++ [e] ∧ scanS (s ++ nlB ++ t) = .ok (A ++ B') ∧ TkRel (Moved (nlc s s.size) s.size) b B' := by
  obtain ⟨cS, hrS, hS0, hplS, hzS, hltS, hlS⟩ := scan_run ha
  obtain ⟨cT, hrT, hT0, hplT, hzT, hltT, hlT⟩ := scan_run hb
  obtain ⟨F, hF⟩ : ∃ F, F = s ++ nlB ++ t := ⟨_, rfl⟩
  rw [← hF]
  have hFl : F.data.toList = s.data.toList ++ ([10] ++ t.data.toList) := by
    rw [hF, ByteArray.data_append, Array.toList_append, nl_list, List.append_assoc]
  have hsl := Lib.size_eq s
  have htl := Lib.size_eq t
  have hFz : F.size = s.size + (1 + t.size) := by rw [Lib.size_eq, hFl, List.length_append, List.length_append, ← hsl, ← htl]; rfl
  obtain ⟨p, hp⟩ : ∃ p, s.size = p := ⟨_, rfl⟩
  have hFp : B F p = 10 := by
    unfold B
    rw [hFl, List.getD_eq_getElem?_getD, List.getElem?_append_right (by omega), ← hsl, hp, Nat.sub_self]
    rfl
  have hB : Beg s F p := ⟨by rw [hFl, List.take_append_of_le_length (by omega)], by omega, by omega, by rw [hFp]; omega⟩
  obtain ⟨m, hm⟩ := hplS
  obtain ⟨cp, f1, hA, hf1, hr1, hsp⟩ := run_beg hB ⟨m, by rw [hm, hzS, hp]⟩ (s.size + 1) 0 c0S (F.size + 1) (.inl ⟨rfl, rfl⟩) (Nat.zero_le _) (by omega) (by omega) hrS
  have hjs := hA.js
  rcases hsp with ⟨f2, hf2, hgo⟩ | ⟨_, hbh⟩
  case inr => have h1 : cp.behind ≤ s.size := hjs.bh; omega
  obtain ⟨g1, rfl⟩ : ∃ g, f1 = g + 1 := ⟨f1 - 1, by omega⟩
  obtain ⟨g2, rfl⟩ : ∃ g, f2 = g + 1 := ⟨f2 - 1, by omega⟩
  have hpl : plNext F cp.here p = plNext s cp.here p := by
    unfold plNext
    by_cases h0 : 0 < p
    · rw [hB.at (show p - 1 < p by omega)]
    · rw [if_neg (by omega), if_neg (by omega)]
  have hx := (plNext_ix s cp.here p).1
  have hlast : tokenS s { cp with here := plNext s cp.here p } 10 = .ok cS := by
    rw [← hp] at hr1 ⊢
    exact run_last hr1
  have hks := hA.ks (fun h => by exact absurd h (by decide)) hlast
  have hline : cS.here.1 = nlc s s.size + 1 ∧ cS.here.2.2 = p := by
    obtain ⟨n, hn⟩ := hjs.here
    have hl := plN_line s n
    have hn' : plN s n = plNext s cp.here p := hn
    rw [hn', hx, ← hks.here] at hl
    rw [hp]
    exact ⟨hl, by rw [hks.here, hx]⟩
  have hFt : tokenS F { cp with here := plNext F cp.here p } 10 = .ok cS := by
    rw [hpl]
    exact hB.token10 (by simp only [hx]; exact Nat.le_refl _) hlast hS0
  have hdF : Utf8.decode F p = (10, 1) := by rw [dec_lo F p (by omega), hFp]
  have hgo2 : runS F (g2 + 1) p cp = runS F g2 (p + 1) cS := by
    rw [run_to (s := F) (c2 := cS) (by omega) (by rw [hdF]; exact hFt), hdF]
  rw [hgo2] at hgo
  have hsame : t.data.toList.drop 0 = F.data.toList.drop (p + 1) := by
    rw [List.drop_zero, hFl, List.drop_append, List.drop_of_length_le (by omega), ← hsl, hp, Nat.add_sub_cancel_left]
    rfl
  obtain ⟨g2, rfl⟩ : ∃ g, g2 = g + 1 := ⟨g2 - 1, by omega⟩
  have hnl := same_nl hsame (Nat.zero_le _) (by omega)
  have hdec := same_dec hnl
  rw [runS, if_pos (by omega), hdec] at hrT
  have hwd := (dec_width (F ++ nlB) (p + 1) (by rw [nl_size]; omega)).1
  obtain ⟨r, hr⟩ : ∃ r, (Utf8.decode (F ++ nlB) (p + 1)).1 = r := ⟨_, rfl⟩
  obtain ⟨v, hv⟩ : ∃ v, (Utf8.decode (F ++ nlB) (p + 1)).2 = v := ⟨_, rfl⟩
  rw [hr, hv] at hrT
  rw [hv] at hwd
  cases ht1 : tokenS t { c0S with here := plNext t c0S.here 0 } ((r : Nat) : Int) with
  | bad no z => rw [ht1] at hrT; cases hrT
  | ok c1 =>
    rw [ht1] at hrT
    have hb1 : betweenS t { c0S with here := plNext t c0S.here 0 } ((r : Nat) : Int) = .ok c1 := by
      rw [token0 rfl] at ht1
      exact ht1
    have hh0 : plNext t c0S.here 0 = (1, 1, 0) := by unfold plNext; rw [if_neg (by omega)]; rfl
    have hh1 : plNext F cS.here (p + 1) = (nlc s s.size + 1 + 1, 1, p + 1) := by
      unfold plNext
      rw [if_pos ⟨by omega, by rw [Nat.add_sub_cancel]; exact hFp⟩, hline.1]
    have hPR0 : Moved (nlc s s.size) p (plNext t c0S.here 0) (plNext F cS.here (p + 1)) := by
      rw [hh0, hh1]
      exact Prod.ext (by show _ + 1 + 1 = 1 + (_ + 1); omega) (Prod.ext rfl (by show p + 1 = 0 + (p + 1); omega))
    obtain ⟨c1', hb2, hsim⟩ := sim_between (F := t) (G := F) (p := 0) (q := p + 1) (PR := Moved (nlc s s.size) p) (T := []) (T' := cS.toks) (c := { c0S with here := plNext t c0S.here 0 }) (c' := { cS with here := plNext F cS.here (p + 1) }) hsame hPR0 ⟨0, by simp only [hh0], by simp only [hh1]⟩ ⟨[], [], rfl, by simp, rfl, fun i a b h _ => by simp at h⟩ (by simp only [hh0]; exact Nat.zero_le _) (by simp only [hh1]; omega) c1 hb1
    have ht2 : tokenS F { cS with here := plNext F cS.here (p + 1) } ((r : Nat) : Int) = .ok c1' := by
      unfold tokenS
      rw [if_pos hS0]
      exact hb2
    have hgo3 : runS F (g2 + 1) (p + 1) cS = runS F g2 (p + 1 + v) c1' := by
      rw [runS, if_pos (by omega), hr, hv, ht2]
    rw [hgo3] at hgo
    have hrT' : runS t t.size (0 + v) c1 = .ok cT := hrT
    obtain ⟨cG, hG, hsG⟩ := sim_run hsame (Nat.zero_le _) (by omega) (PR := Moved (nlc s s.size) p) (fun u v x huv hmv hx => by
      have hBe := same_B hsame (x - 1)
      rw [Nat.zero_add] at hBe
      unfold Moved at huv
      subst huv
      unfold plNext
      rw [Nat.zero_add, show p + 1 + x - 1 = p + 1 + (x - 1) by omega, ← hBe]
      by_cases h10 : B t (x - 1) = 10
      · rw [if_pos ⟨hx, h10⟩, if_pos ⟨by omega, h10⟩]
        exact Prod.ext (by show _ + 1 = _ + 1 + _; omega) (Prod.ext rfl (by show p + 1 + x = x + (p + 1); omega))
      · rw [if_neg (fun h => h10 h.2), if_neg (fun h => h10 h.2)]
        exact Prod.ext rfl (Prod.ext rfl (by show p + 1 + x = x + (p + 1); omega))) t.size v c1 c1' cT g2 (by omega) hsim hrT' (by omega) (by omega)
    rw [hG] at hgo
    obtain ⟨X, X', x1, x2, x3⟩ := hsG.toks
    have hG0 : cG.st = 0 := hsG.st.trans hT0
    refine ⟨cS.toks, ⟨0, [], cS.from⟩, X' ++ [⟨0, [], cG.from⟩], hlS, ?_, ?_⟩
    · rw [run_scan (s := F) (c := cG) (by omega) ?_ hgo (by omega) (by omega), x2, List.append_assoc]
      have e1 : nlc F F.size = F.data.toList.count 10 := by unfold nlc; rw [Lib.size_eq, List.take_length]
      have e2 : nlc s s.size = s.data.toList.count 10 := by unfold nlc; rw [Lib.size_eq, List.take_length]
      have e3 : nlc t t.size = t.data.toList.count 10 := by unfold nlc; rw [Lib.size_eq, List.take_length]
      rw [e1, hFl, List.count_append, List.count_append, ← e2, ← e3]
      have : ([10] : List UInt8).count 10 = 1 := by decide
      omega
    · subst hp
      rw [hlT, x1, List.nil_append]
      exact x3.snoc (a := ⟨0, [], cT.from⟩) (b := ⟨0, [], cG.from⟩) ⟨rfl, rfl, hsG.fr.1⟩
end Go.Proofs.YtlfdpdlhppgakaaGreatDoor
/- A remark and blanks put in ahead of a token: what Scan answers. No run in this text. -/
namespace Go.Proofs.YtlfdpdlhppgakaaGreatDoor
open Go Go.RowKit Go.Kt Go.Kt.Rg Go.Shelf Go.Lib

/-- What is put in. -/
def insL : List UInt8 := [32, 9, 35, 60, 39, 92, 91, 195, 169, 255, 13, 10, 32]
section
variable {s : ByteArray} {c c2 : Sc} {r : Int}
/-- The tokens behind a unit. -/
theorem piece_from (h : pieceS s c r = .took c2) : c2.from = c.from ∧ c2.toks = c.toks ∧ (4 ≤ c.st → c2.st ≠ 0) := by
  have hp : ∀ {c2}, plainS s c r = .took c2 → c2.from = c.from ∧ c2.toks = c.toks ∧ c2.st ≠ 0 := by
    intro c2 h
    unfold plainS at h
    repeat' split at h
    all_goals first | (cases h; done) | (cases h; exact ⟨rfl, rfl, by simp⟩)
  unfold pieceS at h
  split at h
  · rename_i h5
    unfold quotedS at h
    split at h <;> (cases h; exact ⟨rfl, rfl, fun _ => by simp [h5]⟩)
  split at h
  · unfold closingS at h
    split at h
    · cases h; exact ⟨rfl, rfl, fun _ => by simp⟩
    · exact ⟨(hp h).1, (hp h).2.1, fun _ => (hp h).2.2⟩
  split at h
  · rename_i h7
    unfold escapeS at h
    split at h
    · exact ⟨(hp h).1, (hp h).2.1, fun _ => (hp h).2.2⟩
    · cases h; exact ⟨rfl, rfl, fun _ => by simp [h7]⟩
  · exact ⟨(hp h).1, (hp h).2.1, fun _ => (hp h).2.2⟩
theorem between_from (h : betweenS s c r = .ok c2) : c2.from = c.here ∧ c2.toks = c.toks := by
  unfold betweenS at h
  repeat' split at h
  all_goals first | (cases h; done) | (cases h; exact ⟨rfl, rfl⟩) | skip
  cases hpl : plainS s { c with st := 4, «from» := c.here, text := [] } r with
  | took d =>
    have hpp : pieceS s { c with st := 4, «from» := c.here, text := [] } r = .took d := by
      unfold pieceS
      rw [if_neg (by simp), if_neg (by simp), if_neg (by simp)]
      exact hpl
    rw [hpl] at h
    cases h
    obtain ⟨a1, a2, _⟩ := piece_from hpp
    exact ⟨a1, a2⟩
  | left d =>
    have hpp : pieceS s { c with st := 4, «from» := c.here, text := [] } r = .left d := by
      unfold pieceS
      rw [if_neg (by simp), if_neg (by simp), if_neg (by simp)]
      exact hpl
    have := pieceS_left hpp
    rw [hpl] at h
    cases h
    subst this
    exact ⟨rfl, rfl⟩
  | bad no z => rw [hpl] at h; cases h
theorem token_from (h : tokenS s c r = .ok c2) : (c2.toks = c.toks ∨ c.st ≠ 0 ∧ ∃ k x, c2.toks = c.toks ++ [⟨k, x, c.from⟩]) ∧ (c2.from = c.here ∨ c2.from = c.from ∧ c.st ≠ 0) := by
  unfold tokenS at h
  split at h
  · obtain ⟨a, b⟩ := between_from h
    exact ⟨.inl b, .inl a⟩
  rename_i n0
  split at h
  · unfold remarkS at h
    split at h
    · obtain ⟨a, b⟩ := between_from h
      exact ⟨.inl b, .inl a⟩
    · cases h; exact ⟨.inl rfl, .inr ⟨rfl, n0⟩⟩
  split at h
  · unfold signS at h
    split at h
    · cases h; exact ⟨.inl rfl, .inr ⟨rfl, n0⟩⟩
    · obtain ⟨a, b⟩ := between_from h
      exact ⟨.inr ⟨n0, 2, _, b⟩, .inl a⟩
  split at h
  · unfold optionS at h
    split at h
    · cases h; exact ⟨.inr ⟨n0, 3, _, rfl⟩, .inr ⟨rfl, n0⟩⟩
    · cases h; exact ⟨.inl rfl, .inr ⟨rfl, n0⟩⟩
  unfold textS at h
  cases hp : pieceS s c r with
  | took d =>
    rw [hp] at h
    cases h
    obtain ⟨a1, a2, _⟩ := piece_from hp
    exact ⟨.inl a2, .inr ⟨a1, n0⟩⟩
  | bad no z => rw [hp] at h; cases h
  | left d =>
    rw [hp] at h
    have hd := pieceS_left hp
    subst hd
    obtain ⟨a, b⟩ := between_from h
    exact ⟨.inr ⟨n0, 1, _, b⟩, .inl a⟩
/-- No token begins at byte p. -/
def NoTk (p : Nat) (c : Sc) : Prop := (∀ t ∈ c.toks, t.pl.2.2 ≠ p) ∧ (c.st ≠ 0 → c.from.2.2 ≠ p)
theorem token_no {p : Nat} (hn : NoTk p c) (hp : p < c.here.2.2) (h : tokenS s c r = .ok c2) : NoTk p c2 := by
  obtain ⟨h1, h2⟩ := token_from h
  constructor
  · intro t ht
    rcases h1 with e | ⟨n0, k, x, e⟩
    · rw [e] at ht; exact hn.1 t ht
    · rw [e] at ht
      rcases List.mem_append.1 ht with ht | ht
      · exact hn.1 t ht
      · rw [List.mem_singleton] at ht; subst ht; exact hn.2 n0
  · intro _
    rcases h2 with e | ⟨e, n0⟩
    · rw [e]; omega
    · rw [e]; exact hn.2 n0
theorem run_no {p : Nat} {cF : Sc} : ∀ (f i : Nat) (c : Sc), p < i → NoTk p c → runS s f i c = .ok cF → NoTk p cF := by
  intro f
  induction f with
  | zero => intro i c _ hn hr; cases hr; exact hn
  | succ f ih =>
    intro i c hi hn hr
    rw [runS] at hr
    split at hr
    · cases ht : tokenS s { c with here := plNext s c.here i } ((Utf8.decode (s ++ nlB) i).1 : Nat) with
      | bad no z => rw [ht] at hr; cases hr
      | ok d =>
        rw [ht] at hr
        exact ih _ d (by omega) (token_no (c := { c with here := plNext s c.here i }) hn (by simp only [(plNext_ix s c.here i).1]; exact hi) ht) hr
    · cases hr; exact hn
theorem between32 (s : ByteArray) (c : Sc) : betweenS s c 32 = .ok { c with st := 0, «from» := c.here } := by
  unfold betweenS
  rw [if_pos (by decide)]
theorem between9 (s : ByteArray) (c : Sc) : betweenS s c 9 = .ok { c with st := 0, «from» := c.here } := by
  unfold betweenS
  rw [if_pos (by decide)]
theorem between35 (s : ByteArray) (c : Sc) : betweenS s c 35 = .ok { c with st := 1, «from» := c.here } := by
  unfold betweenS
  rw [if_neg (by decide), if_pos rfl]
theorem blank_step (h : c.st = 0 ∨ c.st = 1) (hr : r = 32 ∨ r = 9) : ∃ c2, tokenS s c r = .ok c2 ∧ (c2.st = 0 ∨ c2.st = 1) ∧ c2.toks = c.toks := by
  unfold tokenS
  rcases h with h | h
  · rw [if_pos h]
    rcases hr with rfl | rfl
    · exact ⟨_, between32 _ _, .inl rfl, rfl⟩
    · exact ⟨_, between9 _ _, .inl rfl, rfl⟩
  · rw [if_neg (by omega), if_pos h]
    unfold remarkS
    rw [if_neg (by omega)]
    exact ⟨_, rfl, .inr rfl, rfl⟩
theorem hash_step (h : c.st = 0 ∨ c.st = 1) : ∃ c2, tokenS s c 35 = .ok c2 ∧ c2.st = 1 ∧ c2.toks = c.toks := by
  unfold tokenS
  rcases h with h | h
  · rw [if_pos h]
    exact ⟨_, between35 _ _, rfl, rfl⟩
  · rw [if_neg (by omega), if_pos h]
    unfold remarkS
    rw [if_neg (by omega)]
    exact ⟨_, rfl, rfl, rfl⟩
theorem rem_step (h : c.st = 1) (hr : r ≠ 10) : ∃ c2, tokenS s c r = .ok c2 ∧ c2.st = 1 ∧ c2.toks = c.toks := by
  unfold tokenS
  rw [if_neg (by omega), if_pos h]
  unfold remarkS
  rw [if_neg hr]
  exact ⟨_, rfl, rfl, rfl⟩
theorem nl_step (h : c.st = 1) : ∃ c2, tokenS s c 10 = .ok c2 ∧ c2.st = 0 ∧ c2.toks = c.toks := by
  unfold tokenS
  rw [if_neg (by omega), if_pos h]
  unfold remarkS
  rw [if_pos rfl]
  exact ⟨_, between10 _ _, rfl, rfl⟩
theorem sp_step (h : c.st = 0) : ∃ c2, tokenS s c 32 = .ok c2 ∧ c2.st = 0 ∧ c2.toks = c.toks := by
  unfold tokenS
  rw [if_pos h]
  exact ⟨_, between32 _ _, rfl, rfl⟩
/-- A token begins at the place of c (or the end of the file is there): a blank that is put in there ends what stands ahead. -/
theorem split_step {E F : ByteArray} {p : Nat} (hB : Beg E F p) (hp : c.here.2.2 = p) (hlt : c.st ≠ 0 → c.from.2.2 < p) (ht : tokenS E c r = .ok c2) (hc : c2.st ≠ 0 ∧ c2.from.2.2 = p ∨ r = 10 ∧ c2.st = 0) :
    ∃ c1 c3, betweenS E c1 r = .ok c2 ∧ c1.here = c.here ∧ tokenS F c 32 = .ok c3 ∧ (c3.st = 0 ∨ c3.st = 1) ∧ c3.toks = c1.toks := by
  have hs : sinceL F c = sinceL E c := hB.since (by omega)
  unfold tokenS at ht ⊢
  by_cases h0 : c.st = 0
  · rw [if_pos h0] at ht ⊢
    exact ⟨c, _, ht, rfl, between32 _ _, .inl rfl, rfl⟩
  have hfl := hlt h0
  rw [if_neg h0] at ht ⊢
  by_cases h1 : c.st = 1
  · rw [if_pos h1] at ht ⊢
    unfold remarkS at ht ⊢
    by_cases h10 : r = 10
    · rw [if_pos h10] at ht
      rw [if_neg (by decide)]
      exact ⟨{ c with st := 1 }, _, ht, rfl, rfl, .inr rfl, rfl⟩
    · rw [if_neg h10] at ht
      cases ht
      rcases hc with ⟨_, e⟩ | ⟨e, _⟩
      · simp only at e; omega
      · exact absurd e h10
  rw [if_neg h1] at ht ⊢
  by_cases h2 : c.st = 2
  · rw [if_pos h2] at ht ⊢
    unfold signS at ht ⊢
    have hn : isSgn (sinceL F c ++ encL 32) = false := by
      have he : encL 32 = [32] := by decide
      rw [he]
      have hall : ∀ l ∈ sgnL, l.getLast? ≠ some 32 := by decide
      unfold isSgn
      have hne : sinceL F c ++ [32] ∉ sgnL := fun hm => hall _ hm (by simp)
      simpa using hne
    rw [hn, if_neg (by decide)]
    by_cases hg : isSgn (sinceL E c ++ encL r) = true
    · rw [if_pos hg] at ht
      cases ht
      rcases hc with ⟨_, e⟩ | ⟨_, e⟩
      · simp only at e; omega
      · cases e
    · rw [if_neg hg] at ht
      exact ⟨_, _, ht, rfl, between32 _ _, .inl rfl, by rw [hs]⟩
  rw [if_neg h2] at ht ⊢
  by_cases h3 : c.st = 3
  · exfalso
    rw [if_pos h3] at ht
    unfold optionS at ht
    split at ht
    · rename_i h93
      cases ht
      rcases hc with ⟨e, _⟩ | ⟨e, _⟩
      · exact e rfl
      · omega
    · cases ht
      rcases hc with ⟨_, e⟩ | ⟨_, e⟩
      · simp only at e; omega
      · cases e
  rw [if_neg h3] at ht ⊢
  unfold textS at ht ⊢
  cases hpc : pieceS E c r with
  | took d =>
    rw [hpc] at ht
    cases ht
    obtain ⟨a1, a2, a3⟩ := piece_from hpc
    rcases hc with ⟨_, e⟩ | ⟨_, e⟩
    · rw [a1] at e; omega
    · exact absurd e (a3 (by omega))
  | bad no z => rw [hpc] at ht; cases ht
  | left d =>
    rw [hpc] at ht
    have hd := pieceS_left hpc
    subst hd
    have hpl : plainS F c 32 = .left { c with st := 4 } := by
      unfold plainS
      rw [if_neg (by decide), if_neg (by decide), if_pos (by decide)]
    have hF : pieceS F c 32 = .left { c with st := 4 } := by
      unfold pieceS at hpc ⊢
      by_cases h5 : c.st = 5
      · rw [if_pos h5] at hpc
        unfold quotedS at hpc
        split at hpc <;> cases hpc
      rw [if_neg h5] at hpc ⊢
      by_cases h6 : c.st = 6
      · rw [if_pos h6] at hpc ⊢
        unfold closingS
        rw [if_neg (by decide)]
        exact hpl
      rw [if_neg h6] at hpc ⊢
      by_cases h7 : c.st = 7
      · rw [if_pos h7] at hpc ⊢
        unfold escapeS at hpc ⊢
        by_cases hb : c.behind ≤ c.here.2.2
        · rw [if_pos hb]; exact hpl
        · rw [if_neg hb] at hpc; cases hpc
      rw [if_neg h7]
      exact hpl
    rw [hF]
    exact ⟨_, _, ht, rfl, between32 _ _, .inl rfl, rfl⟩
end
section
variable {F : ByteArray} {i : Nat} {c : Sc} {f : Nat}
theorem run_next {r w : Nat} {c2 : Sc} (hd : Utf8.decode F i = (r, w)) (hi : i < F.size) (hf : F.size + 1 ≤ i + f) (ht : tokenS F { c with here := plNext F c.here i } (r : Nat) = .ok c2) : ∃ g, F.size + 1 ≤ i + w + g ∧ runS F f i c = runS F g (i + w) c2 := by
  obtain ⟨g, rfl⟩ : ∃ g, f = g + 1 := ⟨f - 1, by omega⟩
  have hw := (dec_width F i hi).1
  rw [hd] at hw
  simp only at hw
  refine ⟨g, by omega, ?_⟩
  rw [run_to (c2 := c2) hi (by rw [hd]; exact ht), hd]
end
/-- The run over what is put in, from behind its first blank. -/
theorem run_ins {F : ByteArray} {p : Nat} {rest : List UInt8} (hF : F.data.toList.drop p = insL ++ rest) (hp : p < F.size) {c : Sc} {f : Nat} (hc : c.st = 0 ∨ c.st = 1) (hf : F.size + 1 ≤ p + 1 + f) :
    ∃ g c', F.size + 1 ≤ p + 13 + g ∧ runS F f (p + 1) c = runS F g (p + 13) c' ∧ c'.st = 0 ∧ c'.toks = c.toks := by
  have hz := drop_len hF (Nat.le_of_lt hp)
  have hl : insL.length = 13 := rfl
  rw [hl] at hz
  have hB : ∀ j, j < 13 → B F (p + j) = (insL.getD j 0).toNat := fun j hj => B_drop hF (by rw [hl]; exact hj)
  have lo : ∀ j v, j < 13 → (insL.getD j 0).toNat = v → v < 128 → Utf8.decode F (p + j) = (v, 1) := fun j v hj hv hlt => by
    have := hB j hj
    rw [hv] at this
    rw [dec_lo F _ (by omega), this]
  obtain ⟨c1, t1, s1, k1⟩ := blank_step (s := F) (c := { c with here := plNext F c.here (p + 1) }) (r := 9) hc (.inr rfl)
  obtain ⟨g1, f1, e1⟩ := run_next (r := 9) (w := 1) (lo 1 9 (by omega) rfl (by omega)) (by omega) hf t1
  obtain ⟨c2, t2, s2, k2⟩ := hash_step (s := F) (c := { c1 with here := plNext F c1.here (p + 2) }) s1
  obtain ⟨g2, f2, e2⟩ := run_next (r := 35) (w := 1) (lo 2 35 (by omega) rfl (by omega)) (by omega) f1 t2
  obtain ⟨c3, t3, s3, k3⟩ := rem_step (s := F) (c := { c2 with here := plNext F c2.here (p + 3) }) (r := (60 : Nat)) s2 (by decide)
  obtain ⟨g3, f3, e3⟩ := run_next (r := 60) (w := 1) (lo 3 60 (by omega) rfl (by omega)) (by omega) f2 t3
  obtain ⟨c4, t4, s4, k4⟩ := rem_step (s := F) (c := { c3 with here := plNext F c3.here (p + 4) }) (r := (39 : Nat)) s3 (by decide)
  obtain ⟨g4, f4, e4⟩ := run_next (r := 39) (w := 1) (lo 4 39 (by omega) rfl (by omega)) (by omega) f3 t4
  obtain ⟨c5, t5, s5, k5⟩ := rem_step (s := F) (c := { c4 with here := plNext F c4.here (p + 5) }) (r := (92 : Nat)) s4 (by decide)
  obtain ⟨g5, f5, e5⟩ := run_next (r := 92) (w := 1) (lo 5 92 (by omega) rfl (by omega)) (by omega) f4 t5
  obtain ⟨c6, t6, s6, k6⟩ := rem_step (s := F) (c := { c5 with here := plNext F c5.here (p + 6) }) (r := (91 : Nat)) s5 (by decide)
  obtain ⟨g6, f6, e6⟩ := run_next (r := 91) (w := 1) (lo 6 91 (by omega) rfl (by omega)) (by omega) f5 t6
  have d7 : Utf8.decode F (p + 7) = (233, 2) := by
    have b0 := hB 7 (by omega)
    have b1 := hB 8 (by omega)
    rw [decode_B, show p + 7 + 1 = p + 8 by omega, b0, b1]
    unfold decodeN
    rw [if_neg (by decide), if_pos ⟨by decide, by omega, by decide⟩, if_pos (by decide)]
    rfl
  obtain ⟨c7, t7, s7, k7⟩ := rem_step (s := F) (c := { c6 with here := plNext F c6.here (p + 7) }) (r := (233 : Nat)) s6 (by decide)
  obtain ⟨g7, f7, e7⟩ := run_next (r := 233) (w := 2) d7 (by omega) f6 t7
  have d9 : Utf8.decode F (p + 9) = (65533, 1) := by
    have b0 := hB 9 (by omega)
    rw [decode_B, b0]
    unfold decodeN
    rw [if_neg (by decide), if_neg (fun h => absurd h.1 (by decide)), if_neg (fun h => absurd h.1 (by decide)), if_neg (fun h => absurd h.1 (by decide))]
  obtain ⟨c8, t8, s8, k8⟩ := rem_step (s := F) (c := { c7 with here := plNext F c7.here (p + 9) }) (r := (65533 : Nat)) s7 (by decide)
  obtain ⟨g8, f8, e8⟩ := run_next (r := 65533) (w := 1) d9 (by omega) f7 t8
  obtain ⟨c9, t9, s9, k9⟩ := rem_step (s := F) (c := { c8 with here := plNext F c8.here (p + 10) }) (r := (13 : Nat)) s8 (by decide)
  obtain ⟨g9, f9, e9⟩ := run_next (r := 13) (w := 1) (lo 10 13 (by omega) rfl (by omega)) (by omega) f8 t9
  obtain ⟨c10, t10, s10, k10⟩ := nl_step (s := F) (c := { c9 with here := plNext F c9.here (p + 11) }) s9
  obtain ⟨g10, f10, e10⟩ := run_next (r := 10) (w := 1) (lo 11 10 (by omega) rfl (by omega)) (by omega) f9 t10
  obtain ⟨c11, t11, s11, k11⟩ := sp_step (s := F) (c := { c10 with here := plNext F c10.here (p + 12) }) s10
  obtain ⟨g11, f11, e11⟩ := run_next (r := 32) (w := 1) (lo 12 32 (by omega) rfl (by omega)) (by omega) f10 t11
  exact ⟨g11, c11, f11, e1.trans (e2.trans (e3.trans (e4.trans (e5.trans (e6.trans (e7.trans (e8.trans (e9.trans (e10.trans e11))))))))), s11, by rw [k11, k10, k9, k8, k7, k6, k5, k4, k3, k2, k1]⟩
/-- Kinds and texts. -/
def AnyPl (_ _ : Pl) : Prop := True
theorem TkRel.self (l : List Tk) : TkRel AnyPl l l := ⟨rfl, fun i a b ha hb => by rw [ha] at hb; cases hb; exact ⟨rfl, rfl, trivial⟩⟩
theorem TkRel.add {X X' Y Y' : List Tk} {PR : Pl → Pl → Prop} (h : TkRel PR X X') (g : TkRel PR Y Y') : TkRel PR (X ++ Y) (X' ++ Y') := by
  refine ⟨by rw [List.length_append, List.length_append, h.1, g.1], fun i a b ha hb => ?_⟩
  by_cases hi : i < X.length
  · rw [List.getElem?_append_left hi] at ha
    rw [List.getElem?_append_left (by rw [← h.1]; exact hi)] at hb
    exact h.2 i a b ha hb
  · rw [List.getElem?_append_right (by omega)] at ha
    rw [List.getElem?_append_right (by rw [← h.1]; omega), ← h.1] at hb
    exact g.2 _ a b ha hb
theorem scan_noted (s : ByteArray) {a : List Tk} (ha : scanS s = .ok a) {t : Tk} (ht : t ∈ a) (hz : s.size ≤ 500000) (hn : nlc s s.size ≤ 60000) :
    t.pl.2.2 ≤ s.size ∧ ∃ b, scanS (s.extract 0 t.pl.2.2 ++ ⟨insL.toArray⟩ ++ s.extract t.pl.2.2 s.size) = .ok b ∧ TkRel AnyPl a b := by
  obtain ⟨hok, L0, pE, hLe, hpE⟩ := scan_places s ha
  obtain ⟨cS, hrS, hS0, hplS, hzS, hltS, hlS⟩ := scan_run ha
  obtain ⟨m, hm⟩ := hok.pl t ht
  obtain ⟨p, hp⟩ : ∃ p, t.pl.2.2 = p := ⟨_, rfl⟩
  rw [hp]
  have hm' : (plN s m).2.2 = p := by rw [hm, hp]
  have hps : p ≤ s.size := by rw [← hm']; exact plN_le s m
  refine ⟨hps, ?_⟩
  obtain ⟨F, hF⟩ : ∃ F : ByteArray, F = s.extract 0 p ++ ⟨insL.toArray⟩ ++ s.extract p s.size := ⟨_, rfl⟩
  rw [← hF]
  have hsl := Lib.size_eq s
  have e1 : (s.extract 0 p).data.toList = s.data.toList.take p := by simp
  have e2 : (s.extract p s.size).data.toList = s.data.toList.drop p := by
    have : (s.extract p s.size).data.toList = seg s p s.size := rfl
    rw [this, seg_eq, hsl, List.take_length]
  have hFl : F.data.toList = s.data.toList.take p ++ (insL ++ s.data.toList.drop p) := by
    rw [hF, ByteArray.data_append, ByteArray.data_append, Array.toList_append, Array.toList_append, e1, e2, List.append_assoc]
  have htl : (s.data.toList.take p).length = p := by rw [List.length_take, ← hsl]; omega
  have hFz : F.size = s.size + 13 := by
    rw [Lib.size_eq, hFl, List.length_append, htl, List.length_append, List.length_drop, ← hsl]
    show p + (13 + _) = _
    omega
  have hFd : F.data.toList.drop p = insL ++ s.data.toList.drop p := by
    rw [hFl, List.drop_append, htl, Nat.sub_self, List.drop_of_length_le (by omega)]
    rfl
  have hFp : B F p = 32 := by
    have := B_drop (Q := F) (p := p) (E := insL) hFd (j := 0) (by decide)
    exact this
  have hB : Beg s F p := ⟨by rw [hFl, List.take_append_of_le_length (by omega), List.take_take, Nat.min_self], hps, by omega, by rw [hFp]; omega⟩
  obtain ⟨cp, f1, hA, hf1, hr1, hsp⟩ := run_beg hB ⟨m, hm'⟩ (s.size + 1) 0 c0S (F.size + 1) (.inl ⟨rfl, rfl⟩) (Nat.zero_le _) (by omega) (by omega) hrS
  have hjs := hA.js
  obtain ⟨g1, rfl⟩ : ∃ g, f1 = g + 1 := ⟨f1 - 1, by omega⟩
  have hx := (plNext_ix s cp.here p).1
  have hnl0 : (s ++ nlB).size = s.size + 1 := nl_size s
  obtain ⟨r, hr⟩ : ∃ r, (Utf8.decode (s ++ nlB) p).1 = r := ⟨_, rfl⟩
  obtain ⟨v, hv⟩ : ∃ v, (Utf8.decode (s ++ nlB) p).2 = v := ⟨_, rfl⟩
  have hwd := (dec_width (s ++ nlB) p (by omega)).1
  rw [hv] at hwd
  rw [runS, if_pos (by omega), hr, hv] at hr1
  cases ht1 : tokenS s { cp with here := plNext s cp.here p } ((r : Nat) : Int) with
  | bad no z => rw [ht1] at hr1; cases hr1
  | ok c2 =>
    rw [ht1] at hr1
    have hr1' : runS s g1 (p + v) c2 = .ok cS := hr1
    obtain ⟨q1, q2⟩ := token_from ht1
    -- all tokens so far begin ahead of p
    have hall : ∀ t ∈ c2.toks, t.pl.2.2 < p := by
      intro u hu
      have h0 : ∀ u ∈ cp.toks, u.pl.2.2 < p := fun u hu => by have := hjs.t0 u hu; simp only [hx] at this; exact this
      rcases q1 with e | ⟨n0, k, x, e⟩
      · rw [e] at hu; exact h0 u hu
      · rw [e] at hu
        rcases List.mem_append.1 hu with hu | hu
        · exact h0 u hu
        · rw [List.mem_singleton] at hu; subst hu
          have := hjs.lt n0
          simp only [hx] at this
          exact this
    have hcase : c2.st ≠ 0 ∧ c2.from.2.2 = p ∨ (r : Int) = 10 ∧ c2.st = 0 := by
      by_cases h1 : c2.st ≠ 0 ∧ c2.from.2.2 = p
      · exact .inl h1
      · right
        have hno : NoTk p c2 := ⟨fun u hu => by have := hall u hu; omega, fun h e => h1 ⟨h, e⟩⟩
        have hnoF := run_no g1 (p + v) c2 (by omega) hno hr1'
        by_cases hpz : p = s.size
        · subst hpz
          rw [decode_end] at hr hv
          have he : runS s g1 (s.size + v) c2 = .ok c2 := by
            cases g1 with
            | zero => rfl
            | succ g => rw [runS, if_neg (by omega)]
          rw [he] at hr1'
          cases hr1'
          exact ⟨by rw [← hr]; rfl, hS0⟩
        · exfalso
          rw [hlS] at ht
          rcases List.mem_append.1 ht with ht | ht
          · exact hnoF.1 t ht hp
          · rw [List.mem_singleton] at ht
            subst ht
            simp only at hp
            omega
    have hltp : cp.st ≠ 0 → cp.from.2.2 < p := fun h => by have := hjs.lt h; simp only [hx] at this; exact this
    rcases hsp with ⟨f2, hf2, hgo⟩ | ⟨h7, hbh⟩
    case inr =>
      exfalso
      have hc2 : c2.st = 7 ∧ c2.from = cp.from := by
        unfold tokenS at ht1
        simp only at ht1
        rw [if_neg (by omega), if_neg (by omega), if_neg (by omega), if_neg (by omega)] at ht1
        unfold textS pieceS at ht1
        simp only at ht1
        rw [if_neg (by omega), if_neg (by omega), if_pos h7] at ht1
        unfold escapeS at ht1
        simp only [hx] at ht1
        rw [if_neg (by omega)] at ht1
        cases ht1
        exact ⟨h7, rfl⟩
      have h1 := hltp (by omega)
      rcases hcase with ⟨_, e⟩ | ⟨_, e⟩
      · rw [hc2.2] at e; omega
      · omega
    have hpl : plNext F cp.here p = plNext s cp.here p := by
      unfold plNext
      by_cases h0 : 0 < p
      · rw [hB.at (show p - 1 < p by omega)]
      · rw [if_neg (by omega), if_neg (by omega)]
    obtain ⟨c1, c3, hb1, hh1, ht3, hs3, hk3⟩ := split_step hB (c := { cp with here := plNext s cp.here p }) (by simp only [hx]) hltp ht1 hcase
    obtain ⟨g2, hg2, hgo2⟩ := run_next (F := F) (i := p) (c := cp) (f := f2) (r := 32) (w := 1) (by rw [dec_lo F p (by omega), hFp]) (by omega) hf2 (by rw [hpl]; exact ht3)
    obtain ⟨g3, c4, hg3, hgo3, hs4, hk4⟩ := run_ins hFd (by omega) hs3 hg2
    rw [hgo2, hgo3] at hgo
    have hsame : s.data.toList.drop p = F.data.toList.drop (p + 13) := by
      rw [← List.drop_drop, hFd, List.drop_append]
      have : insL.length = 13 := rfl
      rw [List.drop_of_length_le (Nat.le_of_eq this), this]
      rfl
    obtain ⟨g3, rfl⟩ : ∃ g, g3 = g + 1 := ⟨g3 - 1, by omega⟩
    have hnl := same_nl hsame hps (by omega)
    have hdec := same_dec hnl
    have hx4 := (plNext_ix F c4.here (p + 13)).1
    obtain ⟨c2', hb2, hsim⟩ := sim_between (F := s) (G := F) (p := p) (q := p + 13) (PR := AnyPl) (T := c1.toks) (T' := c1.toks) (c := c1) (c' := { c4 with here := plNext F c4.here (p + 13) }) hsame trivial ⟨0, by rw [hh1, hx]; rfl, by simp only [hx4]⟩ ⟨[], [], by simp, by simp [hk4, hk3], rfl, fun i a b h _ => by simp at h⟩ (by rw [hh1]; simp only [hx]; exact hps) (by simp only [hx4]; omega) c2 hb1
    have ht2 : tokenS F { c4 with here := plNext F c4.here (p + 13) } ((r : Nat) : Int) = .ok c2' := by
      unfold tokenS
      rw [if_pos hs4]
      exact hb2
    have hgo4 : runS F (g3 + 1) (p + 13) c4 = runS F g3 (p + 13 + v) c2' := by
      rw [runS, if_pos (by omega), ← hdec, hr, hv, ht2]
    rw [hgo4] at hgo
    obtain ⟨cG, hG, hsG⟩ := sim_run hsame hps (by omega) (PR := AnyPl) (fun _ _ _ _ _ _ => trivial) g1 v c2 c2' cS g3 (by omega) hsim hr1' (by omega) (by omega)
    rw [hG] at hgo
    obtain ⟨X, X', x1, x2, x3⟩ := hsG.toks
    have hG0 : cG.st = 0 := hsG.st.trans hS0
    refine ⟨cG.toks ++ [⟨0, [], cG.from⟩], run_scan (s := F) (c := cG) (by omega) ?_ hgo (by omega) (by omega), ?_⟩
    · have e1 : nlc F F.size = F.data.toList.count 10 := by unfold nlc; rw [Lib.size_eq, List.take_length]
      have e2 : nlc s s.size = (s.data.toList.take p).count 10 + (s.data.toList.drop p).count 10 := by
        unfold nlc
        rw [hsl, List.take_length, ← List.count_append, List.take_append_drop]
      rw [e1, hFl, List.count_append, List.count_append]
      have : insL.count 10 = 1 := by decide
      omega
    · rw [hlS, x1, x2]
      exact TkRel.add (TkRel.add (TkRel.self _) x3) ⟨rfl, fun i a b ha hb => by
        cases i with
        | zero => simp at ha hb; subst ha; subst hb; exact ⟨rfl, rfl, trivial⟩
        | succ i => simp at ha⟩
end Go.Proofs.YtlfdpdlhppgakaaGreatDoor
/- The document's answer for scan: Blank, Signs, digit, find, begins. -/
namespace Go.Proofs.YtlfdpdlhppgakaaGreatDoor
open Go Go.RowKit Go.Kt Go.Shelf
attribute [local go_sem] Oper.semAt_some

set_option maxRecDepth 100000 in
theorem xBlank_any (c : Int) (w : World) :
    Calls Tryz.prog 43 #[.int .u8 c] w fun e w' => e = .returned (.bool (isBlk c)) ∧ w = w' := by
  go_enter Tryz.func43, Tryz.ntmps43
  go_wp2
  all_goals go_ret
  all_goals (unfold isBlk; simp [*])

def xdigI (c : Int) : Int := if 48 ≤ c ∧ c ≤ 57 then c - 48 else if 97 ≤ c ∧ c ≤ 102 then c - 87 else if 65 ≤ c ∧ c ≤ 70 then c - 55 else -1
set_option maxRecDepth 100000 in
theorem xdigit_any (c : Int) (w : World) (h0 : 0 ≤ c) (h1 : c < 256) :
    Calls Tryz.prog 98 #[.int .u8 c] w fun e w' => e = .returned (.int .i64 (xdigI c)) ∧ w = w' := by
  go_enter Tryz.func98, Tryz.ntmps98
  go_wp2
  all_goals go_ret
  all_goals (refine ⟨?_, rfl⟩; unfold xdigI)
  all_goals first
    | (exfalso; omega)
    | (rw [if_pos (by omega)]; rfl)
    | (rw [if_neg (by omega), if_pos (by omega)]; simp; omega)
    | (rw [if_neg (by omega), if_neg (by omega), if_pos (by omega)]; simp; omega)
    | (rw [if_neg (by omega), if_neg (by omega), if_neg (by omega)]; rfl)

theorem sgs_bAt : ∀ k, k < 11 → bAt sgsB k = sgsI.getD k 0 := by decide
theorem sgs_take (c : Int) : ∀ k, k < 11 → (sgsI.take (k + 1)).contains c = ((sgsI.take k).contains c || (sgsI.getD k 0 == c)) := by
  intro k hk
  have : sgsI.take (k + 1) = sgsI.take k ++ [sgsI.getD k 0] := by
    have : ∀ k, k < 11 → sgsI.take (k + 1) = sgsI.take k ++ [sgsI.getD k 0] := by decide
    exact this k hk
  rw [this]
  rw [Bool.eq_iff_iff, Bool.or_eq_true, List.contains_iff_mem, List.contains_iff_mem, List.mem_append, List.mem_singleton, beq_iff_eq]
  constructor
  · rintro (h | h)
    · exact .inl h
    · exact .inr h.symm
  · rintro (h | h)
    · exact .inl h
    · exact .inr h.symm
set_option maxRecDepth 100000 in
theorem xSigns_any (c : Int) (w : World) :
    Calls Tryz.prog 37 #[.int .u8 c] w fun e w' => e = .returned (.bool (isSgs c)) ∧ w = w' := by
  obtain ⟨S, hS⟩ : ∃ S : ByteArray, sgsB = S := ⟨_, rfl⟩
  have hz : Hid (S.size = 11) := Lib.hid (by rw [← hS]; rfl)
  have HSS := Lib.hid hS
  clear hS
  go_enter Tryz.func37, Tryz.ntmps37
  go_wp2
  rw [show (⟨#[38, 60, 61, 47, 45, 91, 93, 35, 42, 39, 92]⟩ : ByteArray) = S from HSS.out]
  have hS := HSS.out
  have hz := hz.out
  go_loop [4] (fun v => ∃ k : Nat, k ≤ 11 ∧ v = .int .i64 k ∧ (sgsI.take k).contains c = false) (fun v => 11 - (RowKit.intOf v).toNat)
  case atStart => exact ⟨0, by omega, rfl, rfl⟩
  case round =>
    obtain ⟨k, hk, rfl, hc⟩ := hrel
    by_cases hlt : k < 11
    · have HI : ∀ w, (Instr.index 9 (.string S) (.int .i64 (k : Nat))).run Tryz.prog w = .ok (.int .u8 (bAt S k)) w := fun w => run_bAt S k (by omega) w
      have hb : bAt S k = sgsI.getD k 0 := by rw [← hS]; exact sgs_bAt k hlt
      have ht := sgs_take c k hlt
      rw [hc, Bool.false_or] at ht
      generalize bAt S k = b at *
      rw [← hb] at ht
      have h11 : (k : Int) < 11 := by omega
      by_cases he : b = c
      · have hbe : (b == c) = true := by simpa using he
        have hT : isSgs c = true := by
          rw [hbe] at ht
          unfold isSgs
          rw [List.contains_iff_mem] at ht ⊢
          exact List.mem_of_mem_take ht
        have HT := Lib.hid hT
        subst he
        clear hT ht hb hc hS
        go_wp2
        go_ret
        exact ⟨by rw [HT.out]; rfl, rfl⟩
      · have hbe : (b == c) = false := by simpa using he
        rw [hbe] at ht
        have HT := Lib.hid ht
        clear ht hb hc hS he
        go_wp2
        go_round
        case rel => exact ⟨k + 1, by omega, by go_num, HT.out⟩
        case measure => simp [RowKit.intOf]; omega
    · obtain rfl : k = 11 := by omega
      have hT : isSgs c = false := hc
      have HT := Lib.hid hT
      clear hT hc hS
      go_wp2
      go_ret
      exact ⟨by rw [HT.out]; rfl, rfl⟩

def xfindF (s : ByteArray) (c : Int) : Nat → Nat → Int
  | 0, _ => -1
  | f + 1, i => if i < s.size then (if bAt s i = c then (i : Int) else xfindF s c f (i + 1)) else -1
def xfindI (s : ByteArray) (c : Int) (i : Nat) : Int := xfindF s c s.size i
set_option maxRecDepth 100000 in
theorem xfind_any (s : ByteArray) (i : Nat) (c : Int) (w : World) (hs : s.size ≤ 140737488351232) (hi : i ≤ s.size) :
    Calls Tryz.prog 39 #[.string s, .int .i64 (i : Nat), .int .u8 c] w fun e w' => e = .returned (.int .i64 (xfindI s c i)) ∧ w = w' := by
  obtain ⟨R, hR⟩ : ∃ R, xfindI s c i = R := ⟨_, rfl⟩
  rw [hR]
  have HR := Lib.hid hR
  clear hR
  go_enter Tryz.func39, Tryz.ntmps39
  go_wp2
  go_loop [1] (fun v => ∃ k f : Nat, k ≤ s.size ∧ s.size ≤ k + f ∧ v = .int .i64 k ∧ xfindF s c f k = R) (fun v => s.size - (RowKit.intOf v).toNat)
  case atStart => exact ⟨i, s.size, hi, by omega, rfl, HR.out⟩
  case round =>
    obtain ⟨k, f, hk, hf, rfl, hc⟩ := hrel
    by_cases hlt : k < s.size
    · have HI : ∀ w, (Instr.index 9 (.string s) (.int .i64 (k : Nat))).run Tryz.prog w = .ok (.int .u8 (bAt s k)) w := fun w => run_bAt s k hlt w
      obtain ⟨f', rfl⟩ : ∃ f', f = f' + 1 := ⟨f - 1, by omega⟩
      rw [xfindF, if_pos hlt] at hc
      generalize bAt s k = b at *
      have hlt' : (k : Int) < s.size := by omega
      by_cases he : b = c
      · have hbe : (b == c) = true := by simpa using he
        rw [if_pos he] at hc
        have HT := Lib.hid hc
        subst he
        clear hc
        go_wp2
        go_ret
        exact ⟨by rw [← HT.out]; rfl, rfl⟩
      · have hbe : (b == c) = false := by simpa using he
        rw [if_neg he] at hc
        have HT := Lib.hid hc
        clear hc he
        go_wp2
        go_round
        case rel => exact ⟨k + 1, f', by omega, by omega, by go_num, HT.out⟩
        case measure => simp [RowKit.intOf]; omega
    · have hR1 : R = -1 := by
        rw [← hc]
        cases f with
        | zero => rfl
        | succ f => rw [xfindF, if_neg hlt]
      have HT := Lib.hid hR1
      have hge : ¬ (k : Int) < s.size := by omega
      clear hR1 hc
      go_wp2
      go_ret
      exact ⟨by rw [HT.out]; rfl, rfl⟩
end Go.Proofs.YtlfdpdlhppgakaaGreatDoor
/- The document's answer for scan, in plain words: a sign, a text, a token; and what the scanner's run makes of each. No run in this text. -/
namespace Go.Proofs.YtlfdpdlhppgakaaGreatDoor
open Go Go.RowKit Go.Kt Go.Kt.Rg Go.Shelf Go.Lib

/-- The number of the unit at a byte; behind the file a line end. -/
def rU (s : ByteArray) (i : Nat) : Nat := if i < s.size then (Utf8.decode s i).1 else 10
theorem B_in {s : ByteArray} {i : Nat} (h : B s i ≠ 0) : i < s.size := by
  by_cases hi : i < s.size
  · exact hi
  · exfalso
    apply h
    unfold B
    rw [List.getD_eq_getElem?_getD, List.getElem?_eq_none (by rw [← Lib.size_eq]; omega)]
    rfl
theorem seg_more {s : ByteArray} {p k : Nat} (h : p + k < s.size) : seg s p (p + (k + 1)) = seg s p (p + k) ++ [UInt8.ofNat (B s (p + k))] := by
  have h1 : seg s p (p + (k + 1)) = seg s p (p + k) ++ seg s (p + k) (p + k + 1) := by
    rw [seg_eq, seg_eq, seg_eq, List.drop_take, List.drop_take, List.drop_take, show p + (k + 1) - p = k + 1 by omega, show p + k - p = k by omega, show p + k + 1 - (p + k) = 1 by omega, List.take_add, List.drop_drop]
  rw [h1, one_byte h]
theorem seg_none (s : ByteArray) (p : Nat) : seg s p p = [] := by
  rw [seg_eq, List.drop_take, Nat.sub_self, List.take_zero]
theorem rU_lo {s : ByteArray} {i : Nat} (hi : i < s.size) (h : B s i < 128) : rU s i = B s i := by
  unfold rU
  rw [if_pos hi, dec_lo s i h]
theorem rU_in {s : ByteArray} {i : Nat} (hi : i < s.size) : rU s i = (Utf8.decode s i).1 := by unfold rU; rw [if_pos hi]
theorem rU_out {s : ByteArray} {i : Nat} (hi : ¬ i < s.size) : rU s i = 10 := by unfold rU; rw [if_neg hi]
theorem rU_B {s : ByteArray} {i : Nat} (h : rU s i < 128) : (i < s.size ∧ B s i = rU s i) ∨ ¬ i < s.size ∧ rU s i = 10 := by
  by_cases hi : i < s.size
  · rw [rU_in hi] at h ⊢
    exact .inl ⟨hi, (dec_r_lo h).1⟩
  · exact .inr ⟨hi, rU_out hi⟩
set_option maxRecDepth 100000 in
theorem encL_lo (r : Nat) (h : r < 128) : encL (r : Nat) = [UInt8.ofNat r] := by
  have he : (Utf8.encode (r : Nat)).data.toList = [UInt8.ofNat r] := (by decide +kernel : ∀ r : Nat, r < 128 → (Utf8.encode (r : Nat)).data.toList = [UInt8.ofNat r]) r h
  exact he
theorem sgn_lo (l : List UInt8) (hl : l ∈ sgnL) (c : UInt8) (hc : c ∈ l) : c.toNat < 128 := by
  have h : (sgnL.all fun l => l.all fun c => decide (c.toNat < 128)) = true := by decide +kernel
  exact of_decide_eq_true (List.all_eq_true.1 (List.all_eq_true.1 h l hl) c hc)
theorem v65 : Utf8.valid ((65533 : Nat) : Int) = true := by decide +kernel
set_option maxRecDepth 100000 in
theorem enc_hiL {s : ByteArray} {i : Nat} (h : 128 ≤ (Utf8.decode s i).1) : ∃ c ∈ encL ((Utf8.decode s i).1 : Nat), 128 ≤ c.toNat := by
  have hv : Utf8.valid ((Utf8.decode s i).1 : Nat) = true := by
    by_cases hw : (Utf8.decode s i).1 = 65533 ∧ (Utf8.decode s i).2 = 1
    · rw [hw.1]; exact v65
    rw [decode_B] at hw h ⊢
    revert hw h
    unfold decodeN
    repeat' split
    all_goals (intro hw h; simp only at hw h ⊢; first | (exfalso; omega) | (simp only [Utf8.valid, Bool.or_eq_true, Bool.and_eq_true, decide_eq_true_iff]; omega) | (exact absurd ⟨rfl, rfl⟩ hw))
  obtain ⟨q1, q2, q3⟩ := enc_hi ((Utf8.decode s i).1 : Nat) (by omega) hv
  have hl : (encL ((Utf8.decode s i).1 : Nat)).length = (Utf8.encode ((Utf8.decode s i).1 : Nat)).size := (Lib.size_eq _).symm
  cases he : encL ((Utf8.decode s i).1 : Nat) with
  | nil => rw [he] at hl; simp at hl; omega
  | cons a t => exact ⟨a, .head _, q3 a (by show a ∈ encL _; rw [he]; exact .head _)⟩
/-- A unit that no ASCII byte is makes no sign longer. -/
theorem sgn_hi {s : ByteArray} {i : Nat} (l : List UInt8) (h : 128 ≤ rU s i) : isSgn (l ++ encL (rU s i : Nat)) = false := by
  by_cases hi : i < s.size
  · rw [rU_in hi] at h ⊢
    obtain ⟨c, hc, h8⟩ := enc_hiL h
    have : l ++ encL ((Utf8.decode s i).1 : Nat) ∉ sgnL := fun hm => by
      have := sgn_lo _ hm c (List.mem_append_right _ hc)
      omega
    unfold isSgn
    simpa using this
  · rw [rU_out hi] at h; omega

/-- How long the sign is that stands at a byte; 0: none does. -/
def sgnN (s : ByteArray) (i : Nat) : Nat :=
  if B s i = 60 then
    (if B s (i + 1) = 60 then (if B s (i + 2) = 60 then (if B s (i + 3) = 42 then 4 else 3) else if B s (i + 2) = 42 then 3 else 2)
     else if B s (i + 1) = 42 then 2 else 1)
  else if B s i = 61 then (if B s (i + 1) = 42 then 2 else 1)
  else if B s i = 38 ∨ B s i = 47 ∨ B s i = 45 then 1 else 0
theorem stop_of {s : ByteArray} {i : Nat} {l : List UInt8} (hd : ∀ r : Nat, r < 128 → isSgn (l ++ [UInt8.ofNat r]) = false) : isSgn (l ++ encL (rU s i : Nat)) = false := by
  by_cases h : rU s i < 128
  · rw [encL_lo _ h]; exact hd _ h
  · exact sgn_hi l (by omega)
theorem stop_ne {s : ByteArray} {i : Nat} {l : List UInt8} (a : Nat) (ha : B s i ≠ a) (h10 : a ≠ 10) (hd : ∀ r : Nat, r < 128 → r ≠ a → isSgn (l ++ [UInt8.ofNat r]) = false) : isSgn (l ++ encL (rU s i : Nat)) = false := by
  by_cases h : rU s i < 128
  · rw [encL_lo _ h]
    refine hd _ h ?_
    rcases rU_B h with ⟨_, e⟩ | ⟨_, e⟩
    · rw [← e]; exact ha
    · rw [e]; exact h10.symm
  · exact sgn_hi l (by omega)
theorem stop_ne2 {s : ByteArray} {i : Nat} {l : List UInt8} (a b : Nat) (ha : B s i ≠ a) (hb : B s i ≠ b) (h10 : a ≠ 10) (h11 : b ≠ 10) (hd : ∀ r : Nat, r < 128 → r ≠ a → r ≠ b → isSgn (l ++ [UInt8.ofNat r]) = false) : isSgn (l ++ encL (rU s i : Nat)) = false := by
  by_cases h : rU s i < 128
  · rw [encL_lo _ h]
    rcases rU_B h with ⟨_, e⟩ | ⟨_, e⟩
    · exact hd _ h (by rw [← e]; exact ha) (by rw [← e]; exact hb)
    · exact hd _ h (by rw [e]; exact h10.symm) (by rw [e]; exact h11.symm)
  · exact sgn_hi l (by omega)
theorem sgn_stop (s : ByteArray) (p : Nat) (h : sgnN s p ≠ 0) :
    p + sgnN s p ≤ s.size ∧ isSgn (seg s p (p + sgnN s p) ++ encL (rU s (p + sgnN s p) : Nat)) = false ∧ (∀ k, k < sgnN s p → B s (p + k) < 128 ∧ isSgn (seg s p (p + k) ++ encL (B s (p + k) : Nat)) = true) ∧ isSgn (seg s p (p + sgnN s p)) = true := by
  have s1 : p < s.size → seg s p (p + 1) = [UInt8.ofNat (B s p)] := fun h => by have e := seg_more (s := s) (p := p) (k := 0) h; simpa [seg_none] using e
  have s2 : p + 1 < s.size → seg s p (p + 2) = [UInt8.ofNat (B s p), UInt8.ofNat (B s (p + 1))] := fun h => by rw [seg_more (k := 1) h, s1 (by omega)]; rfl
  have s3 : p + 2 < s.size → seg s p (p + 3) = [UInt8.ofNat (B s p), UInt8.ofNat (B s (p + 1)), UInt8.ofNat (B s (p + 2))] := fun h => by rw [seg_more (k := 2) h, s2 (by omega)]; rfl
  have s4 : p + 3 < s.size → seg s p (p + 4) = [UInt8.ofNat (B s p), UInt8.ofNat (B s (p + 1)), UInt8.ofNat (B s (p + 2)), UInt8.ofNat (B s (p + 3))] := fun h => by rw [seg_more (k := 3) h, s3 (by omega)]; rfl
  have k0 : seg s p (p + 0) = [] := seg_none s p
  unfold sgnN at h ⊢
  by_cases a : B s p = 60
  · have i0 := B_in (s := s) (i := p) (by omega)
    rw [if_pos a] at h ⊢
    by_cases b : B s (p + 1) = 60
    · have i1 := B_in (s := s) (i := p + 1) (by omega)
      rw [if_pos b] at h ⊢
      by_cases c : B s (p + 2) = 60
      · have i2 := B_in (s := s) (i := p + 2) (by omega)
        rw [if_pos c] at h ⊢
        by_cases d : B s (p + 3) = 42
        · have i3 := B_in (s := s) (i := p + 3) (by omega)
          rw [if_pos d]
          refine ⟨by omega, ?_, fun k hk => ?_, by rw [s4 i3, a, b, c, d]; decide⟩
          · rw [s4 i3, a, b, c, d]; exact stop_of (by decide +kernel)
          · rcases (by omega : k = 0 ∨ k = 1 ∨ k = 2 ∨ k = 3) with rfl | rfl | rfl | rfl
            · rw [k0, Nat.add_zero, a]; decide
            · rw [s1 i0, a, b]; decide
            · rw [s2 i1, a, b, c]; decide
            · rw [s3 i2, a, b, c, d]; decide
        · rw [if_neg d]
          refine ⟨by omega, ?_, fun k hk => ?_, by rw [s3 i2, a, b, c]; decide⟩
          · rw [s3 i2, a, b, c]; exact stop_ne 42 d (by decide) (by decide +kernel)
          · rcases (by omega : k = 0 ∨ k = 1 ∨ k = 2) with rfl | rfl | rfl
            · rw [k0, Nat.add_zero, a]; decide
            · rw [s1 i0, a, b]; decide
            · rw [s2 i1, a, b, c]; decide
      · rw [if_neg c] at h ⊢
        by_cases d : B s (p + 2) = 42
        · have i2 := B_in (s := s) (i := p + 2) (by omega)
          rw [if_pos d]
          refine ⟨by omega, ?_, fun k hk => ?_, by rw [s3 i2, a, b, d]; decide⟩
          · rw [s3 i2, a, b, d]; exact stop_of (by decide +kernel)
          · rcases (by omega : k = 0 ∨ k = 1 ∨ k = 2) with rfl | rfl | rfl
            · rw [k0, Nat.add_zero, a]; decide
            · rw [s1 i0, a, b]; decide
            · rw [s2 i1, a, b, d]; decide
        · rw [if_neg d]
          refine ⟨by omega, ?_, fun k hk => ?_, by rw [s2 i1, a, b]; decide⟩
          · rw [s2 i1, a, b]; exact stop_ne2 60 42 c d (by decide) (by decide) (by decide +kernel)
          · rcases (by omega : k = 0 ∨ k = 1) with rfl | rfl
            · rw [k0, Nat.add_zero, a]; decide
            · rw [s1 i0, a, b]; decide
    · rw [if_neg b] at h ⊢
      by_cases c : B s (p + 1) = 42
      · have i1 := B_in (s := s) (i := p + 1) (by omega)
        rw [if_pos c]
        refine ⟨by omega, ?_, fun k hk => ?_, by rw [s2 i1, a, c]; decide⟩
        · rw [s2 i1, a, c]; exact stop_of (by decide +kernel)
        · rcases (by omega : k = 0 ∨ k = 1) with rfl | rfl
          · rw [k0, Nat.add_zero, a]; decide
          · rw [s1 i0, a, c]; decide
      · rw [if_neg c]
        refine ⟨by omega, ?_, fun k hk => ?_, by rw [s1 i0, a]; decide⟩
        · rw [s1 i0, a]; exact stop_ne2 60 42 b c (by decide) (by decide) (by decide +kernel)
        · obtain rfl : k = 0 := by omega
          rw [k0, Nat.add_zero, a]; decide
  rw [if_neg a] at h ⊢
  by_cases b : B s p = 61
  · have i0 := B_in (s := s) (i := p) (by omega)
    rw [if_pos b] at h ⊢
    by_cases c : B s (p + 1) = 42
    · have i1 := B_in (s := s) (i := p + 1) (by omega)
      rw [if_pos c]
      refine ⟨by omega, ?_, fun k hk => ?_, by rw [s2 i1, b, c]; decide⟩
      · rw [s2 i1, b, c]; exact stop_of (by decide +kernel)
      · rcases (by omega : k = 0 ∨ k = 1) with rfl | rfl
        · rw [k0, Nat.add_zero, b]; decide
        · rw [s1 i0, b, c]; decide
    · rw [if_neg c]
      refine ⟨by omega, ?_, fun k hk => ?_, by rw [s1 i0, b]; decide⟩
      · rw [s1 i0, b]; exact stop_ne 42 c (by decide) (by decide +kernel)
      · obtain rfl : k = 0 := by omega
        rw [k0, Nat.add_zero, b]; decide
  rw [if_neg b] at h ⊢
  by_cases c : B s p = 38 ∨ B s p = 47 ∨ B s p = 45
  · have i0 := B_in (s := s) (i := p) (by omega)
    rw [if_pos c]
    refine ⟨by omega, ?_, fun k hk => ?_, ?_⟩
    · rw [s1 i0]; rcases c with c | c | c <;> (rw [c]; exact stop_of (by decide +kernel))
    · obtain rfl : k = 0 := by omega
      rw [k0, Nat.add_zero]; rcases c with c | c | c <;> (rw [c]; decide)
    · rw [s1 i0]; rcases c with c | c | c <;> (rw [c]; decide)
  · rw [if_neg c] at h; exact absurd rfl h

/-- The scanner stands between two tokens, ahead of the unit at i: T were told. -/
def BT (s : ByteArray) (i : Nat) (c : Sc) (T : List Tk) : Prop :=
  ∃ cc : Sc, cc.here = plNext s c.here i ∧ cc.toks = T ∧ tokenS s { c with here := plNext s c.here i } (rU s i : Nat) = betweenS s cc (rU s i : Nat)
def Fu (s : ByteArray) (i f : Nat) : Prop := s.size + 1 ≤ i + f
section
variable {s : ByteArray} {i f : Nat} {c c2 : Sc}
theorem run_step (ha : Ahead s i c) (hi : i < s.size) (hf : Fu s i f) (ht : tokenS s { c with here := plNext s c.here i } (rU s i : Nat) = .ok c2) :
    ∃ f', runS s f i c = runS s f' (i + (Utf8.decode s i).2) c2 ∧ Ahead s (i + (Utf8.decode s i).2) c2 ∧ Fu s (i + (Utf8.decode s i).2) f' ∧ c2.here = plNext s c.here i := by
  unfold Fu at hf ⊢
  obtain ⟨g, rfl⟩ : ∃ g, f = g + 1 := ⟨f - 1, by omega⟩
  rw [rU_in hi] at ht
  obtain ⟨h1, h2⟩ := ha.step hi ht
  have hw := (dec_width s i hi).1
  exact ⟨g, run_to hi ht, h1, by omega, h2⟩
theorem run_bad {no : Nat} {p : Pl} (hi : i ≤ s.size) (hf : Fu s i f) (ht : tokenS s { c with here := plNext s c.here i } (rU s i : Nat) = .bad no p) : runS s f i c = .bad no p := by
  unfold Fu at hf
  obtain ⟨g, rfl⟩ : ∃ g, f = g + 1 := ⟨f - 1, by omega⟩
  rw [runS, if_pos (by omega)]
  by_cases h : i < s.size
  · rw [rU_in h] at ht
    rw [decode_nl s i h, ht]
  · obtain rfl : i = s.size := by omega
    rw [rU_out h] at ht
    rw [decode_end, ht]
theorem run_fin (hf : Fu s s.size f) (ht : tokenS s { c with here := plNext s c.here s.size } (10 : Nat) = .ok c2) : runS s f s.size c = .ok c2 := by
  unfold Fu at hf
  obtain ⟨g, rfl⟩ : ∃ g, f = g + 1 := ⟨f - 1, by omega⟩
  rw [runS, if_pos (by omega), decode_end, ht]
  show runS s g (s.size + 1) c2 = .ok c2
  cases g with
  | zero => rfl
  | succ g => rw [runS, if_neg (by omega)]
theorem Ahead.pl (ha : Ahead s i c) : (∃ n, plN s n = plNext s c.here i) ∧ (plNext s c.here i).2.2 = i := ⟨ha.js.here, (plNext_ix s c.here i).1⟩
theorem BT.of0 (h0 : c.st = 0) : BT s i c c.toks := ⟨{ c with here := plNext s c.here i }, rfl, rfl, token0 h0⟩
/-- An ASCII byte is a unit of its own. -/
theorem asc_fit {j : Nat} (hij : i < j) (hj : B s j < 128) (hjz : j < s.size) : i + (Utf8.decode s i).2 ≤ j := by
  have hi : i < s.size := by omega
  by_cases hw : (Utf8.decode s i).2 = 1
  · omega
  have h128 : 128 ≤ (Utf8.decode s i).1 := by
    by_cases h : (Utf8.decode s i).1 < 128
    · exact absurd (dec_r_lo h).2 hw
    · omega
  by_cases hle : i + (Utf8.decode s i).2 ≤ j
  · exact hle
  · exfalso
    have := dec_hi_bytes h128 (fun h => hw h.2) (j - i) (by omega)
    rw [show i + (j - i) = j by omega] at this
    omega
end
end Go.Proofs.YtlfdpdlhppgakaaGreatDoor
/- What the scanner's run makes of blanks, remarks, signs, options. No run in this text. -/
namespace Go.Proofs.YtlfdpdlhppgakaaGreatDoor
open Go Go.RowKit Go.Kt Go.Kt.Rg Go.Shelf Go.Lib

theorem xfindF_spec (s : ByteArray) (c : Nat) : ∀ (f i : Nat), i ≤ s.size → s.size ≤ i + f →
    (xfindF s (c : Nat) f i = -1 ∧ ∀ j, i ≤ j → j < s.size → B s j ≠ c) ∨ ∃ j, xfindF s (c : Nat) f i = (j : Nat) ∧ i ≤ j ∧ j < s.size ∧ B s j = c ∧ ∀ k, i ≤ k → k < j → B s k ≠ c := by
  intro f
  induction f with
  | zero => intro i h1 h2; exact .inl ⟨rfl, fun j h3 h4 => by omega⟩
  | succ f ih =>
    intro i h1 h2
    rw [xfindF]
    by_cases hi : i < s.size
    · rw [if_pos hi]
      by_cases hb : B s i = c
      · rw [if_pos (by rw [bAt_B, hb])]
        exact .inr ⟨i, rfl, Nat.le_refl _, hi, hb, fun k h3 h4 => by omega⟩
      · rw [if_neg (by rw [bAt_B]; omega)]
        rcases ih (i + 1) (by omega) (by omega) with ⟨e, h⟩ | ⟨j, e, h3, h4, h5, h6⟩
        · refine .inl ⟨e, fun j h3 h4 => ?_⟩
          rcases Nat.lt_or_ge i j with h | h
          · rename_i hh; exact hh j (by omega) h4
          · obtain rfl : j = i := by omega
            exact hb
        · refine .inr ⟨j, e, by omega, h4, h5, fun k h7 h8 => ?_⟩
          rcases Nat.lt_or_ge i k with h | h
          · exact h6 k (by omega) h8
          · obtain rfl : k = i := by omega
            exact hb
    · rw [if_neg hi]
      exact .inl ⟨rfl, fun j h3 h4 => by omega⟩
theorem xfindI_spec (s : ByteArray) (c i : Nat) (hi : i ≤ s.size) :
    (xfindI s (c : Nat) i = -1 ∧ ∀ j, i ≤ j → j < s.size → B s j ≠ c) ∨ ∃ j, xfindI s (c : Nat) i = (j : Nat) ∧ i ≤ j ∧ j < s.size ∧ B s j = c ∧ ∀ k, i ≤ k → k < j → B s k ≠ c :=
  xfindF_spec s c s.size i hi (by omega)

theorem rU_two {s : ByteArray} {i : Nat} (hi : i < s.size) : (B s i < 128 ∧ rU s i = B s i) ∨ 128 ≤ B s i ∧ 128 ≤ rU s i := by
  by_cases h : B s i < 128
  · exact .inl ⟨h, rU_lo hi h⟩
  · refine .inr ⟨by omega, ?_⟩
    by_cases h2 : rU s i < 128
    · rcases rU_B h2 with ⟨_, e⟩ | ⟨h3, _⟩
      · omega
      · exact absurd hi h3
    · omega
theorem rU_is {s : ByteArray} {i a : Nat} (hi : i < s.size) (ha : a < 128) : rU s i = a ↔ B s i = a := by
  rcases rU_two hi with ⟨h, e⟩ | ⟨h, e⟩
  · rw [e]
  · constructor <;> (intro h2; omega)
theorem rU_isZ {s : ByteArray} {i : Nat} {a : Nat} (hi : i < s.size) (ha : a < 128) : ((rU s i : Nat) : Int) = (a : Nat) ↔ B s i = a := by
  rw [← rU_is hi ha]; omega
theorem isBlk_hi {r : Nat} (h : 128 ≤ r) : isBlk (r : Nat) = false := by
  unfold isBlk
  simp only [Bool.or_eq_false_iff, beq_eq_false_iff_ne, ne_eq]
  omega
theorem rU_blk {s : ByteArray} {i : Nat} (hi : i < s.size) : isBlk (rU s i : Nat) = isBlk (B s i : Nat) := by
  rcases rU_two hi with ⟨h, e⟩ | ⟨h, e⟩
  · rw [e]
  · rw [isBlk_hi e, isBlk_hi h]
theorem rU_sgs {s : ByteArray} {i : Nat} (hi : i < s.size) : isSgs (rU s i : Nat) = isSgs (B s i : Nat) := by
  rcases rU_two hi with ⟨h, e⟩ | ⟨h, e⟩
  · rw [e]
  · rw [isSgs_hi _ (by omega), isSgs_hi _ (by omega)]
theorem blk_asc {b : Nat} (h : isBlk (b : Nat) = true) : b < 128 := by
  by_cases hb : b < 128
  · exact hb
  · rw [isBlk_hi (by omega)] at h; cases h

/-- A run over units that keep to Q, up to j. -/
theorem run_hold {s : ByteArray} (Q : Nat → Sc → Prop) (i0 j : Nat) (hj : j ≤ s.size)
    (hst : ∀ q c, i0 ≤ q → q < j → q < s.size → Ahead s q c → Q q c → q + (Utf8.decode s q).2 ≤ j ∧ ∃ c2, tokenS s { c with here := plNext s c.here q } (rU s q : Nat) = .ok c2 ∧ Q (q + (Utf8.decode s q).2) c2) :
    ∀ (n q : Nat) (c : Sc) (f : Nat), j - q ≤ n → i0 ≤ q → q ≤ j → Ahead s q c → Q q c → Fu s q f → ∃ c' f', Ahead s j c' ∧ Q j c' ∧ Fu s j f' ∧ runS s f q c = runS s f' j c' := by
  intro n
  induction n with
  | zero =>
    intro q c f h1 h2 h3 ha hq hf
    obtain rfl : q = j := by omega
    exact ⟨c, f, ha, hq, hf, rfl⟩
  | succ n ih =>
    intro q c f h1 h2 h3 ha hq hf
    by_cases h : q < j
    · obtain ⟨hle, c2, ht, hq2⟩ := hst q c h2 h (by omega) ha hq
      obtain ⟨f', e, ha2, hf2, _⟩ := run_step ha (by omega) hf ht
      have hw := (dec_width s q (by omega)).1
      obtain ⟨c', f'', g1, g2, g3, g4⟩ := ih _ c2 f' (by omega) (by omega) hle ha2 hq2 hf2
      exact ⟨c', f'', g1, g2, g3, e.trans g4⟩
    · obtain rfl : q = j := by omega
      exact ⟨c, f, ha, hq, hf, rfl⟩
theorem fit {s : ByteArray} {q j : Nat} (hq : q < j) (hj : j = s.size ∨ j < s.size ∧ B s j < 128) : q + (Utf8.decode s q).2 ≤ j := by
  rcases hj with rfl | ⟨h1, h2⟩
  · exact (dec_width s q hq).2.2
  · exact asc_fit hq h2 h1

section
variable {s : ByteArray} {i f : Nat} {c : Sc} {T : List Tk}
/-- A remark, up to its line's end. -/
theorem rem_run {q j : Nat} (hq : q ≤ j) (hj : j = s.size ∨ j < s.size ∧ B s j = 10) (hn : ∀ k, q ≤ k → k < j → B s k ≠ 10) (ha : Ahead s q c) (h1 : c.st = 1) (hT : c.toks = T) (hf : Fu s q f) :
    ∃ c' f', Ahead s j c' ∧ BT s j c' T ∧ Fu s j f' ∧ runS s f q c = runS s f' j c' := by
  have hjz : j ≤ s.size := by rcases hj with h | h <;> omega
  obtain ⟨c', f', g1, ⟨g2, g3⟩, g4, g5⟩ := run_hold (s := s) (fun _ c => c.st = 1 ∧ c.toks = T) q j hjz (fun q2 c2 h2 h3 h4 _ hc => by
    refine ⟨fit h3 (by rcases hj with h | h; exact .inl h; exact .inr ⟨h.1, by omega⟩), ?_⟩
    have hne : rU s q2 ≠ 10 := fun h => hn q2 h2 h3 ((rU_is h4 (by decide)).1 h)
    obtain ⟨c3, e1, e2, e3⟩ := rem_step (s := s) (c := { c2 with here := plNext s c2.here q2 }) (r := (rU s q2 : Nat)) hc.1 (by omega)
    exact ⟨c3, e1, e2, e3.trans hc.2⟩) (j - q) q c f (Nat.le_refl _) (Nat.le_refl _) hq ha ⟨h1, hT⟩ hf
  refine ⟨c', f', g1, ⟨{ c' with here := plNext s c'.here j, st := 1 }, rfl, g3, ?_⟩, g4, g5⟩
  have hr : rU s j = 10 := by
    rcases hj with h | ⟨h, hb⟩
    · exact rU_out (by omega)
    · exact (rU_is h (by decide)).2 hb
  rw [hr]
  unfold tokenS
  rw [if_neg (by simp [g2]), if_pos (by simp [g2])]
  unfold remarkS
  rw [if_pos (by decide)]
theorem BT.step {c2 : Sc} {cc : Sc} {r : Int} (h : tokenS s { c with here := plNext s c.here i } r = betweenS s cc r) (hb : betweenS s cc r = .ok c2) : tokenS s { c with here := plNext s c.here i } r = .ok c2 := h.trans hb

/-- The first byte from i on that is neither a blank's nor a remark's. -/
def xpastF (s : ByteArray) : Nat → Nat → Nat
  | 0, i => i
  | f + 1, i => if i < s.size then (if isBlk (B s i : Nat) = true then xpastF s f (i + 1) else if B s i = 35 then (if xfindI s (10 : Nat) i < 0 then s.size else xpastF s f (xfindI s (10 : Nat) i).toNat) else i) else i
theorem past_run : ∀ (g i : Nat) (c : Sc) (f : Nat), Ahead s i c → BT s i c T → s.size ≤ i + g → Fu s i f →
    xpastF s g i ≤ s.size ∧ i ≤ xpastF s g i ∧ (xpastF s g i < s.size → isBlk (B s (xpastF s g i) : Nat) = false ∧ B s (xpastF s g i) ≠ 35) ∧
    ∃ c' f', Ahead s (xpastF s g i) c' ∧ BT s (xpastF s g i) c' T ∧ Fu s (xpastF s g i) f' ∧ runS s f i c = runS s f' (xpastF s g i) c' := by
  intro g
  induction g with
  | zero =>
    intro i c f ha hb hg hf
    have := ha.le
    rw [xpastF]
    exact ⟨this, Nat.le_refl _, fun h => by omega, c, f, ha, hb, hf, rfl⟩
  | succ g ih =>
    intro i c f ha hb hg hf
    have hle := ha.le
    rw [xpastF]
    by_cases hi : i < s.size
    · rw [if_pos hi]
      obtain ⟨cc, b1, b2, b3⟩ := hb
      by_cases hk : isBlk (B s i : Nat) = true
      · rw [if_pos hk]
        have hbs : betweenS s cc (rU s i : Nat) = .ok { cc with st := 0, «from» := cc.here } := by
          unfold betweenS
          rw [if_pos (by rw [rU_blk hi]; exact hk)]
        obtain ⟨f', e, ha2, hf2, _⟩ := run_step ha hi hf (b3.trans hbs)
        have hw : (Utf8.decode s i).2 = 1 := by rw [dec_lo s i (blk_asc hk)]
        rw [hw] at e ha2 hf2
        obtain ⟨q1, q2, q3, c', f'', q4, q5, q6, q7⟩ := ih (i + 1) _ f' ha2 (by have := BT.of0 (s := s) (i := i + 1) (c := { cc with st := 0, «from» := cc.here }) rfl; rw [← b2]; exact this) (by omega) hf2
        exact ⟨q1, by omega, q3, c', f'', q4, q5, q6, e.trans q7⟩
      · rw [if_neg hk]
        by_cases h35 : B s i = 35
        · rw [if_pos h35]
          have hr : rU s i = 35 := (rU_is hi (by decide)).2 h35
          have hbs : betweenS s cc (rU s i : Nat) = .ok { cc with st := 1, «from» := cc.here } := by rw [hr]; exact between35 s cc
          obtain ⟨f', e, ha2, hf2, _⟩ := run_step ha hi hf (b3.trans hbs)
          have hw : (Utf8.decode s i).2 = 1 := by rw [dec_lo s i (by omega)]
          rw [hw] at e ha2 hf2
          rcases xfindI_spec s 10 i hle with ⟨e1, h1⟩ | ⟨j, e1, h1, h2, h3, h4⟩
          · rw [if_pos (by rw [e1]; decide)]
            obtain ⟨c', f'', q4, q5, q6, q7⟩ := rem_run (T := T) (q := i + 1) (j := s.size) (by omega) (.inl rfl) (fun k h2 h3 => h1 k (by omega) h3) ha2 rfl b2 hf2
            exact ⟨Nat.le_refl _, hle, fun h => absurd h (Nat.lt_irrefl _), c', f'', q4, q5, q6, e.trans q7⟩
          · rw [e1, if_neg (by omega), Int.toNat_natCast]
            have hij : i < j := by
              rcases Nat.lt_or_ge i j with h | h
              · exact h
              · obtain rfl : j = i := by omega
                omega
            obtain ⟨c', f'', q4, q5, q6, q7⟩ := rem_run (T := T) (q := i + 1) (j := j) (by omega) (.inr ⟨h2, h3⟩) (fun k h5 h6 => h4 k (by omega) h6) ha2 rfl b2 hf2
            obtain ⟨p1, p2, p3, c3, f3, p4, p5, p6, p7⟩ := ih j c' f'' q4 q5 (by omega) q6
            exact ⟨p1, by omega, p3, c3, f3, p4, p5, p6, e.trans (q7.trans p7)⟩
        · rw [if_neg h35]
          exact ⟨hle, Nat.le_refl _, fun _ => ⟨by simpa using hk, h35⟩, c, f, ha, ⟨cc, b1, b2, b3⟩, hf, rfl⟩
    · rw [if_neg hi]
      exact ⟨hle, Nat.le_refl _, fun h => absurd h hi, c, f, ha, hb, hf, rfl⟩

theorem sgnN_hi (h : 128 ≤ B s i) : sgnN s i = 0 := by
  unfold sgnN
  rw [if_neg (by omega), if_neg (by omega), if_neg (by omega)]
theorem sgn_first (hi : i < s.size) : isSgn (encL (rU s i : Nat)) = true ↔ sgnN s i ≠ 0 := by
  rcases rU_two hi with ⟨h, e⟩ | ⟨h, e⟩
  · rw [e, encL_lo _ h]
    have h1 : isSgn [UInt8.ofNat (B s i)] = true ↔ B s i = 60 ∨ B s i = 61 ∨ B s i = 38 ∨ B s i = 47 ∨ B s i = 45 := by
      generalize B s i = b at h
      revert h
      exact (by decide +kernel : ∀ b, b < 128 → (isSgn [UInt8.ofNat b] = true ↔ b = 60 ∨ b = 61 ∨ b = 38 ∨ b = 47 ∨ b = 45)) b
    rw [h1]
    unfold sgnN
    repeat' split
    all_goals (constructor <;> intro h2 <;> omega)
  · have := sgn_hi (s := s) (i := i) [] e
    rw [List.nil_append] at this
    rw [this, sgnN_hi h]
    simp
/-- A sign. -/
theorem sign_run {p : Nat} (ha : Ahead s p c) (hb : BT s p c T) (hf : Fu s p f) (hp : p < s.size) (hk : isBlk (B s p : Nat) = false) (h35 : B s p ≠ 35) (hn : sgnN s p ≠ 0) :
    ∃ c' f', Ahead s (p + sgnN s p) c' ∧ BT s (p + sgnN s p) c' (T ++ [⟨2, seg s p (p + sgnN s p), plNext s c.here p⟩]) ∧ Fu s (p + sgnN s p) f' ∧ runS s f p c = runS s f' (p + sgnN s p) c' := by
  obtain ⟨z1, z2, z3, _⟩ := sgn_stop s p hn
  obtain ⟨cc, b1, b2, b3⟩ := hb
  have hbs : betweenS s cc (rU s p : Nat) = .ok { cc with st := 2, «from» := cc.here } := by
    unfold betweenS
    rw [if_neg (by rw [rU_blk hp, hk]; decide), if_neg (by have := rU_is (s := s) hp (show 35 < 128 by decide); omega), if_pos ((sgn_first hp).2 hn)]
  obtain ⟨f', e, ha2, hf2, _⟩ := run_step ha hp hf (b3.trans hbs)
  have hw : (Utf8.decode s p).2 = 1 := by rw [dec_lo s p (by have := (z3 0 (by omega)).1; simpa using this)]
  rw [hw] at e ha2 hf2
  have hpl : (plNext s c.here p).2.2 = p := (plNext_ix s c.here p).1
  have hsince : ∀ (c2 : Sc) (q : Nat), c2.from = plNext s c.here p → sinceL s { c2 with here := plNext s c2.here q } = seg s p q := fun c2 q h => by
    unfold sinceL
    simp only [h, hpl, (plNext_ix s c2.here q).1]
    rfl
  obtain ⟨c', f'', g1, ⟨g2, g3, g4⟩, g5, g6⟩ := run_hold (s := s) (fun _ c2 => c2.st = 2 ∧ c2.from = plNext s c.here p ∧ c2.toks = T) (p + 1) (p + sgnN s p) z1 (fun q c2 h1 h2 h3 _ hc => by
    obtain ⟨y1, y2⟩ := z3 (q - p) (by omega)
    rw [show p + (q - p) = q by omega] at y1 y2
    have hw2 : (Utf8.decode s q).2 = 1 := by rw [dec_lo s q y1]
    rw [hw2]
    refine ⟨by omega, { c2 with here := plNext s c2.here q, st := 2 }, ?_, rfl, hc.2.1, hc.2.2⟩
    unfold tokenS
    rw [if_neg (by simp [hc.1]), if_neg (by simp [hc.1]), if_pos (by simp [hc.1])]
    unfold signS
    rw [hsince c2 q hc.2.1, rU_lo h3 y1, if_pos y2]) (sgnN s p - 1) (p + 1) _ f' (by omega) (Nat.le_refl _) (by omega) ha2 ⟨rfl, b1, b2⟩ hf2
  refine ⟨c', f'', g1, ⟨addT { c' with here := plNext s c'.here (p + sgnN s p), st := 2 } 2 (seg s p (p + sgnN s p)), rfl, ?_, ?_⟩, g5, e.trans g6⟩
  · unfold addT
    simp only [g3, g4]
  · unfold tokenS
    rw [if_neg (by simp [g2]), if_neg (by simp [g2]), if_pos (by simp [g2])]
    unfold signS
    rw [hsince c' _ g3, if_neg (by rw [z2]; decide)]
/-- What stands in brackets. -/
theorem option_run {p : Nat} (ha : Ahead s p c) (hb : BT s p c T) (hf : Fu s p f) (hp : p < s.size) (h91 : B s p = 91) :
    (∀ j, p ≤ j → j < s.size → B s j = 93 → (∀ k, p ≤ k → k < j → B s k ≠ 93) → ∃ c' f', Ahead s (j + 1) c' ∧ BT s (j + 1) c' (T ++ [⟨3, evnV (s.extract (p + 1) j), plNext s c.here p⟩]) ∧ Fu s (j + 1) f' ∧ runS s f p c = runS s f' (j + 1) c') ∧
    ((∀ j, p ≤ j → j < s.size → B s j ≠ 93) → finS (runS s f p c) = .bad 25 (plNext s c.here p).1 (plNext s c.here p).2.1) := by
  obtain ⟨cc, b1, b2, b3⟩ := hb
  have hr : rU s p = 91 := (rU_is hp (by decide)).2 h91
  have hbs : betweenS s cc (rU s p : Nat) = .ok { cc with st := 3, «from» := cc.here } := by
    rw [hr]
    unfold betweenS
    rw [if_neg (by decide), if_neg (by decide), if_neg (by decide), if_pos (by decide)]
  obtain ⟨f', e, ha2, hf2, _⟩ := run_step ha hp hf (b3.trans hbs)
  have hw : (Utf8.decode s p).2 = 1 := by rw [dec_lo s p (by omega)]
  rw [hw] at e ha2 hf2
  have hpl : (plNext s c.here p).2.2 = p := (plNext_ix s c.here p).1
  have hold : ∀ j, p < j → (j = s.size ∨ j < s.size ∧ B s j = 93) → (∀ k, p ≤ k → k < j → B s k ≠ 93) → ∃ c' f'', Ahead s j c' ∧ (c'.st = 3 ∧ c'.from = plNext s c.here p ∧ c'.toks = T) ∧ Fu s j f'' ∧ runS s f' (p + 1) { cc with st := 3, «from» := cc.here } = runS s f'' j c' := fun j hj1 hj2 hj3 => by
    refine run_hold (s := s) (fun _ c2 => c2.st = 3 ∧ c2.from = plNext s c.here p ∧ c2.toks = T) (p + 1) j (by rcases hj2 with h | h <;> omega) (fun q c2 h1 h2 h3 _ hc => ?_) (j - (p + 1)) (p + 1) _ f' (Nat.le_refl _) (Nat.le_refl _) (by omega) ha2 ⟨rfl, b1, b2⟩ hf2
    refine ⟨fit h2 (by rcases hj2 with h | h; exact .inl h; exact .inr ⟨h.1, by omega⟩), { c2 with here := plNext s c2.here q, st := 3 }, ?_, rfl, hc.2.1, hc.2.2⟩
    have hne : rU s q ≠ 93 := fun h => hj3 q (by omega) h2 ((rU_is h3 (by decide)).1 h)
    unfold tokenS
    rw [if_neg (by simp [hc.1]), if_neg (by simp [hc.1]), if_neg (by simp [hc.1]), if_pos (by simp [hc.1])]
    unfold optionS
    rw [if_neg (by omega)]
  refine ⟨fun j hj1 hj2 hj3 hj4 => ?_, fun hj => ?_⟩
  · have hpj : p < j := by
      rcases Nat.lt_or_ge p j with h | h
      · exact h
      · obtain rfl : j = p := by omega
        omega
    obtain ⟨c', f'', g1, ⟨g2, g3, g4⟩, g5, g6⟩ := hold j hpj (.inr ⟨hj2, hj3⟩) hj4
    have hrj : rU s j = 93 := (rU_is hj2 (by decide)).2 hj3
    have hx : (plNext s c'.here j).2.2 = j := (plNext_ix s c'.here j).1
    have ht : tokenS s { c' with here := plNext s c'.here j } (rU s j : Nat) = .ok { addT { c' with here := plNext s c'.here j, st := 3 } 3 (evnV (s.extract (p + 1) j)) with st := 0 } := by
      rw [hrj]
      unfold tokenS
      rw [if_neg (by simp [g2]), if_neg (by simp [g2]), if_neg (by simp [g2]), if_pos (by simp [g2])]
      unfold optionS
      rw [if_pos (by decide)]
      simp only [g3, hpl, hx]
    obtain ⟨f3, e3, ha3, hf3, _⟩ := run_step g1 hj2 g5 ht
    have hw3 : (Utf8.decode s j).2 = 1 := by rw [dec_lo s j (by omega)]
    rw [hw3] at e3 ha3 hf3
    refine ⟨_, f3, ha3, ?_, hf3, e.trans (g6.trans e3)⟩
    have := BT.of0 (s := s) (i := j + 1) (c := { addT { c' with here := plNext s c'.here j, st := 3 } 3 (evnV (s.extract (p + 1) j)) with st := 0 }) rfl
    have ht2 : ({ addT { c' with here := plNext s c'.here j, st := 3 } 3 (evnV (s.extract (p + 1) j)) with st := 0 } : Sc).toks = T ++ [⟨3, evnV (s.extract (p + 1) j), plNext s c.here p⟩] := by
      unfold addT
      simp only [g3, g4]
    rw [ht2] at this
    exact this
  · obtain ⟨c', f'', g1, ⟨g2, g3, g4⟩, g5, g6⟩ := hold s.size hp (.inl rfl) hj
    have ht : tokenS s { c' with here := plNext s c'.here s.size } (10 : Nat) = .ok { c' with here := plNext s c'.here s.size, st := 3 } := by
      unfold tokenS
      rw [if_neg (by simp [g2]), if_neg (by simp [g2]), if_neg (by simp [g2]), if_pos (by simp [g2])]
      unfold optionS
      rw [if_neg (by decide)]
    rw [e, g6, run_fin g5 ht]
    show endS _ = _
    unfold endS
    rw [if_pos rfl]
    simp only [g3]
end
end Go.Proofs.YtlfdpdlhppgakaaGreatDoor
