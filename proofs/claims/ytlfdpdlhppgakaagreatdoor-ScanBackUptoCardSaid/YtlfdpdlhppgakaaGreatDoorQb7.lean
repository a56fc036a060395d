/- Parts of the proof of what the last text says. -/
import Derived.Test.YtlfdpdlhppgakaaGreatDoorQb6
import Derived.Test.YtlfdpdlhppgakaaGreatDoorQb2
import Derived.Test.YtlfdpdlhppgakaaGreatDoorQb4
import Derived.Test.YtlfdpdlhppgakaaGreatDoorCards
/- A text that is quoted is read as that text: the scanner's run over quoV. No run in this text. -/
namespace Go.Proofs.YtlfdpdlhppgakaaGreatDoor
open Go Go.RowKit Go.Kt Go.Kt.Rg Go.Shelf Go.Lib

theorem decN_pre {N N' b0 b1 b2 b3 d1 d2 d3 r w : Nat} (h : decodeN N b0 b1 b2 b3 = (r, w)) (hne : ¬ (r = 65533 ∧ w = 1)) (hN : w ≤ N') (h1 : 1 < w → d1 = b1) (h2 : 2 < w → d2 = b2) (h3 : 3 < w → d3 = b3) : decodeN N' b0 d1 d2 d3 = (r, w) := by
  unfold decodeN at h ⊢
  split at h
  · rename_i g; rw [if_pos g]; exact h
  rename_i g0
  rw [if_neg g0]
  split at h
  · rename_i g1
    split at h
    · rename_i g2
      cases h
      have e := h1 (by decide); subst e
      rw [if_pos ⟨g1.1, by omega, g1.2.2⟩, if_pos g2]
    · cases h; exact absurd ⟨rfl, rfl⟩ hne
  split at h
  · rename_i g1 g2
    split at h
    · rename_i g3
      cases h
      have e := h1 (by decide); subst e
      have e := h2 (by decide); subst e
      rw [if_neg (by omega), if_pos ⟨g2.1, ⟨by omega, g2.2.1.2⟩, by omega, g2.2.2.2⟩, if_pos g3]
    · cases h; exact absurd ⟨rfl, rfl⟩ hne
  split at h
  · rename_i g1 g2 g3
    split at h
    · rename_i g4
      cases h
      have e := h1 (by decide); subst e
      have e := h2 (by decide); subst e
      have e := h3 (by decide); subst e
      rw [if_neg (by omega), if_neg (by omega), if_pos ⟨g3.1, ⟨by omega, g3.2.1.2⟩, ⟨by omega, g3.2.2.1.2⟩, by omega, g3.2.2.2.2⟩, if_pos g4]
    · cases h; exact absurd ⟨rfl, rfl⟩ hne
  · cases h; exact absurd ⟨rfl, rfl⟩ hne

section
variable {Q : ByteArray} {p : Nat} {E rest : List UInt8}
theorem drop_len (h : Q.data.toList.drop p = E ++ rest) (hp : p ≤ Q.size) : p + E.length ≤ Q.size := by
  have h1 := congrArg List.length h
  rw [List.length_drop, List.length_append, ← Lib.size_eq] at h1
  omega
theorem B_drop (h : Q.data.toList.drop p = E ++ rest) {j : Nat} (hj : j < E.length) : B Q (p + j) = (E.getD j 0).toNat := by
  unfold B
  have h1 : Q.data.toList[p + j]? = E[j]? := by
    rw [← List.getElem?_drop, h, List.getElem?_append_left hj]
  rw [List.getD_eq_getElem?_getD, h1, List.getD_eq_getElem?_getD]
theorem drop_more (h : Q.data.toList.drop p = E ++ rest) : Q.data.toList.drop (p + E.length) = rest := by
  rw [← List.drop_drop, h, List.drop_left]
theorem seg_drop (h : Q.data.toList.drop p = E ++ rest) : seg Q p (p + E.length) = E := by
  rw [seg_eq, List.drop_take, Nat.add_sub_cancel_left, h, List.take_left]
theorem ext_rest (h : Q.data.toList.drop p = E ++ rest) : (Q.extract p Q.size).data.toList = E ++ rest := by
  have : (Q.extract p Q.size).data.toList = seg Q p Q.size := rfl
  rw [this, seg_eq, List.take_of_length_le (by rw [← Lib.size_eq]; omega), h]
end
theorem dec_lo (Q : ByteArray) (p : Nat) (h : B Q p < 128) : Utf8.decode Q p = (B Q p, 1) := by
  rw [decode_B]; unfold decodeN; rw [if_pos h]

/-- A text that is open at its next piece. -/
structure Bd (p : Nat) (c : Sc) (x : List UInt8) : Prop where
  fr : c.from = (1, 1, 0)
  toks : c.toks = []
  text : c.text = x
  st : c.st = 4 ∨ c.st = 7 ∧ c.behind ≤ p
def okr (r : Int) : Prop := isBlk r = false ∧ (r = 92 ∨ isSgs r = false) ∧ isSgn (encL r) = false
/-- The scanner is ready for a text's next piece. -/
def Rd (Q : ByteArray) (p : Nat) (c : Sc) (x : List UInt8) : Prop :=
  ∃ c1 : Sc, c1.here.2.2 = p ∧ c1.from = (1, 1, 0) ∧ c1.toks = [] ∧ c1.text = x ∧ ∀ r c', okr r → plainS Q c1 r = .took c' → tokenS Q { c with here := plNext Q c.here p } r = .ok c'
theorem Bd.token {p : Nat} {c : Sc} {x : List UInt8} (h : Bd p c x) (Q : ByteArray) (r : Int) : tokenS Q { c with here := plNext Q c.here p } r = textS Q { c with here := plNext Q c.here p } r ∧ pieceS Q { c with here := plNext Q c.here p } r = plainS Q { c with here := plNext Q c.here p } r := by
  have hx := (plNext_ix Q c.here p).1
  rcases h.st with h4 | ⟨h7, hb⟩
  · exact ⟨by unfold tokenS; simp [h4], by unfold pieceS; simp [h4]⟩
  · refine ⟨by unfold tokenS; simp [h7], ?_⟩
    simp [pieceS, escapeS, h7, hx, hb]
theorem Bd.rd {p : Nat} {c : Sc} {x : List UInt8} (h : Bd p c x) (Q : ByteArray) : Rd Q p c x := by
  refine ⟨{ c with here := plNext Q c.here p }, (plNext_ix Q c.here p).1, h.fr, h.toks, h.text, fun r c' _ hp => ?_⟩
  obtain ⟨h1, h2⟩ := h.token Q r
  rw [h1]
  unfold textS
  rw [h2, hp]
theorem rd_first (Q : ByteArray) : Rd Q 0 c0S [] := by
  refine ⟨⟨4, (1, 1, 0), (1, 1, 0), [], (0, 0, 0), 0, []⟩, rfl, rfl, rfl, rfl, fun r c' hr hp => ?_⟩
  obtain ⟨h1, h2, h3⟩ := hr
  have h35 : r ≠ 35 := by rintro rfl; rcases h2 with h | h; cases h; exact absurd h (by decide)
  have h91 : r ≠ 91 := by rintro rfl; rcases h2 with h | h; cases h; exact absurd h (by decide)
  have h93 : r ≠ 93 := by rintro rfl; rcases h2 with h | h; cases h; exact absurd h (by decide)
  have h42 : r ≠ 42 := by rintro rfl; rcases h2 with h | h; cases h; exact absurd h (by decide)
  have e : tokenS Q { c0S with here := plNext Q c0S.here 0 } r = betweenS Q { c0S with here := plNext Q c0S.here 0 } r := by simp [tokenS, c0S]
  rw [e]
  unfold betweenS
  rw [if_neg (by rw [h1]; decide), if_neg h35, if_neg (by rw [h3]; decide), if_neg h91, if_neg h93, if_neg h42]
  show (plainS Q ⟨4, (1, 1, 0), (1, 1, 0), [], (0, 0, 0), 0, []⟩ r).out = _
  rw [hp]
  rfl
theorem runS_one {Q : ByteArray} {f i v r : Nat} {c c' : Sc} (hi : i < Q.size + 1) (hd : Utf8.decode (Q ++ nlB) i = (r, v)) (ht : tokenS Q { c with here := plNext Q c.here i } (r : Nat) = .ok c') : runS Q (f + 1) i c = runS Q f (i + v) c' := by
  rw [runS, if_pos hi, hd, ht]
theorem dec_in {Q : ByteArray} {p : Nat} (h : p < Q.size) (hb : B Q p < 128) : Utf8.decode (Q ++ nlB) p = (B Q p, 1) := by
  rw [decode_nl Q p h, dec_lo Q p hb]
/-- The units of an escape pass. -/
theorem run_pass (Q : ByteArray) : ∀ (n p : Nat) (c : Sc) (F : Nat), (∀ j, j < n → B Q (p + j) < 128) → p + n ≤ Q.size → c.st = 7 → c.behind = p + n → Q.size + 1 ≤ p + F →
    ∃ F' c', runS Q F p c = runS Q F' (p + n) c' ∧ c'.from = c.from ∧ c'.toks = c.toks ∧ c'.text = c.text ∧ c'.st = 7 ∧ c'.behind = p + n ∧ Q.size + 1 ≤ p + n + F' := by
  intro n
  induction n with
  | zero => intro p c F _ _ hs hb hF; exact ⟨F, c, rfl, rfl, rfl, rfl, hs, hb, hF⟩
  | succ n ih =>
    intro p c F hB hp hs hb hF
    obtain ⟨F, rfl⟩ : ∃ f, F = f + 1 := ⟨F - 1, by omega⟩
    have hx := (plNext_ix Q c.here p).1
    have ht : tokenS Q { c with here := plNext Q c.here p } (B Q p : Nat) = .ok { c with here := plNext Q c.here p } := by
      have hnl : ¬ p + (n + 1) ≤ p := by omega
      simp [tokenS, textS, pieceS, escapeS, hs, hx, hb]
      rw [if_neg hnl]
    have hB0 := hB 0 (by omega)
    rw [Nat.add_zero] at hB0
    have h1 := runS_one (f := F) (by omega) (dec_in (by omega) hB0) ht
    obtain ⟨F', c', e1, e2, e3, e4, e5, e6, e7⟩ := ih (p + 1) { c with here := plNext Q c.here p } F (fun j hj => by have := hB (j + 1) (by omega); rw [show p + 1 + j = p + (j + 1) by omega]; exact this) (by omega) hs (by simp only; omega) (by omega)
    refine ⟨F', c', ?_, e2, e3, e4, e5, by omega, by omega⟩
    rw [h1, e1, show p + 1 + n = p + (n + 1) by omega]
/-- An escape E, that stands for t, is taken. -/
theorem run_esc {Q : ByteArray} {p : Nat} {c : Sc} {x E rest t : List UInt8} {F : Nat} (hE : Q.data.toList.drop p = (92 :: E) ++ rest) (hp : p ≤ Q.size) (ha : ∀ b ∈ E, b.toNat < 128) (hF : Q.size + 1 ≤ p + F) (hrd : Rd Q p c x)
    (hu : unescV (Q.extract p Q.size) = some (t, E.length + 1)) :
    ∃ F' c', runS Q F p c = runS Q F' (p + (E.length + 1)) c' ∧ Bd (p + (E.length + 1)) c' (x ++ t) ∧ Q.size + 1 ≤ p + (E.length + 1) + F' := by
  obtain ⟨c1, g1, g2, g3, g4, g5⟩ := hrd
  have hln := drop_len hE hp
  rw [List.length_cons] at hln
  obtain ⟨F, rfl⟩ : ∃ f, F = f + 1 := ⟨F - 1, by omega⟩
  have hB0 : B Q p = 92 := by have := B_drop hE (j := 0) (by simp); simpa using this
  have hpl : plainS Q c1 92 = .took { c1 with st := 7, text := c1.text ++ t, behind := c1.here.2.2 + (E.length + 1) } := by
    unfold plainS
    rw [if_neg (by decide), if_pos rfl, g1, hu]
  have ht := g5 92 _ ⟨by decide, .inl rfl, by decide⟩ hpl
  have h1 := runS_one (f := F) (v := 1) (r := 92) (by omega) (by rw [dec_in (by omega) (by omega), hB0]) ht
  obtain ⟨F', c', e1, e2, e3, e4, e5, e6, e7⟩ := run_pass Q E.length (p + 1) { c1 with st := 7, text := c1.text ++ t, behind := c1.here.2.2 + (E.length + 1) } F (fun j hj => by
      have := B_drop hE (j := j + 1) (by simp; omega)
      rw [show p + 1 + j = p + (j + 1) by omega, this]
      simp only [List.getD_cons_succ]
      rw [List.getD_eq_getElem?_getD, List.getElem?_eq_getElem hj]
      exact ha _ (List.getElem_mem hj)) (by omega) rfl (by simp only; omega) (by omega)
  refine ⟨F', c', ?_, ⟨e2.trans g2, e3.trans g3, by rw [e4]; simp only [g4], .inr ⟨e5, by omega⟩⟩, by omega⟩
  rw [h1, e1, show p + 1 + E.length = p + (E.length + 1) by omega]
/-- A unit that is neither a blank's nor a sign's is taken. -/
theorem run_plain {Q : ByteArray} {p r : Nat} {c : Sc} {x E rest : List UInt8} {F : Nat} (hE : Q.data.toList.drop p = E ++ rest) (hp : p ≤ Q.size) (hl : 1 ≤ E.length) (hd : Utf8.decode (Q ++ nlB) p = (r, E.length)) (hF : Q.size + 1 ≤ p + F) (hrd : Rd Q p c x)
    (h1 : isBlk (r : Nat) = false) (h2 : isSgs (r : Nat) = false) (h3 : isSgn (encL (r : Nat)) = false) :
    ∃ F' c', runS Q F p c = runS Q F' (p + E.length) c' ∧ Bd (p + E.length) c' (x ++ E) ∧ Q.size + 1 ≤ p + E.length + F' := by
  obtain ⟨c1, g1, g2, g3, g4, g5⟩ := hrd
  have hln := drop_len hE hp
  obtain ⟨F, rfl⟩ : ∃ f, F = f + 1 := ⟨F - 1, by omega⟩
  have n39 : ((r : Nat) : Int) ≠ 39 := fun h => by rw [h] at h2; exact absurd h2 (by decide)
  have n92 : ((r : Nat) : Int) ≠ 92 := fun h => by rw [h] at h2; exact absurd h2 (by decide)
  have hw : unitW Q p = E.length := by unfold unitW; rw [if_pos (by omega), ← decode_nl Q p (by omega), hd]
  have hU : unitL Q p = E := by unfold unitL; rw [hw]; exact seg_drop hE
  have hpl : plainS Q c1 (r : Nat) = .took { c1 with st := 4, text := c1.text ++ E } := by
    unfold plainS
    rw [if_neg n39, if_neg n92, if_neg (by rw [h1]; decide), if_neg (by rw [h2]; decide), g1, hU]
  have ht := g5 (r : Nat) _ ⟨h1, .inr h2, h3⟩ hpl
  refine ⟨F, _, runS_one (by omega) hd ht, ⟨g2, g3, by simp only [g4], .inl rfl⟩, by omega⟩

section
variable {X : ByteArray} {rest : List UInt8}
theorem xunit_one {u : UInt8} {a : UInt8} (hX : X.data.toList = a :: u :: rest) (hu : u.toNat < 128) : unitW X 1 = 1 ∧ (decP X 1).1 = (u.toNat : Int) ∧ 2 ≤ X.size := by
  have hz : 2 ≤ X.size := by rw [Lib.size_eq, hX]; simp
  have hB : B X 1 = u.toNat := by unfold B; rw [hX]; rfl
  have hd := dec_lo X 1 (by rw [hB]; exact hu)
  refine ⟨by unfold unitW; rw [if_pos (by omega), hd], ?_, hz⟩
  have := decP_in X 1 (by omega)
  rw [show ((1 : Nat) : Int) = 1 from rfl] at this
  rw [this, hd, hB]
theorem unesc_ill {b : Nat} (hX : X.data.toList = 92 :: (120 :: hexL b) ++ rest) (h : 128 ≤ b) (h2 : b < 256) : unescV X = some ([UInt8.ofNat b], 4) := by
  obtain ⟨e1, e2, e3⟩ := xunit_one hX (by decide)
  have hh := hex_two b h2 (by omega)
  unfold unescV
  rw [e1, if_neg (by decide), e2, if_neg (by decide), if_pos (by decide)]
  unfold illV
  have hd2 : (X.data.toList.drop 2).take 2 = hexL b := by
    rw [hX]
    show (hexL b ++ rest).take 2 = hexL b
    rw [← hh, List.take_left]
  rw [hd2, puV_hex 255 b (by omega) (by omega), if_neg (by rw [hX]; simp [hh])]
  simp only
  rw [if_neg (by omega)]
set_option maxRecDepth 100000 in
theorem unesc_chr {r : Nat} (hX : X.data.toList = 92 :: (117 :: 123 :: hexL r ++ [125]) ++ rest) (h : r < 128) : unescV X = some ([UInt8.ofNat r], 4 + (hexL r).length) := by
  have hX2 : X.data.toList = 92 :: 117 :: (123 :: (hexL r ++ 125 :: rest)) := by rw [hX]; simp
  obtain ⟨e1, e2, e3⟩ := xunit_one hX2 (by decide)
  unfold unescV
  rw [e1, if_neg (by decide), e2, if_pos (by decide)]
  unfold chrV
  have ho : opn X.data.toList = true := by rw [hX2]; rfl
  have hr : rst X.data.toList = hexL r ++ 125 :: rest := by unfold rst; rw [if_pos ho, hX2]; rfl
  have hup : upB (rst X.data.toList) = hexL r := by rw [hr]; exact upB_at _ _ (fun c hc => (hexF_clean 8 r c hc).1)
  have hct : (rst X.data.toList).contains 125 = true := by rw [hr]; simp
  have hpu : puV 16777215 (upB (rst X.data.toList)) = some r := by rw [hup]; exact puV_hex _ _ (by omega) (by omega)
  rw [hpu, hup, ho, hct]
  have hl6 : (hexL r).length ≤ 6 := (by decide +kernel : ∀ r, r < 128 → (hexL r).length ≤ 6) r h
  have hv : Lib.validRune (r : Nat) = true := (by decide +kernel : ∀ r : Nat, r < 128 → Lib.validRune (r : Nat) = true) r h
  have he : (Utf8.encode (r : Nat)).data.toList = [UInt8.ofNat r] := (by decide +kernel : ∀ r : Nat, r < 128 → (Utf8.encode (r : Nat)).data.toList = [UInt8.ofNat r]) r h
  unfold chrO
  simp only
  rw [hv, he, decide_eq_true hl6]
  rfl
theorem unesc_sgs {u : UInt8} (hX : X.data.toList = 92 :: [u] ++ rest) (hu : u.toNat < 128) (h1 : u ≠ 117) (h2 : u ≠ 120) : unescV X = some ([u], 2) := by
  obtain ⟨e1, e2, e3⟩ := xunit_one (X := X) (rest := rest) hX hu
  have n1 : (u.toNat : Int) ≠ 117 := fun h => h1 (by apply UInt8.toNat_inj.1; have : (117 : UInt8).toNat = 117 := rfl; omega)
  have n2 : (u.toNat : Int) ≠ 120 := fun h => h2 (by apply UInt8.toNat_inj.1; have : (120 : UInt8).toNat = 120 := rfl; omega)
  unfold unescV
  rw [e1, if_neg (by decide), e2, if_neg n1, if_neg n2]
  have : (X.extract 1 (1 + 1)).data.toList = [u] := by
    have h3 : (X.extract 1 (1 + 1)).data.toList = seg X 1 (1 + 1) := rfl
    rw [h3, seg_eq, hX]
    rfl
  rw [this]
end

theorem dec_r_lo {s : ByteArray} {i : Nat} (h : (Utf8.decode s i).1 < 128) : B s i = (Utf8.decode s i).1 ∧ (Utf8.decode s i).2 = 1 := by
  rw [decode_B] at h ⊢
  revert h
  unfold decodeN
  repeat' split
  all_goals (intro h; first | exact ⟨rfl, rfl⟩ | (exfalso; simp only at h; omega))
set_option maxRecDepth 100000 in
theorem nsgn {s : ByteArray} {i : Nat} (h : isSgs ((Utf8.decode s i).1 : Nat) = false) (hi : i < s.size) (hw : ¬ ((Utf8.decode s i).1 = 65533 ∧ (Utf8.decode s i).2 = 1)) : isSgn (encL ((Utf8.decode s i).1 : Nat)) = false := by
  by_cases h1 : (Utf8.decode s i).1 < 128
  · generalize (Utf8.decode s i).1 = r at *
    revert h
    exact (by decide +kernel : ∀ r : Nat, r < 128 → isSgs (r : Nat) = false → isSgn (encL (r : Nat)) = false) r h1
  · have hv : Utf8.valid ((Utf8.decode s i).1 : Nat) = true := by
      rw [decode_B] at hw h1 ⊢
      revert hw h1
      unfold decodeN
      repeat' split
      all_goals (intro hw h1; simp only at hw h1 ⊢; first | (exfalso; omega) | (simp only [Utf8.valid, Bool.or_eq_true, Bool.and_eq_true, decide_eq_true_iff]; omega) | (exact absurd ⟨rfl, rfl⟩ hw))
    obtain ⟨q1, q2, q3⟩ := enc_hi ((Utf8.decode s i).1 : Nat) (by omega) hv
    have hl : (encL ((Utf8.decode s i).1 : Nat)).length = (Utf8.encode ((Utf8.decode s i).1 : Nat)).size := (Lib.size_eq _).symm
    have hne : encL ((Utf8.decode s i).1 : Nat) ∉ sgnL := by
      intro hm
      have hall : ∀ l ∈ sgnL, ∃ c ∈ l, c.toNat < 128 := by decide
      obtain ⟨c, hc, hlt⟩ := hall _ hm
      have := q3 c hc
      omega
    unfold isSgn
    simpa using hne
theorem one_byte {s : ByteArray} {i : Nat} (hi : i < s.size) : seg s i (i + 1) = [UInt8.ofNat (B s i)] := by
  rw [seg_range s i 1 (by omega)]
  rfl
theorem hexL_lo : ∀ u, u < 256 → ∀ b ∈ hexL u, b.toNat < 128 := by decide +kernel
theorem sgs_lt {r : Nat} (h : isSgs (r : Nat) = true) : r < 128 ∧ r ≠ 117 ∧ r ≠ 120 := by
  by_cases h1 : r < 128
  · refine ⟨h1, ?_, ?_⟩ <;> (rintro rfl; exact absurd h (by decide))
  · rw [isSgs_hi (r : Nat) (by omega)] at h; cases h
theorem unitW_dec {s : ByteArray} {i : Nat} (hi : i < s.size) : unitW s i = (Utf8.decode s i).2 := by unfold unitW; rw [if_pos hi]
theorem run_unit {s Q : ByteArray} {i p : Nat} {c : Sc} {x rest : List UInt8} {F : Nat} (hi : i < s.size) (hQ : Q.data.toList.drop p = quoU s i ++ rest) (hp : p ≤ Q.size) (hF : Q.size + 1 ≤ p + F) (hrd : Rd Q p c x) :
    ∃ F' c', runS Q F p c = runS Q F' (p + (quoU s i).length) c' ∧ Bd (p + (quoU s i).length) c' (x ++ seg s i (i + unitW s i)) ∧ Q.size + 1 ≤ p + (quoU s i).length + F' := by
  have hw := unitW_dec hi
  obtain ⟨d1, d2, d3⟩ := dec_width s i hi
  have hdP : (decP s (i : Nat)).1 = ((Utf8.decode s i).1 : Int) := by rw [decP_in s i hi]
  have hU : quoU s i = escV (seg s i (i + unitW s i)) ((Utf8.decode s i).1 : Nat) := by unfold quoU; rw [hdP]; rfl
  have hln : (seg s i (i + unitW s i)).length = unitW s i := by rw [seg_len s i _ (by omega) (by omega)]; omega
  unfold escV at hU
  by_cases h1 : ((Utf8.decode s i).1 : Int) = 65533 ∧ (seg s i (i + unitW s i)).length = 1
  · rw [if_pos h1] at hU
    obtain ⟨h1, h2⟩ := h1
    have hw1 : unitW s i = 1 := by omega
    have hb : ¬ B s i < 128 := fun hb => by
      have := dec_lo s i hb
      rw [this] at h1
      simp only at h1
      omega
    have hB := B_lt s i
    rw [hw1, one_byte hi] at hU ⊢
    have hU2 : quoU s i = 92 :: (120 :: hexL (B s i)) := by
      rw [hU]
      have : (([UInt8.ofNat (B s i)] : List UInt8).getD 0 0).toNat = B s i := by simp; omega
      rw [this]; rfl
    have hh := hex_two (B s i) hB (by omega)
    rw [hU2] at hQ ⊢
    exact run_esc (t := [UInt8.ofNat (B s i)]) hQ hp (by
      intro b hb2
      rcases List.mem_cons.1 hb2 with rfl | hb2
      · decide
      · exact hexL_lo _ hB b hb2) hF hrd (by rw [unesc_ill (X := Q.extract p Q.size) (ext_rest hQ) (by omega) hB]; simp [hh])
  rw [if_neg h1] at hU
  by_cases h2 : ((Utf8.decode s i).1 : Int) ≤ 32 ∨ ((Utf8.decode s i).1 : Int) = 127
  · rw [if_pos h2] at hU
    obtain ⟨hb, hw1⟩ := dec_r_lo (s := s) (i := i) (by omega)
    have hw1 : unitW s i = 1 := hw.trans hw1
    rw [hw1, one_byte hi]
    have hU2 : quoU s i = 92 :: (117 :: 123 :: hexL (B s i) ++ [125]) := by
      rw [hU, ← hb]; simp
    rw [hU2] at hQ ⊢
    exact run_esc (t := [UInt8.ofNat (B s i)]) hQ hp (by
      intro b hb2
      simp only [List.cons_append, List.mem_cons, List.mem_append, List.not_mem_nil, or_false] at hb2
      rcases hb2 with rfl | rfl | hb2 | rfl
      · decide
      · decide
      · exact hexL_lo _ (by omega) b hb2
      · decide) hF hrd (by rw [unesc_chr (X := Q.extract p Q.size) (ext_rest hQ) (by omega)]; simp; omega)
  rw [if_neg h2] at hU
  by_cases h3 : isSgs ((Utf8.decode s i).1 : Nat) = true
  · rw [if_pos h3] at hU
    obtain ⟨q1, q2, q3⟩ := sgs_lt h3
    obtain ⟨hb, hw1⟩ := dec_r_lo (s := s) (i := i) q1
    have hw1 : unitW s i = 1 := hw.trans hw1
    rw [hw1, one_byte hi] at hU ⊢
    have hu : (UInt8.ofNat (B s i)).toNat = B s i := by simp; omega
    have hU2 : quoU s i = 92 :: [UInt8.ofNat (B s i)] := by rw [hU]; rfl
    rw [hU2] at hQ ⊢
    exact run_esc (t := [UInt8.ofNat (B s i)]) hQ hp (by
      intro b hb2
      rw [List.mem_singleton] at hb2
      subst hb2
      omega) hF hrd (by
        rw [unesc_sgs (X := Q.extract p Q.size) (ext_rest hQ) (by omega) (fun h => by rw [h] at hu; have : (117 : UInt8).toNat = 117 := rfl; omega) (fun h => by rw [h] at hu; have : (120 : UInt8).toNat = 120 := rfl; omega)]
        rfl)
  have h3 : isSgs ((Utf8.decode s i).1 : Nat) = false := by simpa using h3
  rw [if_neg (by rw [h3]; decide)] at hU
  have hne : ¬ ((Utf8.decode s i).1 = 65533 ∧ (Utf8.decode s i).2 = 1) := fun h => h1 ⟨by omega, by omega⟩
  rw [hU] at hQ ⊢
  have hdl := drop_len hQ hp
  have hBj : ∀ j, j < unitW s i → B (Q ++ nlB) (p + j) = B s (i + j) := fun j hj => by
    rw [nl_B Q _ (by omega), B_drop hQ (by omega), seg_range s i _ (by omega), List.getD_eq_getElem?_getD, List.getElem?_map, List.getElem?_range hj]
    have := B_lt s (i + j)
    simp; omega
  have hd : Utf8.decode (Q ++ nlB) p = ((Utf8.decode s i).1, (seg s i (i + unitW s i)).length) := by
    rw [hln, hw, decode_B]
    have hB0 := hBj 0 (by omega)
    rw [Nat.add_zero, Nat.add_zero] at hB0
    rw [hB0]
    have hnz := nl_size Q
    exact decN_pre (by rw [← decode_B]) hne (by omega) (fun h => hBj 1 (by omega)) (fun h => hBj 2 (by omega)) (fun h => hBj 3 (by omega))
  have hbk : isBlk ((Utf8.decode s i).1 : Nat) = false := by
    unfold isBlk
    simp only [Bool.or_eq_false_iff, beq_eq_false_iff_ne]
    refine ⟨⟨⟨?_, ?_⟩, ?_⟩, ?_⟩ <;> omega
  exact run_plain hQ hp (by omega) hd hF hrd hbk h3 (nsgn h3 hi hne)

theorem run_quo (s Q : ByteArray) : ∀ (f i p : Nat) (F : Nat) (c : Sc) (x : List UInt8), Q.data.toList.drop p = quoF s f i → s.size ≤ i + f → i ≤ s.size → p ≤ Q.size → Q.size + 1 ≤ p + F → Bd p c x →
    ∃ F' c', runS Q F p c = runS Q F' Q.size c' ∧ Bd Q.size c' (x ++ seg s i s.size) ∧ 1 ≤ F' := by
  have hend : ∀ (p F : Nat) (c : Sc) (x : List UInt8), Q.data.toList.drop p = [] → p ≤ Q.size → Q.size + 1 ≤ p + F → Bd p c x → ∃ F' c', runS Q F p c = runS Q F' Q.size c' ∧ Bd Q.size c' (x ++ seg s s.size s.size) ∧ 1 ≤ F' := by
    intro p F c x hq hp hF hb
    have : p = Q.size := by
      have h1 := congrArg List.length hq
      rw [List.length_drop, ← Lib.size_eq] at h1
      simp at h1
      omega
    subst this
    exact ⟨F, c, rfl, by rw [seg_self, List.append_nil]; exact hb, by omega⟩
  intro f
  induction f with
  | zero =>
    intro i p F c x hq hf hi hp hF hb
    have : i = s.size := by omega
    subst this
    exact hend p F c x hq hp hF hb
  | succ f ih =>
    intro i p F c x hq hf hi hp hF hb
    rw [quoF] at hq
    by_cases hlt : i < s.size
    · rw [if_pos hlt] at hq
      obtain ⟨u1, u2, u3⟩ := unitW_bd s i hi
      have u3 := u3 hlt
      obtain ⟨F1, c1, e1, e2, e3⟩ := run_unit hlt hq hp hF (hb.rd Q)
      obtain ⟨F2, c2, e4, e5, e6⟩ := ih (i + unitW s i) (p + (quoU s i).length) F1 c1 _ (drop_more hq) (by omega) (by omega) (drop_len hq hp) e3 e2
      refine ⟨F2, c2, e1.trans e4, ?_, e6⟩
      rw [List.append_assoc, seg_app s i _ _ (by omega) (by omega)] at e5
      exact e5
    · rw [if_neg hlt] at hq
      have : i = s.size := by omega
      subst this
      exact hend p F c x hq hp hF hb
theorem run_end {Q : ByteArray} {F : Nat} {c : Sc} {x : List UInt8} (hF : 1 ≤ F) (hb : Bd Q.size c x) : ∃ l k, runS Q F Q.size c = .ok ⟨0, (l, k, Q.size), (l, k, Q.size), x, c.quote, c.behind, [⟨1, x, (1, 1, 0)⟩]⟩ := by
  obtain ⟨F, rfl⟩ : ∃ f, F = f + 1 := ⟨F - 1, by omega⟩
  obtain ⟨h1, h2⟩ := hb.token Q ((10 : Nat) : Int)
  have hx := (plNext_ix Q c.here Q.size).1
  have hpl : plainS Q { c with here := plNext Q c.here Q.size } ((10 : Nat) : Int) = .left { c with st := 4, here := plNext Q c.here Q.size } := by
    unfold plainS
    rw [if_neg (by decide), if_neg (by decide), if_pos (by decide)]
  have ht : tokenS Q { c with here := plNext Q c.here Q.size } ((10 : Nat) : Int) = .ok ⟨0, plNext Q c.here Q.size, plNext Q c.here Q.size, x, c.quote, c.behind, [⟨1, x, (1, 1, 0)⟩]⟩ := by
    rw [h1]
    unfold textS
    rw [h2, hpl]
    unfold betweenS
    simp only
    rw [if_pos (by decide)]
    unfold addT
    simp only [hb.fr, hb.toks, hb.text, List.nil_append]
  refine ⟨(plNext Q c.here Q.size).1, (plNext Q c.here Q.size).2.1, ?_⟩
  rw [runS_one (by omega) (decode_end Q) ht]
  have hp2 : plNext Q c.here Q.size = ((plNext Q c.here Q.size).1, (plNext Q c.here Q.size).2.1, Q.size) := Prod.ext rfl (Prod.ext rfl hx)
  rw [← hp2]
  cases F with
  | zero => rfl
  | succ f => rw [runS, if_neg (by omega)]

theorem dec_hi_bytes {s : ByteArray} {i : Nat} (h : 128 ≤ (Utf8.decode s i).1) (hne : ¬ ((Utf8.decode s i).1 = 65533 ∧ (Utf8.decode s i).2 = 1)) : ∀ j, j < (Utf8.decode s i).2 → 128 ≤ B s (i + j) := by
  rw [decode_B] at h hne ⊢
  revert h hne
  unfold decodeN
  repeat' split
  all_goals (intro h hne j hj; simp only at h hne hj)
  · omega
  · obtain rfl | rfl : j = 0 ∨ j = 1 := by omega
    · rw [Nat.add_zero]; omega
    · omega
  · exact absurd ⟨trivial, trivial⟩ hne
  · obtain rfl | rfl | rfl : j = 0 ∨ j = 1 ∨ j = 2 := by omega
    · rw [Nat.add_zero]; omega
    · omega
    · omega
  · exact absurd ⟨trivial, trivial⟩ hne
  · obtain rfl | rfl | rfl | rfl : j = 0 ∨ j = 1 ∨ j = 2 ∨ j = 3 := by omega
    · rw [Nat.add_zero]; omega
    · omega
    · omega
    · omega
  · exact absurd ⟨trivial, trivial⟩ hne
  · exact absurd ⟨trivial, trivial⟩ hne
theorem quoU_no10 {s : ByteArray} {i : Nat} (hi : i < s.size) : ∀ b ∈ quoU s i, b ≠ 10 := by
  have hx : ∀ n, n < 256 → ∀ b ∈ hexL n, b ≠ 10 := by decide +kernel
  have hw := unitW_dec hi
  obtain ⟨d1, d2, d3⟩ := dec_width s i hi
  have hdP : (decP s (i : Nat)).1 = ((Utf8.decode s i).1 : Int) := by rw [decP_in s i hi]
  have hU : quoU s i = escV (seg s i (i + unitW s i)) ((Utf8.decode s i).1 : Nat) := by unfold quoU; rw [hdP]; rfl
  have hln : (seg s i (i + unitW s i)).length = unitW s i := by rw [seg_len s i _ (by omega) (by omega)]; omega
  rw [hU]
  unfold escV
  split
  · intro b hb
    simp only [List.cons_append, List.nil_append, List.mem_cons] at hb
    rcases hb with rfl | rfl | hb
    · decide
    · decide
    · exact hx _ (UInt8.toNat_lt _) b hb
  · rename_i h1
    split
    · intro b hb
      simp only [List.cons_append, List.nil_append, List.mem_cons, List.mem_append, List.not_mem_nil, or_false] at hb
      rcases hb with rfl | rfl | rfl | hb | rfl
      · decide
      · decide
      · decide
      · exact hx _ (by omega) b hb
      · decide
    · rename_i h2
      have hne : ¬ ((Utf8.decode s i).1 = 65533 ∧ (Utf8.decode s i).2 = 1) := fun h => h1 ⟨by omega, by omega⟩
      have hs : ∀ b ∈ seg s i (i + unitW s i), b ≠ 10 := by
        intro b hb
        rw [seg_range s i _ (by omega)] at hb
        obtain ⟨j, hj, rfl⟩ := List.mem_map.1 hb
        rw [List.mem_range] at hj
        have hBlt := B_lt s (i + j)
        intro h10
        have h10' : B s (i + j) = 10 := by
          have := congrArg UInt8.toNat h10
          simpa [Nat.mod_eq_of_lt hBlt] using this
        by_cases hlo : (Utf8.decode s i).1 < 128
        · obtain ⟨q1, q2⟩ := dec_r_lo hlo
          obtain rfl : j = 0 := by omega
          rw [Nat.add_zero] at h10'
          omega
        · have := dec_hi_bytes (by omega) hne j (by omega)
          omega
      split
      · intro b hb
        simp only [List.cons_append, List.nil_append, List.mem_cons] at hb
        rcases hb with rfl | hb
        · decide
        · exact hs b hb
      · exact hs
theorem quoF_no10 (s : ByteArray) : ∀ (f i : Nat), ∀ b ∈ quoF s f i, b ≠ 10 := by
  intro f
  induction f with
  | zero => intro i b hb; simp [quoF] at hb
  | succ f ih =>
    intro i b hb
    rw [quoF] at hb
    split at hb
    · rename_i h
      rcases List.mem_append.1 hb with hb | hb
      · exact quoU_no10 h b hb
      · exact ih _ b hb
    · simp at hb
theorem nlN_none {Q : ByteArray} (h : ∀ b ∈ Q.data.toList, b ≠ 10) : nlN Q = 0 := by
  unfold nlN
  have h1 : ∀ b ∈ Lib.trimSuffix Q.data.toList [10], b ≠ 10 := by
    intro b hb
    unfold Lib.trimSuffix at hb
    split at hb
    · exact h b (List.mem_of_mem_take hb)
    · exact h b hb
  generalize Lib.trimSuffix Q.data.toList [10] = l at h1
  induction l with
  | nil => rfl
  | cons a l ih =>
    have h2 := h1 a (by simp)
    have h3 := ih (fun b hb => h1 b (by simp [hb]))
    unfold Lib.countByte at h3 ⊢
    simp_all
/-- Scan of a text that is quoted. -/
theorem scan_quo (s : ByteArray) (hz : (quoV s).length ≤ 1048576) : ∃ l k, scanS ⟨(quoV s).toArray⟩ = .ok [⟨1, s.data.toList, (1, 1, 0)⟩, ⟨0, [], (l, k, (quoV s).length)⟩] := by
  by_cases h0 : s.size = 0
  · have hq : quoV s = [39, 39] := by unfold quoV; rw [if_pos h0]
    have hs : s.data.toList = [] := by apply List.eq_nil_of_length_eq_zero; rw [← Lib.size_eq]; exact h0
    rw [hq, hs]
    exact ⟨1, 3, by kernel_rfl⟩
  · have hq : quoV s = quoF s s.size 0 := by unfold quoV; rw [if_neg h0]
    obtain ⟨Q, hQ⟩ : ∃ Q : ByteArray, Q = ⟨(quoV s).toArray⟩ := ⟨_, rfl⟩
    have hQl : Q.data.toList = quoF s s.size 0 := by rw [hQ]; simp [hq]
    have hQz : Q.size = (quoV s).length := by rw [Lib.size_eq, hQl, hq]
    rw [← hQ]
    obtain ⟨n, hn⟩ : ∃ n, s.size = n + 1 := ⟨s.size - 1, by omega⟩
    have hqu : quoF s s.size 0 = quoU s 0 ++ quoF s n (0 + unitW s 0) := by rw [hn, quoF, if_pos (by omega)]
    obtain ⟨u1, u2, u3⟩ := unitW_bd s 0 (by omega)
    have u3 := u3 (by omega)
    have hd0 : Q.data.toList.drop 0 = quoU s 0 ++ quoF s n (0 + unitW s 0) := by rw [List.drop_zero, hQl, hqu]
    obtain ⟨F1, c1, e1, e2, e3⟩ := run_unit (F := Q.size + 1) (by omega) hd0 (by omega) (by omega) (rd_first Q)
    obtain ⟨F2, c2, e4, e5, e6⟩ := run_quo s Q n (0 + unitW s 0) (0 + (quoU s 0).length) F1 c1 _ (drop_more hd0) (by omega) (by omega) (drop_len hd0 (by omega)) e3 e2
    rw [List.nil_append, seg_app s 0 _ _ (by omega) (by omega), seg_all] at e5
    obtain ⟨l, k, e7⟩ := run_end e6 e5
    refine ⟨l, k, ?_⟩
    have hn10 : nlN Q = 0 := nlN_none (by rw [hQl]; exact quoF_no10 s _ _)
    unfold scanS
    rw [if_neg (by omega), if_neg (by omega), e1, e4, e7]
    simp only [endS]
    rw [if_neg (by decide), if_neg (by decide), hQz]
    rfl
end Go.Proofs.YtlfdpdlhppgakaaGreatDoor
/- The laws' own: works. -/
namespace Go.Proofs.YtlfdpdlhppgakaaGreatDoor
open Go Go.RowKit Go.Kt Go.Shelf Go.Lib
attribute [local go_sem] Oper.semAt_some

theorem ownS_at {Y : Nat → Prop} {e : TypeId} {sz n g cap : Nat} {xs : List Value} {W : World} (h : OwnS Y e sz (.slice (some ⟨g, 0, none⟩) n cap) n xs W) {i : Nat} {u : Value} (hi : xs[i]? = some u) : W.cell? ⟨g, i, none⟩ = some u := by
  have := h.1.cells (g := g) rfl i u hi
  by_cases h0 : i = 0
  · subst h0; simpa [Addr.add] using this
  · simpa [Addr.add, h0] using this
theorem scan_a : scanS ⟨#[97, 32, 60]⟩ = .ok [⟨1, [97], (1, 1, 0)⟩, ⟨2, [60], (1, 3, 2)⟩, ⟨0, [], (1, 4, 3)⟩] := by kernel_rfl
theorem scan_b : scanS ⟨#[97, 32, 93]⟩ = .bad 25 1 3 := by kernel_rfl

set_option maxHeartbeats 1000000 in
set_option maxRecDepth 100000 in
theorem works_any5 (w : World) (hE : SEnv w) :
    Calls Tryz.prog 10 #[] w fun e w' => e = .returned (.bool true) ∧ Below w.heap.size w w' := by
  have C1 := Lib.hid (scan_any ⟨#[97, 32, 60]⟩ w hE (by decide))
  rw [scan_a] at C1
  have HE := Lib.hid hE
  clear hE
  go_enter Tryz.func10, Tryz.ntmps10
  go_wp2_with fail
  refine C1.out.mono ?_
  rintro e w1 ⟨⟨g, cap, rfl, ho⟩, hb1⟩
  have hE1 := HE.out.below hb1
  have C2 := Lib.hid (scan_any ⟨#[97, 32, 93]⟩ w1 hE1 (by decide))
  rw [scan_b] at C2
  have HO := Lib.hid (And.intro ho hb1)
  clear ho hb1 hE1
  go_wp2_with fail
  refine C2.out.mono ?_
  rintro e w2 ⟨rfl, hb2⟩
  have hE2 := (HE.out.below HO.out.2).below hb2
  have ho2 := HO.out.1.keep (X := fun _ => False) (Keep.of_all hb2) (fun _ h => h.elim)
  have q1 : w2.cell? ⟨g, 1, none⟩ = some (.string ⟨#[97]⟩) := ownS_at ho2 (i := 1) rfl
  have q5 : w2.cell? ⟨g, 5, none⟩ = some (.int .i64 2) := ownS_at ho2 (i := 5) rfl
  have CA := Lib.hid (fun V (h : Below w2.heap.size w2 V) => at_fault 25 1 3 V (by decide) (by decide) (hE2.below h).err)
  have HB := Lib.hid (HO.out.2.trans (hb2.mono HO.out.2.size))
  clear ho2 hb2 hE2
  go_wp2_with (go_at_call 13; refine (CA.out _ (Below.refl _ _)).mono ?_; rintro e w3 ⟨rfl, hb3⟩)
  go_ret
  exact ⟨rfl, HB.out.trans (hb3.mono HB.out.size)⟩
end Go.Proofs.YtlfdpdlhppgakaaGreatDoor
/- ScanBack: its walk. -/
namespace Go.Proofs.YtlfdpdlhppgakaaGreatDoor
open Go Go.RowKit Go.Kt Go.Shelf Go.Lib
attribute [local go_sem] Oper.semAt_some

theorem bruijn_below {A B : World} (h : BTab A) (hl : 6 < A.heap.size) (hb : Below A.heap.size A B) : BTab B := fun k hk => (hb.cell (p := ⟨6, k, none⟩) hl).trans (h k hk)
theorem quoF_len (s : ByteArray) : ∀ (f i : Nat), i ≤ s.size → (quoF s f i).length ≤ 13 * (s.size - i) := by
  intro f
  induction f with
  | zero => intro i _; simp [quoF]
  | succ f ih =>
    intro i hi
    rw [quoF]
    split
    · rename_i hlt
      obtain ⟨u1, u2, u3⟩ := unitW_bd s i hi
      have u3 := u3 hlt
      have h1 := ih (i + unitW s i) u2
      have h2 : (quoU s i).length ≤ 13 := by
        unfold quoU
        exact escV_len _ _ (by rw [← Lib.size_eq, ByteArray.size_extract]; omega)
      rw [List.length_append]; omega
    · simp
theorem quoV_len (s : ByteArray) : (quoV s).length ≤ 13 * s.size + 2 := by
  unfold quoV
  split
  · simp
  · have := quoF_len s s.size 0 (Nat.zero_le _); omega

set_option maxHeartbeats 1000000 in
set_option maxRecDepth 100000 in
theorem scanBack_c (s : ByteArray) (w : World) (hE : SEnv w) (hB : BTab w) (hl : 6 < w.heap.size) (hs : s.size ≤ 8796093022208) :
    Calls Tryz.prog 5 #[.string s] w fun e w' => e = .returned (.bool true) ∧ Below w.heap.size w w' := by
  have CQ := Lib.hid (quote_any s w hE hB hl hs)
  have hql := quoV_len s
  have hsq := fun h => scan_quo s h
  obtain ⟨Q, hQ⟩ : ∃ Q : ByteArray, (⟨(quoV s).toArray⟩ : ByteArray) = Q := ⟨_, rfl⟩
  have hQz : Q.size = (quoV s).length := by rw [← hQ]; exact size_mk _
  rw [hQ] at CQ hsq
  rw [← hQz] at hsq hql
  have HE := Lib.hid hE
  clear hQ hQz hE hB hl
  by_cases hz : Q.size ≤ 1048576
  · obtain ⟨l, k, hsc⟩ := hsq hz
    clear hsq
    have hz1 : ¬ (1048576 : Int) < Q.size := by omega
    go_enter Tryz.func5, Tryz.ntmps5
    go_wp2_with fail
    refine CQ.out.mono ?_
    rintro e w1 ⟨rfl, hb1⟩
    have C1 := Lib.hid (scan_any Q w1 (HE.out.below hb1) (by omega))
    rw [hsc] at C1
    have HB1 := Lib.hid hb1
    clear hb1 hsc
    go_wp2_with fail
    refine C1.out.mono ?_
    rintro e w2 ⟨⟨g, cap, rfl, ho⟩, hb2⟩
    have HB2 := Lib.hid (HB1.out.trans (hb2.mono HB1.out.size))
    have k0 : w2.cell? ⟨g, 0, none⟩ = some (.int .i64 1) := ownS_at ho (i := 0) rfl
    have k1 : w2.cell? ⟨g, 1, none⟩ = some (.string ⟨s.data.toList.toArray⟩) := ownS_at ho (i := 1) rfl
    have k4 : w2.cell? ⟨g, 4, none⟩ = some (.int .i64 0) := ownS_at ho (i := 4) rfl
    have k5 : w2.cell? ⟨g, 5, none⟩ = some (.int .i64 0) := ownS_at ho (i := 5) rfl
    have k9 : w2.cell? ⟨g, 9, none⟩ = some (.int .i64 (Q.size : Nat)) := ownS_at ho (i := 9) rfl
    have hse : (⟨s.data.toList.toArray⟩ : ByteArray) = s := by apply ByteArray.ext; simp
    rw [hse] at k1
    have CW := Lib.hid (works_any5 w2 (HE.out.below HB2.out))
    clear ho hb2 hse C1 HB1 CQ hz hql hs
    go_wp2_with (go_at_call 10; refine CW.out.mono ?_; rintro e w3 ⟨rfl, hb3⟩)
    go_ret
    exact ⟨rfl, HB2.out.trans (hb3.mono HB2.out.size)⟩
  · have hz1 : (1048576 : Int) < Q.size := by omega
    have hsc : scanS Q = .bad 5 0 0 := by unfold scanS; rw [if_pos (by omega)]
    clear hsq
    go_enter Tryz.func5, Tryz.ntmps5
    go_wp2_with fail
    refine CQ.out.mono ?_
    rintro e w1 ⟨rfl, hb1⟩
    have C1 := Lib.hid (scan_any Q w1 (HE.out.below hb1) (by omega))
    rw [hsc] at C1
    have HB1 := Lib.hid hb1
    clear hb1 hsc
    go_wp2_with fail
    refine C1.out.mono ?_
    rintro e w2 ⟨rfl, hb2⟩
    have HB2 := Lib.hid (HB1.out.trans (hb2.mono HB1.out.size))
    have CA := Lib.hid (fun V (h : Below w.heap.size w V) => at_fault 5 0 0 V (by decide) (by decide) (HE.out.below h).err)
    have CW := Lib.hid (fun V (h : Below w.heap.size w V) => works_any5 V (HE.out.below h))
    clear hb2 C1 HB1 CQ hz hql hs
    go_wp2_with (first
      | (go_at_call 13; refine (CA.out _ HB2.out).mono ?_; rintro e w3 ⟨rfl, hb3⟩; have HB3 := Lib.hid (HB2.out.trans (hb3.mono HB2.out.size)); clear hb3)
      | (go_at_call 10; refine (CW.out _ HB3.out).mono ?_; rintro e w4 ⟨rfl, hb4⟩))
    go_ret
    exact ⟨rfl, HB3.out.trans (hb4.mono HB3.out.size)⟩
end Go.Proofs.YtlfdpdlhppgakaaGreatDoor
/- Of every text (of bulk at most 1048576), ScanBack answers true (what is quoted is read as that text alone), in any world in which the package's variables are laid: the row and the card. -/
namespace Go.Proofs.YtlfdpdlhppgakaaGreatDoor
open Go.ChangeShapes Go.WideShapes Go.ChangeAt Go.RowKit Go.Kt
set_option maxRecDepth 100000

theorem scanBackUpto_lifted (os : Os) (started : os.Started) (H : Type) (enc : TypeId × Value → H) (F : Stop.Interp) :
    ReturnsInHanded {} Tryz.checked os 5 .any ((Rows.OpenSpec.upto Rows.scanBackSpec).preRow enc Tryz.prog Tryz.f5 Rows.scanBackUptoRow.domain false Rows.scanBackUptoRow.laid) (((Rows.OpenSpec.upto Rows.scanBackSpec).at F).post enc Tryz.prog Tryz.f5 false true false false) := by
  refine returnsInHanded_of_row (C := Tryz.checked) (s := Rows.OpenSpec.upto Rows.scanBackSpec) own started (by kernel_rfl) Tryz.func5
    (witness_row_at (enc := enc) (C := Tryz.checked) false (world8 os) #[.string ⟨#[]⟩] (world8_os _) (by kernel_rfl) (by kernel_rfl) (by kernel_rfl)
      (OpenSpec.preRow_of_cond (x := ([.lit (.string [])], [], [])) 8 (by kernel_rfl) (by kernel_rfl) (fun k hk => by cases hk; kernel_rfl) (by kernel_rfl) (laid_met8 os _))) ?_
  intro W base args ds gs before hval0 hW _ hcond hz hL _ _
  have hval : ∀ (j : Nat) t v, Tryz.f5.params[j]? = some t → args[j]? = some v → Value.okWide Tryz.prog W .any base t v := hval0
  have hW' := hW
  obtain ⟨p, q, hA0, hV, rfl, _, _⟩ := hW
  have hA : DataW.TrodAll enc Tryz.prog W 0 (fun _ => true) true Tryz.f5.params.toList args.toList ds p := hA0
  rw [Tryz.params5] at hA hval
  obtain ⟨v0, d0, rfl, rfl, h0⟩ := trodAll_one hA
  obtain ⟨rfl, rfl⟩ := trodVars_none hV
  obtain ⟨a0, rfl, rfl, rfl, w0⟩ := ChangeMaps.open_string Tryz.underlying9 (hval 0 9 v0 rfl rfl) h0
  have z0 : a0.size ≤ 140737488351232 := by simpa [reachBytes] using sized_string hz (j := 0) rfl rfl
  obtain ⟨hE, hT, hTl⟩ := of_laid8 hL
  have hB := of_decide_eq_true (hcond _ rfl)
  simp only [List.append_nil, Rows.uptoBulkAll, Rows.uptoBulk, Array.length_toList] at hB
  clear hA0 hval0
  simp only [List.append_nil] at hW'
  refine (scanBack_c a0 W hE hT hTl (by have e : a0.size = a0.data.size := rfl; omega)).mono fun e W' ⟨he, hb⟩ => ?_
  subst he
  exact ⟨_, rfl, _, _, _, [], [], [], hW', trodAll_mk1 (shut_bool Tryz.underlying4 _), (trodAll_mk1 (ChangeMaps.shut_string Tryz.underlying9 w0)), rfl, hb.frame _, fun h => by cases h⟩

theorem scanBackUpto_said : Rows.ScanBackUptoSaid :=
  OpenClaim.holds_of_cond 5 Tryz.f5 rfl rfl rfl rfl rfl rfl rfl ⟨rfl, rfl, rfl, rfl, rfl⟩ rfl rfl rfl rfl rfl (by kernel_rfl) Tryz.func5 (by kernel_rfl)
    (of_decide_eq_true (by kernel_rfl)) (by unfold Func.isWrapper; first | (rw [if_pos (by decide +kernel)]; kernel_rfl) | (rw [if_neg (by decide +kernel)]; exact ⟨rfl, rfl⟩))
    (fun os started H enc _ F => by rw [OpenClaim.pre_eq_preRow]; exact scanBackUpto_lifted os started H enc F)

theorem scanBackUpto_plain (f : FuncId) (fn : Func) (hf : Tryz.pinned.checked.prog.funcNamed "glossary/glossarylaw05.ScanBack" = some f) (hfn : Tryz.pinned.checked.prog.funcs[f]? = some fn) :
    true = Tryz.pinned.checked.prog.looks [] ∧ ∀ (j : Nat) t, fn.params[j]? = some t → Tryz.pinned.checked.prog.wantsStandIn t = false := by
  obtain rfl : f = 5 := Option.some.inj ((show Tryz.prog.funcNamed "glossary/glossarylaw05.ScanBack" = some 5 by kernel_rfl).symm.trans hf) |>.symm
  obtain rfl : fn = Tryz.f5 := (Option.some.inj (Tryz.func5.symm.trans hfn)).symm
  refine ⟨by kernel_rfl, fun j t ht => ?_⟩
  rw [Tryz.params5] at ht
  have hm : t ∈ [9] := by simpa using Array.mem_of_getElem? ht
  have hall : ([9].all fun u => !Tryz.prog.wantsStandIn u) = true := by kernel_rfl
  exact (show Tryz.prog.wantsStandIn t = false by simpa using List.all_eq_true.1 hall t hm)

theorem scanBackUpto_card : Rows.ScanBackUptoCardSaid :=
  Claim7.holds_tied_plain_at .later [] _ _ _ _ scanBackUpto_said (fun _ h => by cases h) (by kernel_rfl) (fun _ h => by cases h) scanBackUpto_row_tie rfl ⟨rfl, rfl⟩ (by kernel_rfl) rfl scanBackUpto_plain (by kernel_rfl)

end Go.Proofs.YtlfdpdlhppgakaaGreatDoor
