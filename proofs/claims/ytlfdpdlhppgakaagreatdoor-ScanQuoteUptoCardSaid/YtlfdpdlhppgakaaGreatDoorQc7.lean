/- Parts of the proof of what the last text says. -/
import Derived.Test.YtlfdpdlhppgakaaGreatDoorQc6
import Derived.Test.YtlfdpdlhppgakaaGreatDoorQc2
import Derived.Test.YtlfdpdlhppgakaaGreatDoorQc4
import Derived.Deep.AppendLies
import Derived.Test.YtlfdpdlhppgakaaGreatDoorQc3
import Derived.Test.YtlfdpdlhppgakaaGreatDoorQc1
import Derived.Test.YtlfdpdlhppgakaaGreatDoorCards
/- A text that is quoted is read as that text: the scanner's run over quoV. No run in this text. -/
namespace Go.Proofs.YtlfdpdlhppgakaaGreatDoor
open Go Go.RowKit Go.Kt Go.Kt.Rg Go.Shelf Go.Lib

theorem decN_pre {N N' b0 b1 b2 b3 d1 d2 d3 r w : Nat} (h : decodeN N b0 b1 b2 b3 = (r, w)) (hne : ¬ (r = 65533 ∧ w = 1)) (hN : w ≤ N') (h1 : 1 < w → d1 = b1) (h2 : 2 < w → d2 = b2) (h3 : 3 < w → d3 = b3) : decodeN N' b0 d1 d2 d3 = (r, w) := by
  unfold decodeN at h ⊢
  split at h
  · rename_i g; rw [if_pos g]; exact h
  rename_i g0
  rw [if_neg g0]
  split at h
  · rename_i g1
    split at h
    · rename_i g2
      cases h
      have e := h1 (by decide); subst e
      rw [if_pos ⟨g1.1, by omega, g1.2.2⟩, if_pos g2]
    · cases h; exact absurd ⟨rfl, rfl⟩ hne
  split at h
  · rename_i g1 g2
    split at h
    · rename_i g3
      cases h
      have e := h1 (by decide); subst e
      have e := h2 (by decide); subst e
      rw [if_neg (by omega), if_pos ⟨g2.1, ⟨by omega, g2.2.1.2⟩, by omega, g2.2.2.2⟩, if_pos g3]
    · cases h; exact absurd ⟨rfl, rfl⟩ hne
  split at h
  · rename_i g1 g2 g3
    split at h
    · rename_i g4
      cases h
      have e := h1 (by decide); subst e
      have e := h2 (by decide); subst e
      have e := h3 (by decide); subst e
      rw [if_neg (by omega), if_neg (by omega), if_pos ⟨g3.1, ⟨by omega, g3.2.1.2⟩, ⟨by omega, g3.2.2.1.2⟩, by omega, g3.2.2.2.2⟩, if_pos g4]
    · cases h; exact absurd ⟨rfl, rfl⟩ hne
  · cases h; exact absurd ⟨rfl, rfl⟩ hne

section
variable {Q : ByteArray} {p : Nat} {E rest : List UInt8}
theorem drop_len (h : Q.data.toList.drop p = E ++ rest) (hp : p ≤ Q.size) : p + E.length ≤ Q.size := by
  have h1 := congrArg List.length h
  rw [List.length_drop, List.length_append, ← Lib.size_eq] at h1
  omega
theorem B_drop (h : Q.data.toList.drop p = E ++ rest) {j : Nat} (hj : j < E.length) : B Q (p + j) = (E.getD j 0).toNat := by
  unfold B
  have h1 : Q.data.toList[p + j]? = E[j]? := by
    rw [← List.getElem?_drop, h, List.getElem?_append_left hj]
  rw [List.getD_eq_getElem?_getD, h1, List.getD_eq_getElem?_getD]
theorem drop_more (h : Q.data.toList.drop p = E ++ rest) : Q.data.toList.drop (p + E.length) = rest := by
  rw [← List.drop_drop, h, List.drop_left]
theorem seg_drop (h : Q.data.toList.drop p = E ++ rest) : seg Q p (p + E.length) = E := by
  rw [seg_eq, List.drop_take, Nat.add_sub_cancel_left, h, List.take_left]
theorem ext_rest (h : Q.data.toList.drop p = E ++ rest) : (Q.extract p Q.size).data.toList = E ++ rest := by
  have : (Q.extract p Q.size).data.toList = seg Q p Q.size := rfl
  rw [this, seg_eq, List.take_of_length_le (by rw [← Lib.size_eq]; omega), h]
end
theorem dec_lo (Q : ByteArray) (p : Nat) (h : B Q p < 128) : Utf8.decode Q p = (B Q p, 1) := by
  rw [decode_B]; unfold decodeN; rw [if_pos h]

/-- A text that is open at its next piece. -/
structure Bd (p : Nat) (c : Sc) (x : List UInt8) : Prop where
  fr : c.from = (1, 1, 0)
  toks : c.toks = []
  text : c.text = x
  st : c.st = 4 ∨ c.st = 7 ∧ c.behind ≤ p
def okr (r : Int) : Prop := isBlk r = false ∧ (r = 92 ∨ isSgs r = false) ∧ isSgn (encL r) = false
/-- The scanner is ready for a text's next piece. -/
def Rd (Q : ByteArray) (p : Nat) (c : Sc) (x : List UInt8) : Prop :=
  ∃ c1 : Sc, c1.here.2.2 = p ∧ c1.from = (1, 1, 0) ∧ c1.toks = [] ∧ c1.text = x ∧ ∀ r c', okr r → plainS Q c1 r = .took c' → tokenS Q { c with here := plNext Q c.here p } r = .ok c'
theorem Bd.token {p : Nat} {c : Sc} {x : List UInt8} (h : Bd p c x) (Q : ByteArray) (r : Int) : tokenS Q { c with here := plNext Q c.here p } r = textS Q { c with here := plNext Q c.here p } r ∧ pieceS Q { c with here := plNext Q c.here p } r = plainS Q { c with here := plNext Q c.here p } r := by
  have hx := (plNext_ix Q c.here p).1
  rcases h.st with h4 | ⟨h7, hb⟩
  · exact ⟨by unfold tokenS; simp [h4], by unfold pieceS; simp [h4]⟩
  · refine ⟨by unfold tokenS; simp [h7], ?_⟩
    simp [pieceS, escapeS, h7, hx, hb]
theorem Bd.rd {p : Nat} {c : Sc} {x : List UInt8} (h : Bd p c x) (Q : ByteArray) : Rd Q p c x := by
  refine ⟨{ c with here := plNext Q c.here p }, (plNext_ix Q c.here p).1, h.fr, h.toks, h.text, fun r c' _ hp => ?_⟩
  obtain ⟨h1, h2⟩ := h.token Q r
  rw [h1]
  unfold textS
  rw [h2, hp]
theorem rd_first (Q : ByteArray) : Rd Q 0 c0S [] := by
  refine ⟨⟨4, (1, 1, 0), (1, 1, 0), [], (0, 0, 0), 0, []⟩, rfl, rfl, rfl, rfl, fun r c' hr hp => ?_⟩
  obtain ⟨h1, h2, h3⟩ := hr
  have h35 : r ≠ 35 := by rintro rfl; rcases h2 with h | h; cases h; exact absurd h (by decide)
  have h91 : r ≠ 91 := by rintro rfl; rcases h2 with h | h; cases h; exact absurd h (by decide)
  have h93 : r ≠ 93 := by rintro rfl; rcases h2 with h | h; cases h; exact absurd h (by decide)
  have h42 : r ≠ 42 := by rintro rfl; rcases h2 with h | h; cases h; exact absurd h (by decide)
  have e : tokenS Q { c0S with here := plNext Q c0S.here 0 } r = betweenS Q { c0S with here := plNext Q c0S.here 0 } r := by simp [tokenS, c0S]
  rw [e]
  unfold betweenS
  rw [if_neg (by rw [h1]; decide), if_neg h35, if_neg (by rw [h3]; decide), if_neg h91, if_neg h93, if_neg h42]
  show (plainS Q ⟨4, (1, 1, 0), (1, 1, 0), [], (0, 0, 0), 0, []⟩ r).out = _
  rw [hp]
  rfl
theorem runS_one {Q : ByteArray} {f i v r : Nat} {c c' : Sc} (hi : i < Q.size + 1) (hd : Utf8.decode (Q ++ nlB) i = (r, v)) (ht : tokenS Q { c with here := plNext Q c.here i } (r : Nat) = .ok c') : runS Q (f + 1) i c = runS Q f (i + v) c' := by
  rw [runS, if_pos hi, hd, ht]
theorem dec_in {Q : ByteArray} {p : Nat} (h : p < Q.size) (hb : B Q p < 128) : Utf8.decode (Q ++ nlB) p = (B Q p, 1) := by
  rw [decode_nl Q p h, dec_lo Q p hb]
/-- The units of an escape pass. -/
theorem run_pass (Q : ByteArray) : ∀ (n p : Nat) (c : Sc) (F : Nat), (∀ j, j < n → B Q (p + j) < 128) → p + n ≤ Q.size → c.st = 7 → c.behind = p + n → Q.size + 1 ≤ p + F →
    ∃ F' c', runS Q F p c = runS Q F' (p + n) c' ∧ c'.from = c.from ∧ c'.toks = c.toks ∧ c'.text = c.text ∧ c'.st = 7 ∧ c'.behind = p + n ∧ Q.size + 1 ≤ p + n + F' := by
  intro n
  induction n with
  | zero => intro p c F _ _ hs hb hF; exact ⟨F, c, rfl, rfl, rfl, rfl, hs, hb, hF⟩
  | succ n ih =>
    intro p c F hB hp hs hb hF
    obtain ⟨F, rfl⟩ : ∃ f, F = f + 1 := ⟨F - 1, by omega⟩
    have hx := (plNext_ix Q c.here p).1
    have ht : tokenS Q { c with here := plNext Q c.here p } (B Q p : Nat) = .ok { c with here := plNext Q c.here p } := by
      have hnl : ¬ p + (n + 1) ≤ p := by omega
      simp [tokenS, textS, pieceS, escapeS, hs, hx, hb]
      rw [if_neg hnl]
    have hB0 := hB 0 (by omega)
    rw [Nat.add_zero] at hB0
    have h1 := runS_one (f := F) (by omega) (dec_in (by omega) hB0) ht
    obtain ⟨F', c', e1, e2, e3, e4, e5, e6, e7⟩ := ih (p + 1) { c with here := plNext Q c.here p } F (fun j hj => by have := hB (j + 1) (by omega); rw [show p + 1 + j = p + (j + 1) by omega]; exact this) (by omega) hs (by simp only; omega) (by omega)
    refine ⟨F', c', ?_, e2, e3, e4, e5, by omega, by omega⟩
    rw [h1, e1, show p + 1 + n = p + (n + 1) by omega]
/-- An escape E, that stands for t, is taken. -/
theorem run_esc {Q : ByteArray} {p : Nat} {c : Sc} {x E rest t : List UInt8} {F : Nat} (hE : Q.data.toList.drop p = (92 :: E) ++ rest) (hp : p ≤ Q.size) (ha : ∀ b ∈ E, b.toNat < 128) (hF : Q.size + 1 ≤ p + F) (hrd : Rd Q p c x)
    (hu : unescV (Q.extract p Q.size) = some (t, E.length + 1)) :
    ∃ F' c', runS Q F p c = runS Q F' (p + (E.length + 1)) c' ∧ Bd (p + (E.length + 1)) c' (x ++ t) ∧ Q.size + 1 ≤ p + (E.length + 1) + F' := by
  obtain ⟨c1, g1, g2, g3, g4, g5⟩ := hrd
  have hln := drop_len hE hp
  rw [List.length_cons] at hln
  obtain ⟨F, rfl⟩ : ∃ f, F = f + 1 := ⟨F - 1, by omega⟩
  have hB0 : B Q p = 92 := by have := B_drop hE (j := 0) (by simp); simpa using this
  have hpl : plainS Q c1 92 = .took { c1 with st := 7, text := c1.text ++ t, behind := c1.here.2.2 + (E.length + 1) } := by
    unfold plainS
    rw [if_neg (by decide), if_pos rfl, g1, hu]
  have ht := g5 92 _ ⟨by decide, .inl rfl, by decide⟩ hpl
  have h1 := runS_one (f := F) (v := 1) (r := 92) (by omega) (by rw [dec_in (by omega) (by omega), hB0]) ht
  obtain ⟨F', c', e1, e2, e3, e4, e5, e6, e7⟩ := run_pass Q E.length (p + 1) { c1 with st := 7, text := c1.text ++ t, behind := c1.here.2.2 + (E.length + 1) } F (fun j hj => by
      have := B_drop hE (j := j + 1) (by simp; omega)
      rw [show p + 1 + j = p + (j + 1) by omega, this]
      simp only [List.getD_cons_succ]
      rw [List.getD_eq_getElem?_getD, List.getElem?_eq_getElem hj]
      exact ha _ (List.getElem_mem hj)) (by omega) rfl (by simp only; omega) (by omega)
  refine ⟨F', c', ?_, ⟨e2.trans g2, e3.trans g3, by rw [e4]; simp only [g4], .inr ⟨e5, by omega⟩⟩, by omega⟩
  rw [h1, e1, show p + 1 + E.length = p + (E.length + 1) by omega]
/-- A unit that is neither a blank's nor a sign's is taken. -/
theorem run_plain {Q : ByteArray} {p r : Nat} {c : Sc} {x E rest : List UInt8} {F : Nat} (hE : Q.data.toList.drop p = E ++ rest) (hp : p ≤ Q.size) (hl : 1 ≤ E.length) (hd : Utf8.decode (Q ++ nlB) p = (r, E.length)) (hF : Q.size + 1 ≤ p + F) (hrd : Rd Q p c x)
    (h1 : isBlk (r : Nat) = false) (h2 : isSgs (r : Nat) = false) (h3 : isSgn (encL (r : Nat)) = false) :
    ∃ F' c', runS Q F p c = runS Q F' (p + E.length) c' ∧ Bd (p + E.length) c' (x ++ E) ∧ Q.size + 1 ≤ p + E.length + F' := by
  obtain ⟨c1, g1, g2, g3, g4, g5⟩ := hrd
  have hln := drop_len hE hp
  obtain ⟨F, rfl⟩ : ∃ f, F = f + 1 := ⟨F - 1, by omega⟩
  have n39 : ((r : Nat) : Int) ≠ 39 := fun h => by rw [h] at h2; exact absurd h2 (by decide)
  have n92 : ((r : Nat) : Int) ≠ 92 := fun h => by rw [h] at h2; exact absurd h2 (by decide)
  have hw : unitW Q p = E.length := by unfold unitW; rw [if_pos (by omega), ← decode_nl Q p (by omega), hd]
  have hU : unitL Q p = E := by unfold unitL; rw [hw]; exact seg_drop hE
  have hpl : plainS Q c1 (r : Nat) = .took { c1 with st := 4, text := c1.text ++ E } := by
    unfold plainS
    rw [if_neg n39, if_neg n92, if_neg (by rw [h1]; decide), if_neg (by rw [h2]; decide), g1, hU]
  have ht := g5 (r : Nat) _ ⟨h1, .inr h2, h3⟩ hpl
  refine ⟨F, _, runS_one (by omega) hd ht, ⟨g2, g3, by simp only [g4], .inl rfl⟩, by omega⟩

section
variable {X : ByteArray} {rest : List UInt8}
theorem xunit_one {u : UInt8} {a : UInt8} (hX : X.data.toList = a :: u :: rest) (hu : u.toNat < 128) : unitW X 1 = 1 ∧ (decP X 1).1 = (u.toNat : Int) ∧ 2 ≤ X.size := by
  have hz : 2 ≤ X.size := by rw [Lib.size_eq, hX]; simp
  have hB : B X 1 = u.toNat := by unfold B; rw [hX]; rfl
  have hd := dec_lo X 1 (by rw [hB]; exact hu)
  refine ⟨by unfold unitW; rw [if_pos (by omega), hd], ?_, hz⟩
  have := decP_in X 1 (by omega)
  rw [show ((1 : Nat) : Int) = 1 from rfl] at this
  rw [this, hd, hB]
theorem unesc_ill {b : Nat} (hX : X.data.toList = 92 :: (120 :: hexL b) ++ rest) (h : 128 ≤ b) (h2 : b < 256) : unescV X = some ([UInt8.ofNat b], 4) := by
  obtain ⟨e1, e2, e3⟩ := xunit_one hX (by decide)
  have hh := hex_two b h2 (by omega)
  unfold unescV
  rw [e1, if_neg (by decide), e2, if_neg (by decide), if_pos (by decide)]
  unfold illV
  have hd2 : (X.data.toList.drop 2).take 2 = hexL b := by
    rw [hX]
    show (hexL b ++ rest).take 2 = hexL b
    rw [← hh, List.take_left]
  rw [hd2, puV_hex 255 b (by omega) (by omega), if_neg (by rw [hX]; simp [hh])]
  simp only
  rw [if_neg (by omega)]
set_option maxRecDepth 100000 in
theorem unesc_chr {r : Nat} (hX : X.data.toList = 92 :: (117 :: 123 :: hexL r ++ [125]) ++ rest) (h : r < 128) : unescV X = some ([UInt8.ofNat r], 4 + (hexL r).length) := by
  have hX2 : X.data.toList = 92 :: 117 :: (123 :: (hexL r ++ 125 :: rest)) := by rw [hX]; simp
  obtain ⟨e1, e2, e3⟩ := xunit_one hX2 (by decide)
  unfold unescV
  rw [e1, if_neg (by decide), e2, if_pos (by decide)]
  unfold chrV
  have ho : opn X.data.toList = true := by rw [hX2]; rfl
  have hr : rst X.data.toList = hexL r ++ 125 :: rest := by unfold rst; rw [if_pos ho, hX2]; rfl
  have hup : upB (rst X.data.toList) = hexL r := by rw [hr]; exact upB_at _ _ (fun c hc => (hexF_clean 8 r c hc).1)
  have hct : (rst X.data.toList).contains 125 = true := by rw [hr]; simp
  have hpu : puV 16777215 (upB (rst X.data.toList)) = some r := by rw [hup]; exact puV_hex _ _ (by omega) (by omega)
  rw [hpu, hup, ho, hct]
  have hl6 : (hexL r).length ≤ 6 := (by decide +kernel : ∀ r, r < 128 → (hexL r).length ≤ 6) r h
  have hv : Lib.validRune (r : Nat) = true := (by decide +kernel : ∀ r : Nat, r < 128 → Lib.validRune (r : Nat) = true) r h
  have he : (Utf8.encode (r : Nat)).data.toList = [UInt8.ofNat r] := (by decide +kernel : ∀ r : Nat, r < 128 → (Utf8.encode (r : Nat)).data.toList = [UInt8.ofNat r]) r h
  unfold chrO
  simp only
  rw [hv, he, decide_eq_true hl6]
  rfl
theorem unesc_sgs {u : UInt8} (hX : X.data.toList = 92 :: [u] ++ rest) (hu : u.toNat < 128) (h1 : u ≠ 117) (h2 : u ≠ 120) : unescV X = some ([u], 2) := by
  obtain ⟨e1, e2, e3⟩ := xunit_one (X := X) (rest := rest) hX hu
  have n1 : (u.toNat : Int) ≠ 117 := fun h => h1 (by apply UInt8.toNat_inj.1; have : (117 : UInt8).toNat = 117 := rfl; omega)
  have n2 : (u.toNat : Int) ≠ 120 := fun h => h2 (by apply UInt8.toNat_inj.1; have : (120 : UInt8).toNat = 120 := rfl; omega)
  unfold unescV
  rw [e1, if_neg (by decide), e2, if_neg n1, if_neg n2]
  have : (X.extract 1 (1 + 1)).data.toList = [u] := by
    have h3 : (X.extract 1 (1 + 1)).data.toList = seg X 1 (1 + 1) := rfl
    rw [h3, seg_eq, hX]
    rfl
  rw [this]
end

theorem dec_r_lo {s : ByteArray} {i : Nat} (h : (Utf8.decode s i).1 < 128) : B s i = (Utf8.decode s i).1 ∧ (Utf8.decode s i).2 = 1 := by
  rw [decode_B] at h ⊢
  revert h
  unfold decodeN
  repeat' split
  all_goals (intro h; first | exact ⟨rfl, rfl⟩ | (exfalso; simp only at h; omega))
set_option maxRecDepth 100000 in
theorem nsgn {s : ByteArray} {i : Nat} (h : isSgs ((Utf8.decode s i).1 : Nat) = false) (_hi : i < s.size) (hw : ¬ ((Utf8.decode s i).1 = 65533 ∧ (Utf8.decode s i).2 = 1)) : isSgn (encL ((Utf8.decode s i).1 : Nat)) = false := by
  by_cases h1 : (Utf8.decode s i).1 < 128
  · generalize (Utf8.decode s i).1 = r at *
    revert h
    exact (by decide +kernel : ∀ r : Nat, r < 128 → isSgs (r : Nat) = false → isSgn (encL (r : Nat)) = false) r h1
  · have hv : Utf8.valid ((Utf8.decode s i).1 : Nat) = true := by
      rw [decode_B] at hw h1 ⊢
      revert hw h1
      unfold decodeN
      repeat' split
      all_goals (intro hw h1; simp only at hw h1 ⊢; first | (exfalso; omega) | (simp only [Utf8.valid, Bool.or_eq_true, Bool.and_eq_true, decide_eq_true_iff]; omega) | (exact absurd ⟨rfl, rfl⟩ hw))
    obtain ⟨q1, q2, q3⟩ := enc_hi ((Utf8.decode s i).1 : Nat) (by omega) hv
    have hl : (encL ((Utf8.decode s i).1 : Nat)).length = (Utf8.encode ((Utf8.decode s i).1 : Nat)).size := (Lib.size_eq _).symm
    have hne : encL ((Utf8.decode s i).1 : Nat) ∉ sgnL := by
      intro hm
      have hall : ∀ l ∈ sgnL, ∃ c ∈ l, c.toNat < 128 := by decide
      obtain ⟨c, hc, hlt⟩ := hall _ hm
      have := q3 c hc
      omega
    unfold isSgn
    simpa using hne
theorem one_byte {s : ByteArray} {i : Nat} (hi : i < s.size) : seg s i (i + 1) = [UInt8.ofNat (B s i)] := by
  rw [seg_range s i 1 (by omega)]
  rfl
theorem hexL_lo : ∀ u, u < 256 → ∀ b ∈ hexL u, b.toNat < 128 := by decide +kernel
theorem sgs_lt {r : Nat} (h : isSgs (r : Nat) = true) : r < 128 ∧ r ≠ 117 ∧ r ≠ 120 := by
  by_cases h1 : r < 128
  · refine ⟨h1, ?_, ?_⟩ <;> (rintro rfl; exact absurd h (by decide))
  · rw [isSgs_hi (r : Nat) (by omega)] at h; cases h
theorem unitW_dec {s : ByteArray} {i : Nat} (hi : i < s.size) : unitW s i = (Utf8.decode s i).2 := by unfold unitW; rw [if_pos hi]
theorem run_unit {s Q : ByteArray} {i p : Nat} {c : Sc} {x rest : List UInt8} {F : Nat} (hi : i < s.size) (hQ : Q.data.toList.drop p = quoU s i ++ rest) (hp : p ≤ Q.size) (hF : Q.size + 1 ≤ p + F) (hrd : Rd Q p c x) :
    ∃ F' c', runS Q F p c = runS Q F' (p + (quoU s i).length) c' ∧ Bd (p + (quoU s i).length) c' (x ++ seg s i (i + unitW s i)) ∧ Q.size + 1 ≤ p + (quoU s i).length + F' := by
  have hw := unitW_dec hi
  obtain ⟨d1, d2, d3⟩ := dec_width s i hi
  have hdP : (decP s (i : Nat)).1 = ((Utf8.decode s i).1 : Int) := by rw [decP_in s i hi]
  have hU : quoU s i = escV (seg s i (i + unitW s i)) ((Utf8.decode s i).1 : Nat) := by unfold quoU; rw [hdP]; rfl
  have hln : (seg s i (i + unitW s i)).length = unitW s i := by rw [seg_len s i _ (by omega) (by omega)]; omega
  unfold escV at hU
  by_cases h1 : ((Utf8.decode s i).1 : Int) = 65533 ∧ (seg s i (i + unitW s i)).length = 1
  · rw [if_pos h1] at hU
    obtain ⟨h1, h2⟩ := h1
    have hw1 : unitW s i = 1 := by omega
    have hb : ¬ B s i < 128 := fun hb => by
      have := dec_lo s i hb
      rw [this] at h1
      simp only at h1
      omega
    have hB := B_lt s i
    rw [hw1, one_byte hi] at hU ⊢
    have hU2 : quoU s i = 92 :: (120 :: hexL (B s i)) := by
      rw [hU]
      have : (([UInt8.ofNat (B s i)] : List UInt8).getD 0 0).toNat = B s i := by simp; omega
      rw [this]; rfl
    have hh := hex_two (B s i) hB (by omega)
    rw [hU2] at hQ ⊢
    exact run_esc (t := [UInt8.ofNat (B s i)]) hQ hp (by
      intro b hb2
      rcases List.mem_cons.1 hb2 with rfl | hb2
      · decide
      · exact hexL_lo _ hB b hb2) hF hrd (by rw [unesc_ill (X := Q.extract p Q.size) (ext_rest hQ) (by omega) hB]; simp [hh])
  rw [if_neg h1] at hU
  by_cases h2 : ((Utf8.decode s i).1 : Int) ≤ 32 ∨ ((Utf8.decode s i).1 : Int) = 127
  · rw [if_pos h2] at hU
    obtain ⟨hb, hw1⟩ := dec_r_lo (s := s) (i := i) (by omega)
    have hw1 : unitW s i = 1 := hw.trans hw1
    rw [hw1, one_byte hi]
    have hU2 : quoU s i = 92 :: (117 :: 123 :: hexL (B s i) ++ [125]) := by
      rw [hU, ← hb]; simp
    rw [hU2] at hQ ⊢
    exact run_esc (t := [UInt8.ofNat (B s i)]) hQ hp (by
      intro b hb2
      simp only [List.cons_append, List.mem_cons, List.mem_append, List.not_mem_nil, or_false] at hb2
      rcases hb2 with rfl | rfl | hb2 | rfl
      · decide
      · decide
      · exact hexL_lo _ (by omega) b hb2
      · decide) hF hrd (by rw [unesc_chr (X := Q.extract p Q.size) (ext_rest hQ) (by omega)]; simp; omega)
  rw [if_neg h2] at hU
  by_cases h3 : isSgs ((Utf8.decode s i).1 : Nat) = true
  · rw [if_pos h3] at hU
    obtain ⟨q1, q2, q3⟩ := sgs_lt h3
    obtain ⟨hb, hw1⟩ := dec_r_lo (s := s) (i := i) q1
    have hw1 : unitW s i = 1 := hw.trans hw1
    rw [hw1, one_byte hi] at hU ⊢
    have hu : (UInt8.ofNat (B s i)).toNat = B s i := by simp; omega
    have hU2 : quoU s i = 92 :: [UInt8.ofNat (B s i)] := by rw [hU]; rfl
    rw [hU2] at hQ ⊢
    exact run_esc (t := [UInt8.ofNat (B s i)]) hQ hp (by
      intro b hb2
      rw [List.mem_singleton] at hb2
      subst hb2
      omega) hF hrd (by
        rw [unesc_sgs (X := Q.extract p Q.size) (ext_rest hQ) (by omega) (fun h => by rw [h] at hu; have : (117 : UInt8).toNat = 117 := rfl; omega) (fun h => by rw [h] at hu; have : (120 : UInt8).toNat = 120 := rfl; omega)]
        rfl)
  have h3 : isSgs ((Utf8.decode s i).1 : Nat) = false := by simpa using h3
  rw [if_neg (by rw [h3]; decide)] at hU
  have hne : ¬ ((Utf8.decode s i).1 = 65533 ∧ (Utf8.decode s i).2 = 1) := fun h => h1 ⟨by omega, by omega⟩
  rw [hU] at hQ ⊢
  have hdl := drop_len hQ hp
  have hBj : ∀ j, j < unitW s i → B (Q ++ nlB) (p + j) = B s (i + j) := fun j hj => by
    rw [nl_B Q _ (by omega), B_drop hQ (by omega), seg_range s i _ (by omega), List.getD_eq_getElem?_getD, List.getElem?_map, List.getElem?_range hj]
    have := B_lt s (i + j)
    simp; omega
  have hd : Utf8.decode (Q ++ nlB) p = ((Utf8.decode s i).1, (seg s i (i + unitW s i)).length) := by
    rw [hln, hw, decode_B]
    have hB0 := hBj 0 (by omega)
    rw [Nat.add_zero, Nat.add_zero] at hB0
    rw [hB0]
    have hnz := nl_size Q
    exact decN_pre (by rw [← decode_B]) hne (by omega) (fun h => hBj 1 (by omega)) (fun h => hBj 2 (by omega)) (fun h => hBj 3 (by omega))
  have hbk : isBlk ((Utf8.decode s i).1 : Nat) = false := by
    unfold isBlk
    simp only [Bool.or_eq_false_iff, beq_eq_false_iff_ne]
    refine ⟨⟨⟨?_, ?_⟩, ?_⟩, ?_⟩ <;> omega
  exact run_plain hQ hp (by omega) hd hF hrd hbk h3 (nsgn h3 hi hne)

theorem run_quo (s Q : ByteArray) : ∀ (f i p : Nat) (F : Nat) (c : Sc) (x : List UInt8), Q.data.toList.drop p = quoF s f i → s.size ≤ i + f → i ≤ s.size → p ≤ Q.size → Q.size + 1 ≤ p + F → Bd p c x →
    ∃ F' c', runS Q F p c = runS Q F' Q.size c' ∧ Bd Q.size c' (x ++ seg s i s.size) ∧ 1 ≤ F' := by
  have hend : ∀ (p F : Nat) (c : Sc) (x : List UInt8), Q.data.toList.drop p = [] → p ≤ Q.size → Q.size + 1 ≤ p + F → Bd p c x → ∃ F' c', runS Q F p c = runS Q F' Q.size c' ∧ Bd Q.size c' (x ++ seg s s.size s.size) ∧ 1 ≤ F' := by
    intro p F c x hq hp hF hb
    have : p = Q.size := by
      have h1 := congrArg List.length hq
      rw [List.length_drop, ← Lib.size_eq] at h1
      simp at h1
      omega
    subst this
    exact ⟨F, c, rfl, by rw [seg_self, List.append_nil]; exact hb, by omega⟩
  intro f
  induction f with
  | zero =>
    intro i p F c x hq hf hi hp hF hb
    have : i = s.size := by omega
    subst this
    exact hend p F c x hq hp hF hb
  | succ f ih =>
    intro i p F c x hq hf hi hp hF hb
    rw [quoF] at hq
    by_cases hlt : i < s.size
    · rw [if_pos hlt] at hq
      obtain ⟨u1, u2, u3⟩ := unitW_bd s i hi
      have u3 := u3 hlt
      obtain ⟨F1, c1, e1, e2, e3⟩ := run_unit hlt hq hp hF (hb.rd Q)
      obtain ⟨F2, c2, e4, e5, e6⟩ := ih (i + unitW s i) (p + (quoU s i).length) F1 c1 _ (drop_more hq) (by omega) (by omega) (drop_len hq hp) e3 e2
      refine ⟨F2, c2, e1.trans e4, ?_, e6⟩
      rw [List.append_assoc, seg_app s i _ _ (by omega) (by omega)] at e5
      exact e5
    · rw [if_neg hlt] at hq
      have : i = s.size := by omega
      subst this
      exact hend p F c x hq hp hF hb
theorem run_end {Q : ByteArray} {F : Nat} {c : Sc} {x : List UInt8} (hF : 1 ≤ F) (hb : Bd Q.size c x) : ∃ l k, runS Q F Q.size c = .ok ⟨0, (l, k, Q.size), (l, k, Q.size), x, c.quote, c.behind, [⟨1, x, (1, 1, 0)⟩]⟩ := by
  obtain ⟨F, rfl⟩ : ∃ f, F = f + 1 := ⟨F - 1, by omega⟩
  obtain ⟨h1, h2⟩ := hb.token Q ((10 : Nat) : Int)
  have hx := (plNext_ix Q c.here Q.size).1
  have hpl : plainS Q { c with here := plNext Q c.here Q.size } ((10 : Nat) : Int) = .left { c with st := 4, here := plNext Q c.here Q.size } := by
    unfold plainS
    rw [if_neg (by decide), if_neg (by decide), if_pos (by decide)]
  have ht : tokenS Q { c with here := plNext Q c.here Q.size } ((10 : Nat) : Int) = .ok ⟨0, plNext Q c.here Q.size, plNext Q c.here Q.size, x, c.quote, c.behind, [⟨1, x, (1, 1, 0)⟩]⟩ := by
    rw [h1]
    unfold textS
    rw [h2, hpl]
    unfold betweenS
    simp only
    rw [if_pos (by decide)]
    unfold addT
    simp only [hb.fr, hb.toks, hb.text, List.nil_append]
  refine ⟨(plNext Q c.here Q.size).1, (plNext Q c.here Q.size).2.1, ?_⟩
  rw [runS_one (by omega) (decode_end Q) ht]
  have hp2 : plNext Q c.here Q.size = ((plNext Q c.here Q.size).1, (plNext Q c.here Q.size).2.1, Q.size) := Prod.ext rfl (Prod.ext rfl hx)
  rw [← hp2]
  cases F with
  | zero => rfl
  | succ f => rw [runS, if_neg (by omega)]

theorem dec_hi_bytes {s : ByteArray} {i : Nat} (h : 128 ≤ (Utf8.decode s i).1) (hne : ¬ ((Utf8.decode s i).1 = 65533 ∧ (Utf8.decode s i).2 = 1)) : ∀ j, j < (Utf8.decode s i).2 → 128 ≤ B s (i + j) := by
  rw [decode_B] at h hne ⊢
  revert h hne
  unfold decodeN
  repeat' split
  all_goals (intro h hne j hj; simp only at h hne hj)
  · omega
  · obtain rfl | rfl : j = 0 ∨ j = 1 := by omega
    · rw [Nat.add_zero]; omega
    · omega
  · exact absurd ⟨trivial, trivial⟩ hne
  · obtain rfl | rfl | rfl : j = 0 ∨ j = 1 ∨ j = 2 := by omega
    · rw [Nat.add_zero]; omega
    · omega
    · omega
  · exact absurd ⟨trivial, trivial⟩ hne
  · obtain rfl | rfl | rfl | rfl : j = 0 ∨ j = 1 ∨ j = 2 ∨ j = 3 := by omega
    · rw [Nat.add_zero]; omega
    · omega
    · omega
    · omega
  · exact absurd ⟨trivial, trivial⟩ hne
  · exact absurd ⟨trivial, trivial⟩ hne
theorem quoU_no10 {s : ByteArray} {i : Nat} (hi : i < s.size) : ∀ b ∈ quoU s i, b ≠ 10 := by
  have hx : ∀ n, n < 256 → ∀ b ∈ hexL n, b ≠ 10 := by decide +kernel
  have hw := unitW_dec hi
  obtain ⟨d1, d2, d3⟩ := dec_width s i hi
  have hdP : (decP s (i : Nat)).1 = ((Utf8.decode s i).1 : Int) := by rw [decP_in s i hi]
  have hU : quoU s i = escV (seg s i (i + unitW s i)) ((Utf8.decode s i).1 : Nat) := by unfold quoU; rw [hdP]; rfl
  have hln : (seg s i (i + unitW s i)).length = unitW s i := by rw [seg_len s i _ (by omega) (by omega)]; omega
  rw [hU]
  unfold escV
  split
  · intro b hb
    simp only [List.cons_append, List.nil_append, List.mem_cons] at hb
    rcases hb with rfl | rfl | hb
    · decide
    · decide
    · exact hx _ (UInt8.toNat_lt _) b hb
  · rename_i h1
    split
    · intro b hb
      simp only [List.cons_append, List.nil_append, List.mem_cons, List.mem_append, List.not_mem_nil, or_false] at hb
      rcases hb with rfl | rfl | rfl | hb | rfl
      · decide
      · decide
      · decide
      · exact hx _ (by omega) b hb
      · decide
    · rename_i h2
      have hne : ¬ ((Utf8.decode s i).1 = 65533 ∧ (Utf8.decode s i).2 = 1) := fun h => h1 ⟨by omega, by omega⟩
      have hs : ∀ b ∈ seg s i (i + unitW s i), b ≠ 10 := by
        intro b hb
        rw [seg_range s i _ (by omega)] at hb
        obtain ⟨j, hj, rfl⟩ := List.mem_map.1 hb
        rw [List.mem_range] at hj
        have hBlt := B_lt s (i + j)
        intro h10
        have h10' : B s (i + j) = 10 := by
          have := congrArg UInt8.toNat h10
          simpa [Nat.mod_eq_of_lt hBlt] using this
        by_cases hlo : (Utf8.decode s i).1 < 128
        · obtain ⟨q1, q2⟩ := dec_r_lo hlo
          obtain rfl : j = 0 := by omega
          rw [Nat.add_zero] at h10'
          omega
        · have := dec_hi_bytes (by omega) hne j (by omega)
          omega
      split
      · intro b hb
        simp only [List.cons_append, List.nil_append, List.mem_cons] at hb
        rcases hb with rfl | hb
        · decide
        · exact hs b hb
      · exact hs
theorem quoF_no10 (s : ByteArray) : ∀ (f i : Nat), ∀ b ∈ quoF s f i, b ≠ 10 := by
  intro f
  induction f with
  | zero => intro i b hb; simp [quoF] at hb
  | succ f ih =>
    intro i b hb
    rw [quoF] at hb
    split at hb
    · rename_i h
      rcases List.mem_append.1 hb with hb | hb
      · exact quoU_no10 h b hb
      · exact ih _ b hb
    · simp at hb
theorem nlN_none {Q : ByteArray} (h : ∀ b ∈ Q.data.toList, b ≠ 10) : nlN Q = 0 := by
  unfold nlN
  have h1 : ∀ b ∈ Lib.trimSuffix Q.data.toList [10], b ≠ 10 := by
    intro b hb
    unfold Lib.trimSuffix at hb
    split at hb
    · exact h b (List.mem_of_mem_take hb)
    · exact h b hb
  generalize Lib.trimSuffix Q.data.toList [10] = l at h1
  induction l with
  | nil => rfl
  | cons a l ih =>
    have h2 := h1 a (by simp)
    have h3 := ih (fun b hb => h1 b (by simp [hb]))
    unfold Lib.countByte at h3 ⊢
    simp_all
/-- Scan of a text that is quoted. -/
theorem scan_quo (s : ByteArray) (hz : (quoV s).length ≤ 1048576) : ∃ l k, scanS ⟨(quoV s).toArray⟩ = .ok [⟨1, s.data.toList, (1, 1, 0)⟩, ⟨0, [], (l, k, (quoV s).length)⟩] := by
  by_cases h0 : s.size = 0
  · have hq : quoV s = [39, 39] := by unfold quoV; rw [if_pos h0]
    have hs : s.data.toList = [] := by apply List.eq_nil_of_length_eq_zero; rw [← Lib.size_eq]; exact h0
    rw [hq, hs]
    exact ⟨1, 3, by kernel_rfl⟩
  · have hq : quoV s = quoF s s.size 0 := by unfold quoV; rw [if_neg h0]
    obtain ⟨Q, hQ⟩ : ∃ Q : ByteArray, Q = ⟨(quoV s).toArray⟩ := ⟨_, rfl⟩
    have hQl : Q.data.toList = quoF s s.size 0 := by rw [hQ]; simp [hq]
    have hQz : Q.size = (quoV s).length := by rw [Lib.size_eq, hQl, hq]
    rw [← hQ]
    obtain ⟨n, hn⟩ : ∃ n, s.size = n + 1 := ⟨s.size - 1, by omega⟩
    have hqu : quoF s s.size 0 = quoU s 0 ++ quoF s n (0 + unitW s 0) := by rw [hn, quoF, if_pos (by omega)]
    obtain ⟨u1, u2, u3⟩ := unitW_bd s 0 (by omega)
    have u3 := u3 (by omega)
    have hd0 : Q.data.toList.drop 0 = quoU s 0 ++ quoF s n (0 + unitW s 0) := by rw [List.drop_zero, hQl, hqu]
    obtain ⟨F1, c1, e1, e2, e3⟩ := run_unit (F := Q.size + 1) (by omega) hd0 (by omega) (by omega) (rd_first Q)
    obtain ⟨F2, c2, e4, e5, e6⟩ := run_quo s Q n (0 + unitW s 0) (0 + (quoU s 0).length) F1 c1 _ (drop_more hd0) (by omega) (by omega) (drop_len hd0 (by omega)) e3 e2
    rw [List.nil_append, seg_app s 0 _ _ (by omega) (by omega), seg_all] at e5
    obtain ⟨l, k, e7⟩ := run_end e6 e5
    refine ⟨l, k, ?_⟩
    have hn10 : nlN Q = 0 := nlN_none (by rw [hQl]; exact quoF_no10 s _ _)
    unfold scanS
    rw [if_neg (by omega), if_neg (by omega), e1, e4, e7]
    simp only [endS]
    rw [if_neg (by decide), if_neg (by decide), hQz]
    rfl
end Go.Proofs.YtlfdpdlhppgakaaGreatDoor
/- ScanQuote: the document's Quote, point by point, is the program's: the mathematics; bytes appended. -/
namespace Go.Proofs.YtlfdpdlhppgakaaGreatDoor
open Go Go.RowKit Go.Kt Go.Kt.Rg Go.Shelf Go.Lib

/-- A point as it stands in a file, by the document. -/
def qptV (c : Int) : List UInt8 :=
  if 1114112 ≤ c then [92, 120, hexD ((c % 256).toNat / 16), hexD ((c % 256).toNat % 16)]
  else if c ≤ 32 ∨ c = 127 then [92, 117, 123] ++ (if 16 ≤ c then [hexD ((c % 256).toNat / 16)] else []) ++ [hexD ((c % 256).toNat % 16), 125]
  else (if c < 128 ∧ isSgs c = true then [92] else []) ++ bytesP c
theorem hexL_hi : ∀ b, b < 256 → 16 ≤ b → hexL b = [hexD (b / 16), hexD (b % 16)] := by decide +kernel
theorem hexL_lo1 : ∀ b, b < 16 → hexL b = [hexD (b % 16)] := by decide +kernel
theorem quoU_pt (s : ByteArray) (i : Nat) (hi : i < s.size) : quoU s i = qptV ((ptU s i).1 : Nat) := by
  have hw := unitW_dec hi
  obtain ⟨d1, d2, d3⟩ := dec_width s i hi
  have hdP : (decP s (i : Nat)).1 = ((Utf8.decode s i).1 : Int) := by rw [decP_in s i hi]
  have hU : quoU s i = escV (seg s i (i + unitW s i)) ((Utf8.decode s i).1 : Nat) := by unfold quoU; rw [hdP]; rfl
  have hB := B_lt s i
  rw [hU]
  rcases ptU_cases s i hi with ⟨hd, hp, hb⟩ | ⟨w, w1, w4, hws, hwi, hne, hp, hw2, hc, hby⟩
  · have hw1 : unitW s i = 1 := by rw [hw, hd]
    rw [hw1, one_byte hi, hp]
    unfold escV qptV
    rw [if_pos ⟨by rw [hd]; rfl, rfl⟩, if_pos (by simp only; omega)]
    have e1 : (([UInt8.ofNat (B s i)] : List UInt8).getD 0 0).toNat = B s i := by simp; omega
    have e2 : ((((1114112 + B s i : Nat) : Int)) % 256).toNat = B s i := by omega
    rw [e1, hexL_hi _ hB (by omega)]
    simp only
    rw [e2]
    rfl
  · rw [hp]
    obtain ⟨r, hr⟩ : ∃ r, (Utf8.decode s i).1 = r := ⟨_, rfl⟩
    have hseg : seg s i (i + unitW s i) = bytesP (r : Nat) := by rw [hw, hw2, ← hr]; exact hby.symm
    have hcr : charB (r : Nat) = true := by rw [← hr]; exact hc
    have hcb := (charB_iff (r : Nat)).1 hcr
    have hn1 : ¬ (((r : Nat) : Int) = 65533 ∧ (seg s i (i + unitW s i)).length = 1) := by
      rintro ⟨h1, h2⟩
      rw [seg_len s i _ (by omega) (by omega)] at h2
      exact hne (Prod.ext (by rw [hr]; simp only; omega) (by simp only; omega))
    rw [hr]
    unfold escV qptV
    have hno : ¬ (1114112 : Int) ≤ ((r : Nat) : Int) := by omega
    rw [if_neg hn1]
    by_cases h2 : ((r : Nat) : Int) ≤ 32 ∨ ((r : Nat) : Int) = 127
    · rw [if_pos h2, if_neg hno, if_pos h2]
      have e2 : (((r : Nat) : Int) % 256).toNat = r := by omega
      rw [e2, Int.toNat_natCast]
      by_cases h16 : 16 ≤ r
      · rw [if_pos (by omega), hexL_hi r (by omega) h16]; rfl
      · rw [if_neg (by omega), hexL_lo1 r (by omega)]; rfl
    · rw [if_neg h2, if_neg hno, if_neg h2, hseg]
      by_cases h3 : isSgs (r : Nat) = true
      · have := sgs_lt h3
        rw [if_pos h3, if_pos ⟨by omega, h3⟩]
      · rw [if_neg h3, if_neg (fun h => h3 h.2)]; rfl
theorem quoF_pts (s : ByteArray) : ∀ (f i : Nat), i ≤ s.size → quoF s f i = (ptL s (unitsF s f i)).flatMap qptV := by
  intro f
  induction f with
  | zero => intro i _; rfl
  | succ f ih =>
    intro i hi
    rw [quoF, unitsF]
    split
    · rename_i h
      have hw := unitW_dec h
      have := (dec_width s i h).2.2
      rw [quoU_pt s i h, hw, ih _ (by omega)]
      simp [ptL]
    · simp [ptL]
theorem quoV_pts (s : ByteArray) (h : s.size ≠ 0) : quoV s = (pts s).flatMap qptV := by
  unfold quoV
  rw [if_neg h, quoF_pts s _ _ (Nat.zero_le _)]
  rfl
theorem qptV_len (c : Int) : (qptV c).length ≤ 7 := by
  have := bytesP_len c
  unfold qptV
  split
  · simp
  · split
    · split <;> simp
    · split <;> simp only [List.length_append, List.length_cons, List.length_nil] <;> omega

/-- 'append(v, a, b, ..)' of bytes that lie in a new block. -/
theorem append_bs (W : World) {Y : Nat → Prop} {v : Value} {n : Nat} {xs : List Value} (hown : OwnS Y 5 1 v n xs W) (news : List Value) (m : Nat) (hl : news.length = m) (h1 : ∀ u ∈ news, u.oneCell' = true) (hm : 0 < m) (h63 : n + m ≤ 140737488355328) :
    ∃ g cap w', (∀ ty, (Builtin.append_ #[51, 51] ty #[v, .slice (some ⟨W.heap.size, 0, none⟩) m m]).run Tryz.prog (W.alloc (.cells news.toArray 5)) = .ok (.slice (some ⟨g, 0, none⟩) (n + m) cap) w') ∧
      OwnS (fun b => v.ownBlock = some b ∨ W.heap.size ≤ b) 5 1 (.slice (some ⟨g, 0, none⟩) (n + m) cap) (n + m) (xs ++ news) w' ∧ Keep (fun b => v.ownBlock = some b) W w' := by
  obtain ⟨ti, hti, hz, hs1, hb1⟩ := info_parts tinfo5
  have hbl : (W.alloc (.cells news.toArray 5)).heap[W.heap.size]? = some (.cells news.toArray 5 (0, 0)) := World.alloc_heap_new W _
  have hc : ∀ j u, news[j]? = some u → (W.alloc (.cells news.toArray 5)).cell? ((⟨W.heap.size, 0, none⟩ : Addr).add j) = some u := fun j u hj => by
    rw [Addr.add_lit, Lib.cell_of_heap hbl]
    simpa using hj
  obtain ⟨g2, cap, w2, hr2, ho2, hgr, hat, _⟩ := run_append_lies (P := Tryz.prog) (W.alloc (.cells news.toArray 5)) 51 51 0 5 ti (.int .u8 0) 1 1 Tryz.underlying51 hti hz hs1 hb1 rfl (by decide) v n xs (hown.1.alloc _) ⟨W.heap.size, 0, none⟩ m m news (by omega) hc h1 hm (by unfold maxLen; omega) (by omega) (Nat.zero_le _) _ rfl
  refine ⟨g2, cap, w2, fun ty => hr2, ⟨ho2, fun b hb => ?_⟩, ((Keep.refl _ W).alloc _).trans (keep_grown hgr)⟩
  have : g2 = b := by simpa [Value.ownBlock] using hb
  subst this
  rcases hat with h | h
  · exact .inl h
  · exact .inr (by have : (W.alloc (.cells news.toArray 5)).heap.size = W.heap.size + 1 := by simp
                   omega)
end Go.Proofs.YtlfdpdlhppgakaaGreatDoor
/- What is the same of any program: 'x = append(x, a, b, ..)' of a local variable in a drawn region (K12): operation ib builds the elements' block, ia appends, ic lays the slice into its slot. -/
namespace Go.Kt
open Go Go.RowKit

/-- What is fixed of such a region. -/
structure AppR where
  w : World
  kv : Value
  E : TypeId
  sz : Nat
  n : Nat
  m : Nat
  xs : List Value
  ys : List Value
  bs : Array Value
  bl : Nat
  ib : Nat
  ia : Nat
  ic : Nat
  val : Nat → Option Value
section
variable {F : AppR}
def AppR.Row (F : AppR) (v : Value) (W : World) : Prop :=
  ∃ ao cp, v = .slice ao F.m cp ∧ OwnS (fun b => F.kv.ownBlock = some b ∨ F.w.heap.size ≤ b) F.E F.sz v F.m F.ys W
def AppR.S (F : AppR) (D : Nat → Bool) (X : World) : Prop :=
  (D F.ia = false → OwnS (fun b => F.kv.ownBlock = some b) F.E F.sz F.kv F.n F.xs X) ∧ Keep (fun b => F.kv.ownBlock = some b) F.w X
variable {D : Nat → Bool} {X Y W : World} {i : Nat} {v u : Value}
theorem AppR.S.more (h : F.S D X) : F.S (fun j => D j || j == i) X := ⟨fun e => h.1 (orb_l e), h.2⟩
theorem AppR.S.below (h : F.S D X) (hb : Below X.heap.size X Y) : F.S D Y :=
  ⟨fun e => (h.1 e).keep (X := fun _ => False) (Keep.of_all hb) (fun _ h => h.elim), h.2.then (hb.mono h.2.size)⟩
theorem AppR.S.app (h : F.S D X) (hk : Keep (fun b => F.kv.ownBlock = some b) X Y) : F.S (fun j => D j || j == F.ia) Y :=
  ⟨fun e => by simp at e, h.2.trans hk⟩
def AppR.P (F : AppR) (i : Nat) (v : Value) (W : World) : Prop :=
  (∀ u, F.val i = some u → v = u) ∧ (i = F.ib → ∃ b, v = .slice (some ⟨b, 0, none⟩) F.bl F.bl ∧ W.heap[b]? = some (.cells F.bs F.E (0, 0)) ∧ F.w.heap.size ≤ b) ∧ (i = F.ia ∨ i = F.ic → F.Row v W)
theorem AppR.P.is (h : F.P i v W) (e : F.val i = some u) : v = u := h.1 u e
theorem AppR.P.mk (e : F.val i = some v) (hi : i ≠ F.ib ∧ i ≠ F.ia ∧ i ≠ F.ic) : F.P i v W :=
  ⟨fun u h => by rw [e] at h; exact Option.some.inj h, fun h => absurd h hi.1, fun h => by rcases h with h | h; exact absurd h hi.2.1; exact absurd h hi.2.2⟩
theorem AppR.P.bs_ (e : F.val F.ib = none) (hi : F.ib ≠ F.ia ∧ F.ib ≠ F.ic) (h : ∃ b, v = .slice (some ⟨b, 0, none⟩) F.bl F.bl ∧ W.heap[b]? = some (.cells F.bs F.E (0, 0)) ∧ F.w.heap.size ≤ b) : F.P F.ib v W :=
  ⟨fun u h => (by rw [e] at h; cases h), fun _ => h, fun h => by rcases h with h | h; exact absurd h hi.1; exact absurd h hi.2⟩
theorem AppR.P.row (hi : i = F.ia ∨ i = F.ic) (e : F.val i = none) (hb : i ≠ F.ib) (h : F.Row v W) : F.P i v W :=
  ⟨fun u h => (by rw [e] at h; cases h), fun h => absurd h hb, fun _ => h⟩
theorem AppR.Row.below (h : F.Row v W) (hb : Below W.heap.size W Y) : F.Row v Y := by
  obtain ⟨ao, cp, e, ho⟩ := h
  exact ⟨ao, cp, e, ho.keep (X := fun _ => False) (Keep.of_all hb) (fun _ h => h.elim)⟩
theorem AppR.P.below (h : F.P i v W) (hb : Below W.heap.size W Y) : F.P i v Y := by
  refine ⟨h.1, fun e => ?_, fun e => (h.2.2 e).below hb⟩
  obtain ⟨b, h1, h2, h3⟩ := h.2.1 e
  exact ⟨b, h1, (hb.block b (Array.getElem?_eq_some_iff.1 h2).1).trans h2, h3⟩
theorem AppR.P.app (h : F.P i v W) (hkv : ∀ b, F.kv.ownBlock = some b → b < F.w.heap.size) (hk : Keep (fun b => F.kv.ownBlock = some b) W Y) (ha : i ≠ F.ia) (hc : i ≠ F.ic) : F.P i v Y := by
  refine ⟨h.1, fun e => ?_, fun e => by rcases e with e | e; exact absurd e ha; exact absurd e hc⟩
  obtain ⟨b, h1, h2, h3⟩ := h.2.1 e
  exact ⟨b, h1, hk.heap h2 (fun h => by have := hkv b h; omega), h3⟩
end
end Go.Kt
/- What is the same of any program: a drawn region operation by operation, as in K12; a slot that is not laid yet holds what it held ahead of the region (for 'x = append(x, ..)', that reads the slot which it lays at its end). -/
namespace Go.Kt
open Go

section
variable {P : Program} {ops : Array Oper} {Q : Exit → Act → World → Prop} {md : Region.Mode}

/-- One operation: D tells what is done. -/
def EStep (P : Program) (md : Region.Mode) (ops : Array Oper) (Q : Exit → Act → World → Prop) (S : (Nat → Bool) → World → Prop) (p : Nat → Value → World → Prop) (a0 : Act) (i : Nat) (o : Oper) : Prop :=
  ∀ (D : Nat → Bool) a w, D i = false → (∀ j, awaits md ops j i = true → D j = false) → (∀ j, waitsB md o j = true → D j = true) → S D w → Like ops a0 a → (∀ j k, D j = false → slotB ops j k = true → a.tmps.getD k undef = a0.tmps.getD k undef) → (∀ j k, waitsB md o j = true → slotB ops j k = true → p j (a.tmps.getD k undef) w) →
    Region.wanted o (yielded ops a.tmps) = true ∧ o.wp P a w (fun a' w' => ∃ v, a' = a.put o.dst v ∧ S (fun j => D j || j == i) w' ∧ (∀ j u, D j = true → p j u w → p j u w') ∧ p i v w') Q
def ESteps (P : Program) (md : Region.Mode) (ops : Array Oper) (Q : Exit → Act → World → Prop) (S : (Nat → Bool) → World → Prop) (p : Nat → Value → World → Prop) (a0 : Act) : Nat → List Oper → Prop
  | _, [] => True
  | i, o :: r => EStep P md ops Q S p a0 i o ∧ ESteps P md ops Q S p a0 (i + 1) r
theorem ESteps.get {S : (Nat → Bool) → World → Prop} {p : Nat → Value → World → Prop} {a0 : Act} : ∀ (l : List Oper) (i : Nat), ESteps P md ops Q S p a0 i l → ∀ j o, l[j]? = some o → EStep P md ops Q S p a0 (i + j) o
  | [], _, _, j, o, h => by simp at h
  | x :: r, i, hs, 0, o, h => by simp at h; subst h; exact hs.1
  | x :: r, i, hs, j + 1, o, h => by
    have := ESteps.get r (i + 1) hs.2 j o (by simpa using h)
    rw [show i + (j + 1) = i + 1 + j by omega]; exact this
theorem ESteps.cons {S : (Nat → Bool) → World → Prop} {p : Nat → Value → World → Prop} {a0 : Act} {i : Nat} {o : Oper} {r : List Oper} (h : EStep P md ops Q S p a0 i o) (hr : ESteps P md ops Q S p a0 (i + 1) r) : ESteps P md ops Q S p a0 i (o :: r) := ⟨h, hr⟩
theorem ESteps.nil {S : (Nat → Bool) → World → Prop} {p : Nat → Value → World → Prop} {a0 : Act} {i : Nat} : ESteps P md ops Q S p a0 i [] := trivial

/-- A drawn region, operation by operation; S D w: what holds of the world when D is done. -/
theorem wp_region_old {id : Nat} {a0 : Act} {w0 : World} (S : (Nat → Bool) → World → Prop) (p : Nat → Value → World → Prop) (hm : P.follows .mixedOrders = true) (hap : apartB ops a0.tmps.size = true) (hfw : forwardB .any ops = true)
    (hS : S (fun _ => false) w0.drew) (hs : ESteps P .any ops Q S p a0 0 ops.toList)
    (hd : ∀ D a w, (∀ j, j < ops.size → D j = true) → S D w → Like ops a0 a → (∀ j k, slotB ops j k = true → p j (a.tmps.getD k undef) w) → (∀ j, j < ops.size → ∃ v, p j v w) → Q .normal a w) : (Code.region id ops true).wp P Q a0 w0 := by
  have hdst : ∀ (i : Nat) (o : Oper) (k : Nat), ops[i]? = some o → o.dst = some k → k < a0.tmps.size ∧ ∀ (j : Nat) (oj : Oper), ops[j]? = some oj → oj.dst = some k → i = j := by
    intro i o k ho hk
    have hi := (Array.getElem?_eq_some_iff.1 ho).1
    have h1 := List.all_eq_true.1 hap i (List.mem_range.2 hi)
    have h2 : ops.getD i default = o := by simp [Array.getD_eq_getD_getElem?, ho]
    rw [h2, hk] at h1
    simp only [Bool.and_eq_true, decide_eq_true_eq] at h1
    refine ⟨h1.1, fun j oj hj hjk => ?_⟩
    have hj' := (Array.getElem?_eq_some_iff.1 hj).1
    have h3 := List.all_eq_true.1 h1.2 j (List.mem_range.2 hj')
    have h4 : ops.getD j default = oj := by simp [Array.getD_eq_getD_getElem?, hj]
    rw [h4, hjk] at h3
    simpa using h3
  refine wp_region_any hm ?_
  refine wpAny_inv (fun listed a w => listed.size = ops.size ∧ S (fun j => listed.getD j false) w ∧ (∀ j k, listed.getD j false = true → awaits .any ops j k = true → listed.getD k false = true) ∧ Like ops a0 a ∧ (∀ j k, listed.getD j false = false → slotB ops j k = true → a.tmps.getD k undef = a0.tmps.getD k undef) ∧ (∀ j, listed.getD j false = true → ∃ v, p j v w) ∧ ∀ j k, listed.getD j false = true → slotB ops j k = true → p j (a.tmps.getD k undef) w) ?_ ?_ _ _ _ _ ?_ ⟨by simp, by rw [show (fun j => (Array.replicate ops.size false).getD j false) = fun _ => false from funext fun j => by simp only [Array.getD_eq_getD_getElem?, Array.getElem?_replicate]; split <;> rfl]; exact hS, ?_, ⟨rfl, rfl, fun _ _ => rfl⟩, fun _ _ _ _ => rfl, ?_, ?_⟩
  · rintro listed a w i ⟨hz, hSw, hC, hL, hU, hE, hP⟩ hi
    obtain ⟨hjun, o, ho, hall⟩ := mem_ready.1 hi
    have hilt := (Array.getElem?_eq_some_iff.1 ho).1
    have hin : listed.getD i false = false := by
      have hi2 : i < listed.size := by omega
      simpa [Array.getD_eq_getD_getElem?, hi2] using hjun
    have hw8 : ∀ j, waitsB .any o j = true → listed.getD j false = true := fun j hj => by
      unfold waitsB at hj
      obtain ⟨e, he, h2⟩ := Array.any_eq_true'.1 hj
      simp only [Bool.and_eq_true, beq_iff_eq] at h2
      have := hall e he h2.2
      rw [h2.1] at this
      exact this
    have hst := ESteps.get ops.toList 0 hs i o (by simpa using ho)
    rw [Nat.zero_add] at hst
    obtain ⟨hw, hx⟩ := hst (fun j => listed.getD j false) a w hin (fun j hj => by
      cases hl : listed.getD j false with
      | false => rfl
      | true => have := hC j i hl hj; rw [hin] at this; cases this) hw8 hSw hL hU (fun j k hj hk => hP j k (hw8 j hj) hk)
    unfold wpOp
    simp only [ho, hw, if_true]
    refine .inl (Oper.wp_mono ?_ hx)
    rintro a' w' ⟨v, rfl, hS', hR', hpv⟩
    refine ⟨by simpa using hz, by rw [set_done listed i (by omega)]; exact hS', ?_, ⟨?_, ?_, fun k hk => ?_⟩, fun j k hj hk => ?_, fun j hj => ?_, fun j k hj hk => ?_⟩
    · intro j k hj hk
      have hd1 := congrFun (set_done listed i (by omega))
      rw [hd1] at hj ⊢
      rw [Bool.or_eq_true] at hj ⊢
      left
      rcases hj with hj | hj
      · exact hC j k hj hk
      · have : j = i := by simpa using hj
        subst this
        unfold awaits at hk
        rw [ho] at hk
        exact hw8 k hk
    · cases h : o.dst <;> exact hL.defers
    · cases h : o.dst
      · exact hL.size
      · simp only [Act.put, Array.size_setIfInBounds]; exact hL.size
    · cases h : o.dst with
      | none => exact hL.far k hk
      | some d =>
        have hne : d ≠ k := fun e => by
          subst e
          unfold outside at hk
          have := Array.all_eq_true.1 hk i hilt
          rw [(Array.getElem?_eq_some_iff.1 ho).2, h] at this
          simp at this
        simp only [Act.put, Array.getD_eq_getD_getElem?, Array.getElem?_setIfInBounds, if_neg hne]
        have := hL.far k hk
        simpa only [Array.getD_eq_getD_getElem?] using this
    · have hji : j ≠ i := fun e => by
        subst e
        have : j < listed.size := by omega
        simp [Array.getD_eq_getD_getElem?, this] at hj
      have hjl : listed.getD j false = false := by
        simp only [Array.getD_eq_getD_getElem?, Array.getElem?_setIfInBounds, if_neg (Ne.symm hji)] at hj ⊢
        exact hj
      have h1 := hU j k hjl hk
      obtain ⟨oj, hoj, hjk⟩ : ∃ oj, ops[j]? = some oj ∧ oj.dst = some k := by
        unfold slotB at hk
        cases h : ops[j]? with
        | none => rw [h] at hk; cases hk
        | some oj => rw [h] at hk; exact ⟨oj, rfl, by simpa using hk⟩
      cases h : o.dst with
      | none => exact h1
      | some d =>
        have hne : d ≠ k := fun e => by
          subst e
          exact hji ((hdst i o d ho h).2 j oj hoj hjk).symm
        simp only [Act.put, Array.getD_eq_getD_getElem?, Array.getElem?_setIfInBounds, if_neg hne] at h1 ⊢
        exact h1
    · by_cases hji : j = i
      · subst hji; exact ⟨v, hpv⟩
      · have hjl : listed.getD j false = true := by
          simp only [Array.getD_eq_getD_getElem?, Array.getElem?_setIfInBounds, if_neg (Ne.symm hji)] at hj ⊢
          exact hj
        obtain ⟨u, hu⟩ := hE j hjl
        exact ⟨u, hR' j _ hjl hu⟩
    · obtain ⟨oj, hoj, hjk⟩ : ∃ oj, ops[j]? = some oj ∧ oj.dst = some k := by
        unfold slotB at hk
        cases h : ops[j]? with
        | none => rw [h] at hk; cases hk
        | some oj => rw [h] at hk; exact ⟨oj, rfl, by simpa using hk⟩
      by_cases hji : j = i
      · subst hji
        rw [hoj] at ho
        cases ho
        have hkz := (hdst j _ k hoj hjk).1
        rw [hjk]
        have : (a.put (some k) v).tmps.getD k undef = v := by
          have : k < a.tmps.size := by rw [hL.size]; exact hkz
          simp [Act.put, Array.getD_eq_getD_getElem?, this]
        rw [this]
        exact hpv
      · have hjl : listed.getD j false = true := by
          simp only [Array.getD_eq_getD_getElem?, Array.getElem?_setIfInBounds, if_neg (Ne.symm hji)] at hj ⊢
          exact hj
        have h1 := hR' j _ hjl (hP j k hjl hk)
        cases h : o.dst with
        | none => exact h1
        | some d =>
          have hne : d ≠ k := fun e => by
            subst e
            exact hji ((hdst i o d ho h).2 j oj hoj hjk).symm
          simp only [Act.put, Array.getD_eq_getD_getElem?, Array.getElem?_setIfInBounds, if_neg hne] at h1 ⊢
          exact h1
  · rintro listed a w ⟨hz, hSw, hC, hL, hU, hE, hP⟩ hr
    have hall : ∀ n j, j < n → j < ops.size → listed.getD j false = true := by
      intro n
      induction n with
      | zero => intro j h; omega
      | succ n ih =>
        intro j hjn hj
        cases hl : listed.getD j true with
        | true =>
          have : j < listed.size := by omega
          simpa [Array.getD_eq_getD_getElem?, this] using hl
        | false =>
          exfalso
          have hmem : j ∈ Region.ready .any ops listed := mem_ready.2 ⟨hl, ops[j], by simp [hj], fun e he hb => by
            have h1 := List.all_eq_true.1 hfw j (List.mem_range.2 hj)
            have h2 : ops.getD j default = ops[j] := by simp [Array.getD_eq_getD_getElem?, hj]
            rw [h2] at h1
            have h3 := Array.all_eq_true_iff_forall_mem.1 h1 e he
            rw [hb] at h3
            simp at h3
            exact ih e.on (by omega) (by omega)⟩
          rw [hr] at hmem
          cases hmem
    refine hd _ a w (fun j hj => hall (j + 1) j (by omega) hj) hSw hL (fun j k hk => hP j k (hall (j + 1) j (by omega) ?_) hk) (fun j hj => hE j (hall (j + 1) j (by omega) hj))
    unfold slotB at hk
    cases h : ops[j]? with
    | none => rw [h] at hk; cases hk
    | some oj => exact (Array.getElem?_eq_some_iff.1 h).1
  · unfold unlisted
    exact Nat.le_trans (List.length_filter_le _ _) (by simp)
  · intro j k hj
    simp only [Array.getD_eq_getD_getElem?, Array.getElem?_replicate] at hj
    split at hj <;> simp at hj
  · intro j hj
    simp only [Array.getD_eq_getD_getElem?, Array.getElem?_replicate] at hj
    split at hj <;> simp at hj
  · intro j k hj
    simp only [Array.getD_eq_getD_getElem?, Array.getElem?_replicate] at hj
    split at hj <;> simp at hj
end
end Go.Kt
/- ScanQuote: digits of a byte, and what the document's Quote does with them. -/
namespace Go.Kt
open Go
section
variable {P : Program} {o : Oper} {a : Act} {w w' : World}
theorem exec_index {t : TypeId} {x y : Operand} {u1 u2 v : Value} (ho : o.op = .index t x y) (hx : a.eval x = u1) (hy : a.eval y = u2) (h : (Instr.index t u1 u2).run P w = .ok v w') : (execOp a.eval o).run P w = .ok (.value v) w' := by
  unfold execOp; rw [ho]; simp only [hx, hy]; exact run_val h
theorem exec_assign {x : Operand} {u : Value} (ho : o.op = .assign x) (hx : a.eval x = u) : (execOp a.eval o).run P w = .ok (.value u) w := by
  unfold execOp; rw [ho]; simp only [hx]; rfl
end
end Go.Kt
namespace Go.Proofs.YtlfdpdlhppgakaaGreatDoor
open Go Go.RowKit Go.Kt Go.Kt.Rg Go.Shelf Go.Lib
attribute [local go_sem] Oper.semAt_some

theorem digit8_ix : ∀ (d : Nat), d < 16 → ∀ w : World, (Instr.index 9 (.string ⟨#[48, 49, 50, 51, 52, 53, 54, 55, 56, 57, 97, 98, 99, 100, 101, 102]⟩) (.int .u8 (d : Nat))).run Tryz.prog w = .ok (.int .u8 ((hexD d).toNat : Nat)) w
  | 0, _ => fun _ => by kernel_rfl
  | 1, _ => fun _ => by kernel_rfl
  | 2, _ => fun _ => by kernel_rfl
  | 3, _ => fun _ => by kernel_rfl
  | 4, _ => fun _ => by kernel_rfl
  | 5, _ => fun _ => by kernel_rfl
  | 6, _ => fun _ => by kernel_rfl
  | 7, _ => fun _ => by kernel_rfl
  | 8, _ => fun _ => by kernel_rfl
  | 9, _ => fun _ => by kernel_rfl
  | 10, _ => fun _ => by kernel_rfl
  | 11, _ => fun _ => by kernel_rfl
  | 12, _ => fun _ => by kernel_rfl
  | 13, _ => fun _ => by kernel_rfl
  | 14, _ => fun _ => by kernel_rfl
  | 15, _ => fun _ => by kernel_rfl
  | n + 16, h => absurd h (by omega)
theorem quo16 (x y : Operand) (b : Nat) (hb : b < 256) (X : World) : (do eqGuard .quo 5 x y (.int .u8 (b : Nat)) (.int .u8 16); binOp .quo 5 (.int .u8 (b : Nat)) (.int .u8 16) : Sem Value).run Tryz.prog X = .ok (.int .u8 ((b / 16 : Nat) : Int)) X := by
  go_simp
  exact IntWalk.u8_in _ (by omega)
theorem rem16 (x y : Operand) (b : Nat) (hb : b < 256) (X : World) : (do eqGuard .rem 5 x y (.int .u8 (b : Nat)) (.int .u8 16); binOp .rem 5 (.int .u8 (b : Nat)) (.int .u8 16) : Sem Value).run Tryz.prog X = .ok (.int .u8 ((b % 16 : Nat) : Int)) X := by
  go_simp
  rw [Int.tmod_eq_emod_of_nonneg (by omega)]
/-- A row of bytes behind others, above a world. -/
theorem app_row {w1 Wo : World} {v : Value} {k : Nat} {acc : List UInt8} (hown : OwnS (fun b => w1.heap.size ≤ b) 5 1 v k (u8V acc) Wo) (hb : Below w1.heap.size w1 Wo) (bs : List UInt8) (h0 : 0 < bs.length) (hk : k + bs.length ≤ 140737488355328) :
    ∃ g cp W', (∀ ty, (Builtin.append_ #[51, 51] ty #[v, .slice (some ⟨Wo.heap.size, 0, none⟩) bs.length bs.length]).run Tryz.prog (Wo.alloc (.cells (u8V bs).toArray 5)) = .ok (.slice (some ⟨g, 0, none⟩) (k + bs.length) cp) W') ∧
      OwnS (fun b => w1.heap.size ≤ b) 5 1 (.slice (some ⟨g, 0, none⟩) (k + bs.length) cp) (k + bs.length) (u8V (acc ++ bs)) W' ∧ Below w1.heap.size w1 W' := by
  obtain ⟨g, cp, W', h1, h2, h3⟩ := append_bs Wo hown (u8V bs) bs.length (by simp [u8V]) (by intro u hu; simp [u8V] at hu; obtain ⟨x, _, rfl⟩ := hu; rfl) h0 hk
  refine ⟨g, cp, W', h1, ?_, hb.trans (h3.below hb.size (fun y h => hown.2 y h))⟩
  have e : u8V (acc ++ bs) = u8V acc ++ u8V bs := by simp [u8V]
  rw [e]
  exact h2.weaken fun y hy => by
    rcases hy with h | h
    · exact hown.2 y h
    · have := hb.size; omega
theorem app_rowY {Y : Nat → Prop} {Wo : World} {v : Value} {k : Nat} {acc : List UInt8} (hown : OwnS Y 5 1 v k (u8V acc) Wo) (hY : ∀ y, Wo.heap.size ≤ y → Y y) (bs : List UInt8) (h0 : 0 < bs.length) (hk : k + bs.length ≤ 140737488355328) :
    ∃ g cp W', (∀ ty, (Builtin.append_ #[51, 51] ty #[v, .slice (some ⟨Wo.heap.size, 0, none⟩) bs.length bs.length]).run Tryz.prog (Wo.alloc (.cells (u8V bs).toArray 5)) = .ok (.slice (some ⟨g, 0, none⟩) (k + bs.length) cp) W') ∧
      OwnS Y 5 1 (.slice (some ⟨g, 0, none⟩) (k + bs.length) cp) (k + bs.length) (u8V (acc ++ bs)) W' ∧ Keep Y Wo W' := by
  obtain ⟨g, cp, W', h1, h2, h3⟩ := append_bs Wo hown (u8V bs) bs.length (by simp [u8V]) (by intro u hu; simp [u8V] at hu; obtain ⟨x, _, rfl⟩ := hu; rfl) h0 hk
  refine ⟨g, cp, W', h1, ?_, h3.weaken fun y _ h => hown.2 y h⟩
  have e : u8V (acc ++ bs) = u8V acc ++ u8V bs := by simp [u8V]
  rw [e]
  exact h2.weaken fun y hy => by
    rcases hy with h | h
    · exact hown.2 y h
    · exact hY y h
end Go.Proofs.YtlfdpdlhppgakaaGreatDoor
/- The laws' own: works. -/
namespace Go.Proofs.YtlfdpdlhppgakaaGreatDoor
open Go Go.RowKit Go.Kt Go.Shelf Go.Lib
attribute [local go_sem] Oper.semAt_some

theorem ownS_at {Y : Nat → Prop} {e : TypeId} {sz n g cap : Nat} {xs : List Value} {W : World} (h : OwnS Y e sz (.slice (some ⟨g, 0, none⟩) n cap) n xs W) {i : Nat} {u : Value} (hi : xs[i]? = some u) : W.cell? ⟨g, i, none⟩ = some u := by
  have := h.1.cells (g := g) rfl i u hi
  by_cases h0 : i = 0
  · subst h0; simpa [Addr.add] using this
  · simpa [Addr.add, h0] using this
theorem scan_a : scanS ⟨#[97, 32, 60]⟩ = .ok [⟨1, [97], (1, 1, 0)⟩, ⟨2, [60], (1, 3, 2)⟩, ⟨0, [], (1, 4, 3)⟩] := by kernel_rfl
theorem scan_b : scanS ⟨#[97, 32, 93]⟩ = .bad 25 1 3 := by kernel_rfl

set_option maxHeartbeats 1000000 in
set_option maxRecDepth 100000 in
theorem works_any5 (w : World) (hE : SEnv w) :
    Calls Tryz.prog 10 #[] w fun e w' => e = .returned (.bool true) ∧ Below w.heap.size w w' := by
  have C1 := Lib.hid (scan_any ⟨#[97, 32, 60]⟩ w hE (by decide))
  rw [scan_a] at C1
  have HE := Lib.hid hE
  clear hE
  go_enter Tryz.func10, Tryz.ntmps10
  go_wp2_with fail
  refine C1.out.mono ?_
  rintro e w1 ⟨⟨g, cap, rfl, ho⟩, hb1⟩
  have hE1 := HE.out.below hb1
  have C2 := Lib.hid (scan_any ⟨#[97, 32, 93]⟩ w1 hE1 (by decide))
  rw [scan_b] at C2
  have HO := Lib.hid (And.intro ho hb1)
  clear ho hb1 hE1
  go_wp2_with fail
  refine C2.out.mono ?_
  rintro e w2 ⟨rfl, hb2⟩
  have hE2 := (HE.out.below HO.out.2).below hb2
  have ho2 := HO.out.1.keep (X := fun _ => False) (Keep.of_all hb2) (fun _ h => h.elim)
  have q1 : w2.cell? ⟨g, 1, none⟩ = some (.string ⟨#[97]⟩) := ownS_at ho2 (i := 1) rfl
  have q5 : w2.cell? ⟨g, 5, none⟩ = some (.int .i64 2) := ownS_at ho2 (i := 5) rfl
  have CA := Lib.hid (fun V (h : Below w2.heap.size w2 V) => at_fault 25 1 3 V (by decide) (by decide) (hE2.below h).err)
  have HB := Lib.hid (HO.out.2.trans (hb2.mono HO.out.2.size))
  clear ho2 hb2 hE2
  go_wp2_with (go_at_call 13; refine (CA.out _ (Below.refl _ _)).mono ?_; rintro e w3 ⟨rfl, hb3⟩)
  go_ret
  exact ⟨rfl, HB.out.trans (hb3.mono HB.out.size)⟩
end Go.Proofs.YtlfdpdlhppgakaaGreatDoor
/- ScanBack: its walk. -/
namespace Go.Proofs.YtlfdpdlhppgakaaGreatDoor
open Go Go.RowKit Go.Kt Go.Shelf Go.Lib
attribute [local go_sem] Oper.semAt_some

theorem bruijn_below {A B : World} (h : BTab A) (hl : 6 < A.heap.size) (hb : Below A.heap.size A B) : BTab B := fun k hk => (hb.cell (p := ⟨6, k, none⟩) hl).trans (h k hk)
theorem quoF_len (s : ByteArray) : ∀ (f i : Nat), i ≤ s.size → (quoF s f i).length ≤ 13 * (s.size - i) := by
  intro f
  induction f with
  | zero => intro i _; simp [quoF]
  | succ f ih =>
    intro i hi
    rw [quoF]
    split
    · rename_i hlt
      obtain ⟨u1, u2, u3⟩ := unitW_bd s i hi
      have u3 := u3 hlt
      have h1 := ih (i + unitW s i) u2
      have h2 : (quoU s i).length ≤ 13 := by
        unfold quoU
        exact escV_len _ _ (by rw [← Lib.size_eq, ByteArray.size_extract]; omega)
      rw [List.length_append]; omega
    · simp
theorem quoV_len (s : ByteArray) : (quoV s).length ≤ 13 * s.size + 2 := by
  unfold quoV
  split
  · simp
  · have := quoF_len s s.size 0 (Nat.zero_le _); omega

set_option maxHeartbeats 1000000 in
set_option maxRecDepth 100000 in
theorem scanBack_c (s : ByteArray) (w : World) (hE : SEnv w) (hB : BTab w) (hl : 6 < w.heap.size) (hs : s.size ≤ 8796093022208) :
    Calls Tryz.prog 5 #[.string s] w fun e w' => e = .returned (.bool true) ∧ Below w.heap.size w w' := by
  have CQ := Lib.hid (quote_any s w hE hB hl hs)
  have hql := quoV_len s
  have hsq := fun h => scan_quo s h
  obtain ⟨Q, hQ⟩ : ∃ Q : ByteArray, (⟨(quoV s).toArray⟩ : ByteArray) = Q := ⟨_, rfl⟩
  have hQz : Q.size = (quoV s).length := by rw [← hQ]; exact size_mk _
  rw [hQ] at CQ hsq
  rw [← hQz] at hsq hql
  have HE := Lib.hid hE
  clear hQ hQz hE hB hl
  by_cases hz : Q.size ≤ 1048576
  · obtain ⟨l, k, hsc⟩ := hsq hz
    clear hsq
    have hz1 : ¬ (1048576 : Int) < Q.size := by omega
    go_enter Tryz.func5, Tryz.ntmps5
    go_wp2_with fail
    refine CQ.out.mono ?_
    rintro e w1 ⟨rfl, hb1⟩
    have C1 := Lib.hid (scan_any Q w1 (HE.out.below hb1) (by omega))
    rw [hsc] at C1
    have HB1 := Lib.hid hb1
    clear hb1 hsc
    go_wp2_with fail
    refine C1.out.mono ?_
    rintro e w2 ⟨⟨g, cap, rfl, ho⟩, hb2⟩
    have HB2 := Lib.hid (HB1.out.trans (hb2.mono HB1.out.size))
    have k0 : w2.cell? ⟨g, 0, none⟩ = some (.int .i64 1) := ownS_at ho (i := 0) rfl
    have k1 : w2.cell? ⟨g, 1, none⟩ = some (.string ⟨s.data.toList.toArray⟩) := ownS_at ho (i := 1) rfl
    have k4 : w2.cell? ⟨g, 4, none⟩ = some (.int .i64 0) := ownS_at ho (i := 4) rfl
    have k5 : w2.cell? ⟨g, 5, none⟩ = some (.int .i64 0) := ownS_at ho (i := 5) rfl
    have k9 : w2.cell? ⟨g, 9, none⟩ = some (.int .i64 (Q.size : Nat)) := ownS_at ho (i := 9) rfl
    have hse : (⟨s.data.toList.toArray⟩ : ByteArray) = s := by apply ByteArray.ext; simp
    rw [hse] at k1
    have CW := Lib.hid (works_any5 w2 (HE.out.below HB2.out))
    clear ho hb2 hse C1 HB1 CQ hz hql hs
    go_wp2_with (go_at_call 10; refine CW.out.mono ?_; rintro e w3 ⟨rfl, hb3⟩)
    go_ret
    exact ⟨rfl, HB2.out.trans (hb3.mono HB2.out.size)⟩
  · have hz1 : (1048576 : Int) < Q.size := by omega
    have hsc : scanS Q = .bad 5 0 0 := by unfold scanS; rw [if_pos (by omega)]
    clear hsq
    go_enter Tryz.func5, Tryz.ntmps5
    go_wp2_with fail
    refine CQ.out.mono ?_
    rintro e w1 ⟨rfl, hb1⟩
    have C1 := Lib.hid (scan_any Q w1 (HE.out.below hb1) (by omega))
    rw [hsc] at C1
    have HB1 := Lib.hid hb1
    clear hb1 hsc
    go_wp2_with fail
    refine C1.out.mono ?_
    rintro e w2 ⟨rfl, hb2⟩
    have HB2 := Lib.hid (HB1.out.trans (hb2.mono HB1.out.size))
    have CA := Lib.hid (fun V (h : Below w.heap.size w V) => at_fault 5 0 0 V (by decide) (by decide) (HE.out.below h).err)
    have CW := Lib.hid (fun V (h : Below w.heap.size w V) => works_any5 V (HE.out.below h))
    clear hb2 C1 HB1 CQ hz hql hs
    go_wp2_with (first
      | (go_at_call 13; refine (CA.out _ HB2.out).mono ?_; rintro e w3 ⟨rfl, hb3⟩; have HB3 := Lib.hid (HB2.out.trans (hb3.mono HB2.out.size)); clear hb3)
      | (go_at_call 10; refine (CW.out _ HB3.out).mono ?_; rintro e w4 ⟨rfl, hb4⟩))
    go_ret
    exact ⟨rfl, HB3.out.trans (hb4.mono HB3.out.size)⟩
end Go.Proofs.YtlfdpdlhppgakaaGreatDoor
/- The document's answer for scan: Blank, Signs, digit, find, begins. -/
namespace Go.Proofs.YtlfdpdlhppgakaaGreatDoor
open Go Go.RowKit Go.Kt Go.Shelf
attribute [local go_sem] Oper.semAt_some

set_option maxRecDepth 100000 in
theorem xBlank_any (c : Int) (w : World) :
    Calls Tryz.prog 43 #[.int .u8 c] w fun e w' => e = .returned (.bool (isBlk c)) ∧ w = w' := by
  go_enter Tryz.func43, Tryz.ntmps43
  go_wp2
  all_goals go_ret
  all_goals (unfold isBlk; simp [*])

def xdigI (c : Int) : Int := if 48 ≤ c ∧ c ≤ 57 then c - 48 else if 97 ≤ c ∧ c ≤ 102 then c - 87 else if 65 ≤ c ∧ c ≤ 70 then c - 55 else -1
set_option maxRecDepth 100000 in
theorem xdigit_any (c : Int) (w : World) (h0 : 0 ≤ c) (h1 : c < 256) :
    Calls Tryz.prog 98 #[.int .u8 c] w fun e w' => e = .returned (.int .i64 (xdigI c)) ∧ w = w' := by
  go_enter Tryz.func98, Tryz.ntmps98
  go_wp2
  all_goals go_ret
  all_goals (refine ⟨?_, rfl⟩; unfold xdigI)
  all_goals first
    | (exfalso; omega)
    | (rw [if_pos (by omega)]; rfl)
    | (rw [if_neg (by omega), if_pos (by omega)]; simp; omega)
    | (rw [if_neg (by omega), if_neg (by omega), if_pos (by omega)]; simp; omega)
    | (rw [if_neg (by omega), if_neg (by omega), if_neg (by omega)]; rfl)

theorem sgs_bAt : ∀ k, k < 11 → bAt sgsB k = sgsI.getD k 0 := by decide
theorem sgs_take (c : Int) : ∀ k, k < 11 → (sgsI.take (k + 1)).contains c = ((sgsI.take k).contains c || (sgsI.getD k 0 == c)) := by
  intro k hk
  have : sgsI.take (k + 1) = sgsI.take k ++ [sgsI.getD k 0] := by
    have : ∀ k, k < 11 → sgsI.take (k + 1) = sgsI.take k ++ [sgsI.getD k 0] := by decide
    exact this k hk
  rw [this]
  rw [Bool.eq_iff_iff, Bool.or_eq_true, List.contains_iff_mem, List.contains_iff_mem, List.mem_append, List.mem_singleton, beq_iff_eq]
  constructor
  · rintro (h | h)
    · exact .inl h
    · exact .inr h.symm
  · rintro (h | h)
    · exact .inl h
    · exact .inr h.symm
set_option maxRecDepth 100000 in
theorem xSigns_any (c : Int) (w : World) :
    Calls Tryz.prog 37 #[.int .u8 c] w fun e w' => e = .returned (.bool (isSgs c)) ∧ w = w' := by
  obtain ⟨S, hS⟩ : ∃ S : ByteArray, sgsB = S := ⟨_, rfl⟩
  have hz : Hid (S.size = 11) := Lib.hid (by rw [← hS]; rfl)
  have HSS := Lib.hid hS
  clear hS
  go_enter Tryz.func37, Tryz.ntmps37
  go_wp2
  rw [show (⟨#[38, 60, 61, 47, 45, 91, 93, 35, 42, 39, 92]⟩ : ByteArray) = S from HSS.out]
  have hS := HSS.out
  have hz := hz.out
  go_loop [4] (fun v => ∃ k : Nat, k ≤ 11 ∧ v = .int .i64 k ∧ (sgsI.take k).contains c = false) (fun v => 11 - (RowKit.intOf v).toNat)
  case atStart => exact ⟨0, by omega, rfl, rfl⟩
  case round =>
    obtain ⟨k, hk, rfl, hc⟩ := hrel
    by_cases hlt : k < 11
    · have HI : ∀ w, (Instr.index 9 (.string S) (.int .i64 (k : Nat))).run Tryz.prog w = .ok (.int .u8 (bAt S k)) w := fun w => run_bAt S k (by omega) w
      have hb : bAt S k = sgsI.getD k 0 := by rw [← hS]; exact sgs_bAt k hlt
      have ht := sgs_take c k hlt
      rw [hc, Bool.false_or] at ht
      generalize bAt S k = b at *
      rw [← hb] at ht
      have h11 : (k : Int) < 11 := by omega
      by_cases he : b = c
      · have hbe : (b == c) = true := by simpa using he
        have hT : isSgs c = true := by
          rw [hbe] at ht
          unfold isSgs
          rw [List.contains_iff_mem] at ht ⊢
          exact List.mem_of_mem_take ht
        have HT := Lib.hid hT
        subst he
        clear hT ht hb hc hS
        go_wp2
        go_ret
        exact ⟨by rw [HT.out]; rfl, rfl⟩
      · have hbe : (b == c) = false := by simpa using he
        rw [hbe] at ht
        have HT := Lib.hid ht
        clear ht hb hc hS he
        go_wp2
        go_round
        case rel => exact ⟨k + 1, by omega, by go_num, HT.out⟩
        case measure => simp [RowKit.intOf]; omega
    · obtain rfl : k = 11 := by omega
      have hT : isSgs c = false := hc
      have HT := Lib.hid hT
      clear hT hc hS
      go_wp2
      go_ret
      exact ⟨by rw [HT.out]; rfl, rfl⟩

def xfindF (s : ByteArray) (c : Int) : Nat → Nat → Int
  | 0, _ => -1
  | f + 1, i => if i < s.size then (if bAt s i = c then (i : Int) else xfindF s c f (i + 1)) else -1
def xfindI (s : ByteArray) (c : Int) (i : Nat) : Int := xfindF s c s.size i
set_option maxRecDepth 100000 in
theorem xfind_any (s : ByteArray) (i : Nat) (c : Int) (w : World) (hs : s.size ≤ 140737488351232) (hi : i ≤ s.size) :
    Calls Tryz.prog 39 #[.string s, .int .i64 (i : Nat), .int .u8 c] w fun e w' => e = .returned (.int .i64 (xfindI s c i)) ∧ w = w' := by
  obtain ⟨R, hR⟩ : ∃ R, xfindI s c i = R := ⟨_, rfl⟩
  rw [hR]
  have HR := Lib.hid hR
  clear hR
  go_enter Tryz.func39, Tryz.ntmps39
  go_wp2
  go_loop [1] (fun v => ∃ k f : Nat, k ≤ s.size ∧ s.size ≤ k + f ∧ v = .int .i64 k ∧ xfindF s c f k = R) (fun v => s.size - (RowKit.intOf v).toNat)
  case atStart => exact ⟨i, s.size, hi, by omega, rfl, HR.out⟩
  case round =>
    obtain ⟨k, f, hk, hf, rfl, hc⟩ := hrel
    by_cases hlt : k < s.size
    · have HI : ∀ w, (Instr.index 9 (.string s) (.int .i64 (k : Nat))).run Tryz.prog w = .ok (.int .u8 (bAt s k)) w := fun w => run_bAt s k hlt w
      obtain ⟨f', rfl⟩ : ∃ f', f = f' + 1 := ⟨f - 1, by omega⟩
      rw [xfindF, if_pos hlt] at hc
      generalize bAt s k = b at *
      have hlt' : (k : Int) < s.size := by omega
      by_cases he : b = c
      · have hbe : (b == c) = true := by simpa using he
        rw [if_pos he] at hc
        have HT := Lib.hid hc
        subst he
        clear hc
        go_wp2
        go_ret
        exact ⟨by rw [← HT.out]; rfl, rfl⟩
      · have hbe : (b == c) = false := by simpa using he
        rw [if_neg he] at hc
        have HT := Lib.hid hc
        clear hc he
        go_wp2
        go_round
        case rel => exact ⟨k + 1, f', by omega, by omega, by go_num, HT.out⟩
        case measure => simp [RowKit.intOf]; omega
    · have hR1 : R = -1 := by
        rw [← hc]
        cases f with
        | zero => rfl
        | succ f => rw [xfindF, if_neg hlt]
      have HT := Lib.hid hR1
      have hge : ¬ (k : Int) < s.size := by omega
      clear hR1 hc
      go_wp2
      go_ret
      exact ⟨by rw [HT.out]; rfl, rfl⟩
end Go.Proofs.YtlfdpdlhppgakaaGreatDoor
/- ScanQuote: the document's Quote, and the law. -/
namespace Go.Proofs.YtlfdpdlhppgakaaGreatDoor
open Go Go.RowKit Go.Kt Go.Shelf Go.Lib
attribute [local go_sem] Oper.semAt_some

def flatQ (l : List Int) (i : Nat) : List UInt8 := (l.take i).flatMap qptV
theorem flatQ_succ {l : List Int} {i : Nat} {x : Int} (h : l[i]? = some x) : flatQ l (i + 1) = flatQ l i ++ qptV x := by
  unfold flatQ
  rw [List.take_add_one, h]
  simp
theorem flatQ_len (l : List Int) : ∀ i, (flatQ l i).length ≤ 7 * i
  | 0 => by simp [flatQ]
  | i + 1 => by
    cases h : l[i]? with
    | none =>
      have : flatQ l (i + 1) = flatQ l i := by unfold flatQ; rw [List.take_add_one, h]; simp
      rw [this]
      have := flatQ_len l i
      omega
    | some x =>
      rw [flatQ_succ h, List.length_append]
      have h1 := flatQ_len l i
      have h2 := qptV_len x
      omega

set_option maxHeartbeats 4000000 in
set_option maxRecDepth 100000 in
theorem refQuote_any (s : ByteArray) (w : World) (hs : s.size ≤ 1048576) :
    Calls Tryz.prog 18 #[.string s] w fun e w' => e = .returned (.string ⟨(quoV s).toArray⟩) ∧ Below w.heap.size w w' := by
  by_cases h0 : s.size = 0
  · have hs0 : s = ⟨#[]⟩ := by
      apply ByteArray.ext
      exact Array.eq_empty_of_size_eq_zero h0
    subst hs0
    clear hs h0
    go_enter Tryz.func18, Tryz.ntmps18
    go_wp2
    go_ret
    exact ⟨rfl, Below.refl _ _⟩
  have hne : s.toList.isEmpty = false := by
    rw [ByteArray.toList_eq, List.isEmpty_eq_false_iff]
    intro h
    apply h0
    rw [Lib.size_eq, h]; rfl
  have CO := Lib.hid (refOf_any s w (by omega) (by have := units_len s; omega))
  have hpt := pts_points s
  have hqv := quoV_pts s h0
  have hln : (pts s).length ≤ s.size := by rw [pts_len]; exact units_len s
  have hnn : (pts s).length ≠ 0 := by
    rw [pts_len]
    intro h
    have hu : units s = unitsF s s.size 0 := rfl
    obtain ⟨n, hn⟩ : ∃ n, s.size = n + 1 := ⟨s.size - 1, by omega⟩
    rw [hu, hn, unitsF, if_pos (by omega)] at h
    simp at h
  obtain ⟨l, hl⟩ : ∃ l, pts s = l := ⟨_, rfl⟩
  rw [hl] at CO hpt hqv hln hnn
  have hflat : quoV s = flatQ l l.length := by rw [hqv]; unfold flatQ; rw [List.take_length]
  have HF := Lib.hid hflat
  have HP := Lib.hid hpt
  clear hpt hqv hl hflat
  go_enter Tryz.func18, Tryz.ntmps18
  go_wp2_with fail
  refine CO.out.mono ?_
  rintro e w1 ⟨ao, cap, rfl, ho, hb1⟩
  obtain ⟨g, rfl⟩ : ∃ g, ao = some ⟨g, 0, none⟩ := by
    rcases ho.shape with ⟨_, h⟩ | ⟨g, c, h, _⟩
    · exact absurd h hnn
    · injection h with h _; exact ⟨g, h⟩
  have hgl : g < w1.heap.size := (ho.1.lt g rfl).2
  have HC : Hid (∀ (V : World) (i : Nat) (x : Int), Below w1.heap.size w1 V → l[i]? = some x → V.cell? ⟨g, i, none⟩ = some (.int .i32 x)) := Lib.hid fun V i x hV hx =>
    (hV.cell (p := ⟨g, i, none⟩) hgl).trans (ho.at0 (by simp [i32s, List.getElem?_map, hx]))
  obtain ⟨N, hN⟩ : ∃ N, l.length = N := ⟨_, rfl⟩
  rw [hN] at hln HF ⊢
  have HN := Lib.hid hN
  have HB1 := Lib.hid hb1
  have hN2 : (N : Int) ≤ 1048576 := by omega
  clear CO ho hb1 hgl hN hnn hln h0 hne
  go_wp2
  go_loopw [4, 6] (fun o v wr => ∃ (i k : Nat) (ao : Option Addr) (cp : Nat), v = .int .i64 i ∧ o = .slice ao k cp ∧ k = (flatQ l i).length ∧ i ≤ N ∧ OwnS (fun b => w1.heap.size ≤ b) 5 1 (.slice ao k cp) k (u8V (flatQ l i)) wr ∧ Below w1.heap.size w1 wr) (fun _ v _ => N - (RowKit.intOf v).toNat)
  case atStart => exact ⟨0, 0, none, 0, rfl, rfl, rfl, Nat.zero_le _, own_nil _ _ _ _, Below.refl _ _⟩
  case round =>
    obtain ⟨i, k, ao, cp, rfl, rfl, hk, hi, hown, hb⟩ := hrel
    obtain ⟨Wo, hWo⟩ : ∃ Wo, Wo = wr := ⟨_, rfl⟩
    subst hWo
    by_cases hlt : i < N
    · have hlt' : (i : Int) < N := by omega
      obtain ⟨x, hx⟩ : ∃ x, l[i]? = some x := ⟨_, List.getElem?_eq_getElem (by have := HN.out; omega)⟩
      have hxp := HP.out x (List.mem_of_getElem? hx)
      have hxb := (pointB_iff x).1 hxp
      have cx := HC.out Wo i x hb hx
      have hfl := flatQ_succ hx
      have hkb : k ≤ 7 * i := by rw [hk]; exact flatQ_len l i
      obtain ⟨acc, hacc⟩ : ∃ acc, flatQ l i = acc := ⟨_, rfl⟩
      rw [hacc] at hk hown hfl
      have HO := Lib.hid (And.intro hown (And.intro hb (And.intro hfl (And.intro hk (And.intro hkb hxp)))))
      clear hown hb hfl hk hkb hxp hx hacc
      by_cases ha : 1114112 ≤ x
      · have hb0 : 0 ≤ x := by omega
        have hb2 : x ≤ 1114367 := by omega
        obtain ⟨b, hbx⟩ : ∃ b : Nat, x % 256 = (b : Int) := ⟨(x % 256).toNat, by omega⟩
        have hb256 : b < 256 := by omega
        have hb16 : b / 16 < 16 := by omega
        have hbm : b % 16 < 16 := by omega
        have hqp : qptV x = [92, 120, hexD (b / 16), hexD (b % 16)] := by
          unfold qptV
          rw [if_pos ha, hbx, Int.toNat_natCast]
        have HQ := Lib.hid hqp
        clear hxb hqp
        go_wp2_with fail
        obtain ⟨hown, hb, hfl, hk, hkb, hxp⟩ := HO.out
        have hown1 : OwnS (fun y => (Value.slice ao k cp).ownBlock = some y) 5 1 (.slice ao k cp) k (u8V acc) Wo := hown.self
        have hkv : ∀ y, (Value.slice ao k cp).ownBlock = some y → y < Wo.heap.size := fun y h => (hown.1.lt y h).2
        obtain ⟨ti, hti, hz, hs1, hbt⟩ := info_parts tinfo5
        have HI := And.intro hti (And.intro hz (And.intro hs1 hbt))
        have HOC : ∀ u ∈ [Value.int .u8 92, .int .u8 120, .int .u8 ((hexD (b / 16)).toNat : Nat), .int .u8 ((hexD (b % 16)).toNat : Nat)], u.oneCell' = true := by intro u hu; simp at hu; rcases hu with rfl | rfl | rfl | rfl <;> rfl
        have HM1 : k + 4 ≤ maxLen := by unfold maxLen; omega
        have HM2 : (k + 4) * 1 ≤ 140737488355328 := by omega
        have BS : ∀ W : World, (Instr.buildSlice 51 4 #[(0, .int .u8 92), (1, .int .u8 120), (2, .int .u8 ((hexD (b / 16)).toNat : Nat)), (3, .int .u8 ((hexD (b % 16)).toNat : Nat))]).run Tryz.prog W = .ok (.slice (some ⟨W.heap.size, 0, none⟩) 4 4) (W.alloc (.cells #[.int .u8 92, .int .u8 120, .int .u8 ((hexD (b / 16)).toNat : Nat), .int .u8 ((hexD (b % 16)).toNat : Nat)] 5)) := fun W => by go_simp
        obtain ⟨FF, hFF⟩ : ∃ FF : AppR, FF = ⟨Wo, .slice ao k cp, 5, 1, k, k + 4, u8V acc, u8V acc ++ [.int .u8 92, .int .u8 120, .int .u8 ((hexD (b / 16)).toNat : Nat), .int .u8 ((hexD (b % 16)).toNat : Nat)], #[.int .u8 92, .int .u8 120, .int .u8 ((hexD (b / 16)).toNat : Nat), .int .u8 ((hexD (b % 16)).toNat : Nat)], 4, 9, 10, 11, fun z => match z with | 0 => some (.slice ao k cp) | 1 => some (.string ⟨#[48, 49, 50, 51, 52, 53, 54, 55, 56, 57, 97, 98, 99, 100, 101, 102]⟩) | 2 => some (.int .u8 (b : Nat)) | 3 => some (.int .u8 ((b / 16 : Nat) : Int)) | 4 => some (.int .u8 ((hexD (b / 16)).toNat : Nat)) | 5 => some (.string ⟨#[48, 49, 50, 51, 52, 53, 54, 55, 56, 57, 97, 98, 99, 100, 101, 102]⟩) | 6 => some (.int .u8 (b : Nat)) | 7 => some (.int .u8 ((b % 16 : Nat) : Int)) | 8 => some (.int .u8 ((hexD (b % 16)).toNat : Nat)) | _ => none⟩ := ⟨_, rfl⟩
        have H0 : AppR.S FF (fun _ => false) Wo.drew := by rw [hFF]; exact ⟨fun _ => hown1, (Keep.refl _ Wo).drew⟩
        refine wp_region_old (AppR.S FF) (AppR.P FF) (by kernel_rfl) (by kernel_rfl) (by kernel_rfl) H0 ?hs ?hd
        case hs =>
         rw [hFF]
         refine ESteps.cons ?_ (ESteps.cons ?_ (ESteps.cons ?_ (ESteps.cons ?_ (ESteps.cons ?_ (ESteps.cons ?_ (ESteps.cons ?_ (ESteps.cons ?_ (ESteps.cons ?_ (ESteps.cons ?_ (ESteps.cons ?_ (ESteps.cons ?_ (ESteps.nil))))))))))))
         · intro D2 a X hDi hDa _ hX hL hU hd
           refine ⟨rfl, ?_⟩
           have e0 : a.eval (.tmp 4) = .slice ao k cp := (hU 11 4 (hDa 11 (by kernel_rfl)) (by kernel_rfl)).trans (by kernel_rfl)
           exact wp_value (exec_move rfl e0) ⟨_, rfl, hX.more, fun _ _ _ h => h, AppR.P.mk rfl ⟨by simp, by simp, by simp⟩⟩
         · intro D2 a X hDi hDa _ hX hL hU hd
           refine ⟨rfl, ?_⟩
           have e0 : a.eval (.tmp 3) = .string ⟨#[48, 49, 50, 51, 52, 53, 54, 55, 56, 57, 97, 98, 99, 100, 101, 102]⟩ := hL.far 3 (by kernel_rfl)
           exact wp_value (exec_move rfl e0) ⟨_, rfl, hX.more, fun _ _ _ h => h, AppR.P.mk rfl ⟨by simp, by simp, by simp⟩⟩
         · intro D2 a X hDi hDa _ hX hL hU hd
           refine ⟨rfl, ?_⟩
           have e0 : a.eval (.tmp 8) = .int .u8 (b : Nat) := by rw [← hbx]; exact hL.far 8 (by kernel_rfl)
           exact wp_value (exec_move rfl e0) ⟨_, rfl, hX.more, fun _ _ _ h => h, AppR.P.mk rfl ⟨by simp, by simp, by simp⟩⟩
         · intro D2 a X hDi hDa _ hX hL hU hd
           refine ⟨rfl, ?_⟩
           have e0 : a.eval (.tmp 58) = .int .u8 (b : Nat) := (hd 2 58 (by kernel_rfl) (by kernel_rfl)).is rfl
           exact wp_value (exec_binop rfl e0 rfl (quo16 _ _ b hb256 X)) ⟨_, rfl, hX.more, fun _ _ _ h => h, AppR.P.mk rfl ⟨by simp, by simp, by simp⟩⟩
         · intro D2 a X hDi hDa _ hX hL hU hd
           refine ⟨rfl, ?_⟩
           have e0 : a.eval (.tmp 57) = .string ⟨#[48, 49, 50, 51, 52, 53, 54, 55, 56, 57, 97, 98, 99, 100, 101, 102]⟩ := (hd 1 57 (by kernel_rfl) (by kernel_rfl)).is rfl
           have e1 : a.eval (.tmp 59) = .int .u8 ((b / 16 : Nat) : Int) := (hd 3 59 (by kernel_rfl) (by kernel_rfl)).is rfl
           exact wp_value (exec_index rfl e0 e1 (digit8_ix _ hb16 X)) ⟨_, rfl, hX.more, fun _ _ _ h => h, AppR.P.mk rfl ⟨by simp, by simp, by simp⟩⟩
         · intro D2 a X hDi hDa _ hX hL hU hd
           refine ⟨rfl, ?_⟩
           have e0 : a.eval (.tmp 3) = .string ⟨#[48, 49, 50, 51, 52, 53, 54, 55, 56, 57, 97, 98, 99, 100, 101, 102]⟩ := hL.far 3 (by kernel_rfl)
           exact wp_value (exec_move rfl e0) ⟨_, rfl, hX.more, fun _ _ _ h => h, AppR.P.mk rfl ⟨by simp, by simp, by simp⟩⟩
         · intro D2 a X hDi hDa _ hX hL hU hd
           refine ⟨rfl, ?_⟩
           have e0 : a.eval (.tmp 8) = .int .u8 (b : Nat) := by rw [← hbx]; exact hL.far 8 (by kernel_rfl)
           exact wp_value (exec_move rfl e0) ⟨_, rfl, hX.more, fun _ _ _ h => h, AppR.P.mk rfl ⟨by simp, by simp, by simp⟩⟩
         · intro D2 a X hDi hDa _ hX hL hU hd
           refine ⟨rfl, ?_⟩
           have e0 : a.eval (.tmp 62) = .int .u8 (b : Nat) := (hd 6 62 (by kernel_rfl) (by kernel_rfl)).is rfl
           exact wp_value (exec_binop rfl e0 rfl (rem16 _ _ b hb256 X)) ⟨_, rfl, hX.more, fun _ _ _ h => h, AppR.P.mk rfl ⟨by simp, by simp, by simp⟩⟩
         · intro D2 a X hDi hDa _ hX hL hU hd
           refine ⟨rfl, ?_⟩
           have e0 : a.eval (.tmp 61) = .string ⟨#[48, 49, 50, 51, 52, 53, 54, 55, 56, 57, 97, 98, 99, 100, 101, 102]⟩ := (hd 5 61 (by kernel_rfl) (by kernel_rfl)).is rfl
           have e1 : a.eval (.tmp 63) = .int .u8 ((b % 16 : Nat) : Int) := (hd 7 63 (by kernel_rfl) (by kernel_rfl)).is rfl
           exact wp_value (exec_index rfl e0 e1 (digit8_ix _ hbm X)) ⟨_, rfl, hX.more, fun _ _ _ h => h, AppR.P.mk rfl ⟨by simp, by simp, by simp⟩⟩
         · intro D2 a X hDi hDa _ hX hL hU hd
           refine ⟨rfl, ?_⟩
           have e0 : a.eval (.tmp 60) = .int .u8 ((hexD (b / 16)).toNat : Nat) := (hd 4 60 (by kernel_rfl) (by kernel_rfl)).is rfl
           have e1 : a.eval (.tmp 64) = .int .u8 ((hexD (b % 16)).toNat : Nat) := (hd 8 64 (by kernel_rfl) (by kernel_rfl)).is rfl
           refine wp_value (exec_buildSlice rfl (ps := #[(0, .int .u8 92), (1, .int .u8 120), (2, .int .u8 ((hexD (b / 16)).toNat : Nat)), (3, .int .u8 ((hexD (b % 16)).toNat : Nat))]) (by simp only [List.map_toArray, List.map_cons, List.map_nil, e0, e1] <;> rfl) (BS X)) ⟨_, rfl, (hX.below ((Below.refl _ X).alloc (Nat.le_refl _) _)).more, fun _ _ _ h => h.below ((Below.refl _ X).alloc (Nat.le_refl _) _), AppR.P.bs_ rfl ⟨by simp, by simp⟩ ⟨X.heap.size, rfl, World.alloc_heap_new X _, hX.2.size⟩⟩
         · intro D2 a X hDi hDa _ hX hL hU hd
           refine ⟨rfl, ?_⟩
           have e0 : a.eval (.tmp 56) = .slice ao k cp := (hd 0 56 (by kernel_rfl) (by kernel_rfl)).is rfl
           obtain ⟨b2, hb1, hb2, hb3⟩ := (hd 9 65 (by kernel_rfl) (by kernel_rfl)).2.1 rfl
           have h11 := hDa 11 (by kernel_rfl)
           have hown := hX.1 hDi
           refine wp_append_lies X (.tmp 56) (.tmp 65) 51 rfl 0 5 ti (.int .u8 0) 1 1 Tryz.underlying51 HI.1 HI.2.1 HI.2.2.1 HI.2.2.2 rfl (by decide) (.slice ao k cp) k (u8V acc) e0 hown.1 ⟨b2, 0, none⟩ 4 4 [.int .u8 92, .int .u8 120, .int .u8 ((hexD (b / 16)).toNat : Nat), .int .u8 ((hexD (b % 16)).toNat : Nat)] hb1 rfl (World.news_of_block hb2) HOC (by decide) HM1 HM2 (Nat.zero_le _) _ rfl ?_
           intro g2 cap2 X2 hown2 hgrow hat hlt2
           exact ⟨_, rfl, hX.app (keep_grown hgrow), fun j u hj h => h.app hkv (keep_grown hgrow) (fun e => by subst e; rw [hDi] at hj; cases hj) (fun e => by subst e; rw [h11] at hj; cases hj), AppR.P.row (.inl rfl) rfl (by simp) ⟨_, _, rfl, hown2, fun y hy => by
            have : g2 = y := by simpa [Value.ownBlock] using hy
            subst this
            rcases hat with h | h
            · exact .inl h
            · exact .inr (by have := hX.2.size; simp only at this ⊢; omega)⟩⟩
         · intro D2 a X hDi hDa _ hX hL hU hd
           refine ⟨rfl, ?_⟩
           have hrow := (hd 10 66 (by kernel_rfl) (by kernel_rfl)).2.2 (.inl rfl)
           exact wp_value (exec_assign rfl rfl) ⟨_, rfl, hX.more, fun _ _ _ h => h, AppR.P.row (.inr rfl) rfl (by simp) hrow⟩
        case hd =>
          intro D2 a X hAll hX hL hP hE
          have hrow := (hP 11 4 (by kernel_rfl)).2.2 (.inr (by rw [hFF]))
          rw [hFF] at hrow hX
          obtain ⟨ao2, cp2, hv4, ho2⟩ := hrow
          have hK := hX.2
          obtain ⟨f, ha2, hf⟩ := hL.out [56, 57, 58, 59, 60, 61, 62, 63, 64, 65, 66, 4] rfl
          have v4 : f 4 = .slice ao2 (k + 4) cp2 := (hf 4).trans hv4
          have HX := Lib.hid (And.intro ho2 hK)
          clear hf hAll hX hL hP hE H0 hFF BS HM1 HM2 HOC HI hti hz hs1 hbt hkv hown1 hown hb hfl hk hkb hxp ho2 hK hv4
          simp only [List.foldl_cons, List.foldl_nil, List.setIfInBounds_toArray, List.set_cons_zero, List.set_cons_succ, v4] at ha2
          subst ha2
          go_wp2
          go_roundw
          case rel =>
            obtain ⟨hown, hb, hfl, hk, hkb, hxp⟩ := HO.out
            obtain ⟨ho2, hK⟩ := HX.out
            simp only at ho2 hK
            have e1 : u8V acc ++ [.int .u8 92, .int .u8 120, .int .u8 ((hexD (b / 16)).toNat : Nat), .int .u8 ((hexD (b % 16)).toNat : Nat)] = u8V (flatQ l (i + 1)) := by rw [hfl, HQ.out]; simp [u8V]
            rw [e1] at ho2
            exact ⟨i + 1, k + 4, ao2, cp2, rfl, rfl, by rw [hfl, HQ.out, hk]; simp, by omega, ho2.weaken (fun y hy => by
              rcases hy with h | h
              · exact hown.2 y h
              · have := hb.size; omega), hb.trans (hK.below hb.size (fun y h => hown.2 y h))⟩
          case measure => simp [RowKit.intOf]; omega
      have ha2 : x < 1114112 := by omega
      by_cases hc : x ≤ 32 ∨ x = 127
      · have hx0 : 0 ≤ x := by omega
        obtain ⟨d, hd⟩ : ∃ d : Nat, x.toNat / 16 = d := ⟨_, rfl⟩
        obtain ⟨m, hm⟩ : ∃ m : Nat, x.toNat % 16 = m := ⟨_, rfl⟩
        have hb16 : d < 16 := by omega
        have hbm : m < 16 := by omega
        have hxm : x % 256 = x := by omega
        have hw16 : IntKind.u8.wrap (x / 16) = (d : Int) := (IntWalk.u8_in _ (by omega)).trans (by omega)
        have htd : x.tdiv 16 = (d : Int) := by rw [Int.tdiv_eq_ediv_of_nonneg hx0]; omega
        have hwd : IntKind.u8.wrap (d : Int) = (d : Int) := IntWalk.u8_in _ (by omega)
        have hm16 : x.tmod 16 = (m : Int) := by rw [Int.tmod_eq_emod_of_nonneg hx0]; omega
        clear hxb
        by_cases hle : x ≤ 32
        · by_cases h16 : 16 ≤ x
          · skip
            obtain ⟨hown, hb, hfl, hk, hkb, hxp⟩ := HO.out
            have hqp : qptV x = [92, 117, 123] ++ [hexD d] ++ [hexD m, 125] := by
              unfold qptV
              rw [if_neg ha, if_pos hc, if_pos h16, hxm, hd, hm]
            obtain ⟨g1, c1, W1, r1, o1, b1⟩ := app_row hown hb [92, 117, 123] (by decide) (by simp; omega)
            obtain ⟨g2, c2, W2, r2, o2, b2⟩ := app_row o1 b1 [hexD d] (by simp) (by simp; omega)
            obtain ⟨g3, c3, W3, r3, o3, b3⟩ := app_row o2 b2 [hexD m, 125] (by simp) (by simp; omega)
            have R2 : ∀ ty, (Builtin.append_ #[51, 51] ty #[.slice (some ⟨g1, 0, none⟩) (k + 3) c1, .slice (some ⟨W1.heap.size, 0, none⟩) 1 1]).run Tryz.prog (W1.alloc (.cells #[.int .u8 ((hexD d).toNat : Nat)] 5)) = .ok (.slice (some ⟨g2, 0, none⟩) (k + 3 + 1) c2) W2 := r2
            have R3 : ∀ ty, (Builtin.append_ #[51, 51] ty #[.slice (some ⟨g2, 0, none⟩) (k + 3 + 1) c2, .slice (some ⟨W2.heap.size, 0, none⟩) 2 2]).run Tryz.prog (W2.alloc (.cells #[.int .u8 ((hexD m).toNat : Nat), .int .u8 125] 5)) = .ok (.slice (some ⟨g3, 0, none⟩) (k + 3 + 1 + 2) c3) W3 := r3
            have R1 : ∀ ty, (Builtin.append_ #[51, 51] ty #[.slice ao k cp, .slice (some ⟨Wo.heap.size, 0, none⟩) 3 3]).run Tryz.prog (Wo.alloc (.cells #[.int .u8 92, .int .u8 117, .int .u8 123] 5)) = .ok (.slice (some ⟨g1, 0, none⟩) (k + 3) c1) W1 := r1
            have HR1 := Lib.hid R1
            have HR2 := Lib.hid R2
            have HR3 := Lib.hid R3
            have HI1 := digit8_ix _ hb16
            have HI2 := digit8_ix _ hbm
            have HE := Lib.hid (And.intro o3 (And.intro b3 (And.intro hqp (And.intro hfl hk))))
            clear ha hc hd hm
            clear hown hb hfl hk hkb hxp hqp R1 R3 r1 r3 o1 b1 o3 b3 hb16 hbm R2 r2 o2 b2
            go_wp2_with (at_builtin; first | (refine wpList_append_eq rfl rfl rfl rfl HR1.out ?_; clear HR1) | (refine wpList_append_eq rfl rfl rfl rfl HR2.out ?_; clear HR2) | (refine wpList_append_eq rfl rfl rfl rfl HR3.out ?_; clear HR3))
            go_roundw
            case rel =>
              obtain ⟨o3, b3, hqp, hfl, hk⟩ := HE.out
              have e1 : acc ++ [92, 117, 123] ++ [hexD d] ++ [hexD m, 125] = flatQ l (i + 1) := by rw [hfl, hqp]; simp
              rw [e1] at o3
              exact ⟨i + 1, k + 3 + 1 + 2, some ⟨g3, 0, none⟩, c3, rfl, rfl, by rw [hfl, hqp, hk]; simp, by omega, o3, b3⟩
            case measure => simp [RowKit.intOf]; omega
          · skip
            obtain ⟨hown, hb, hfl, hk, hkb, hxp⟩ := HO.out
            have hqp : qptV x = [92, 117, 123] ++ [] ++ [hexD m, 125] := by
              unfold qptV
              rw [if_neg ha, if_pos hc, if_neg h16, hxm, hm]
            obtain ⟨g1, c1, W1, r1, o1, b1⟩ := app_row hown hb [92, 117, 123] (by decide) (by simp; omega)
            obtain ⟨g3, c3, W3, r3, o3, b3⟩ := app_row o1 b1 [hexD m, 125] (by simp) (by simp; omega)
            have R3 : ∀ ty, (Builtin.append_ #[51, 51] ty #[.slice (some ⟨g1, 0, none⟩) (k + 3) c1, .slice (some ⟨W1.heap.size, 0, none⟩) 2 2]).run Tryz.prog (W1.alloc (.cells #[.int .u8 ((hexD m).toNat : Nat), .int .u8 125] 5)) = .ok (.slice (some ⟨g3, 0, none⟩) (k + 3 + 2) c3) W3 := r3
            have R1 : ∀ ty, (Builtin.append_ #[51, 51] ty #[.slice ao k cp, .slice (some ⟨Wo.heap.size, 0, none⟩) 3 3]).run Tryz.prog (Wo.alloc (.cells #[.int .u8 92, .int .u8 117, .int .u8 123] 5)) = .ok (.slice (some ⟨g1, 0, none⟩) (k + 3) c1) W1 := r1
            have HR1 := Lib.hid R1
            have HR3 := Lib.hid R3
            have HI1 := digit8_ix _ hb16
            have HI2 := digit8_ix _ hbm
            have HE := Lib.hid (And.intro o3 (And.intro b3 (And.intro hqp (And.intro hfl hk))))
            clear ha hc hd hm
            clear hown hb hfl hk hkb hxp hqp R1 R3 r1 r3 o1 b1 o3 b3 hb16 hbm
            go_wp2_with (at_builtin; first | (refine wpList_append_eq rfl rfl rfl rfl HR1.out ?_; clear HR1) | (refine wpList_append_eq rfl rfl rfl rfl HR3.out ?_; clear HR3))
            go_roundw
            case rel =>
              obtain ⟨o3, b3, hqp, hfl, hk⟩ := HE.out
              have e1 : acc ++ [92, 117, 123] ++ [hexD m, 125] = flatQ l (i + 1) := by rw [hfl, hqp]; simp
              rw [e1] at o3
              exact ⟨i + 1, k + 3 + 2, some ⟨g3, 0, none⟩, c3, rfl, rfl, by rw [hfl, hqp, hk]; simp, by omega, o3, b3⟩
            case measure => simp [RowKit.intOf]; omega
        · have h16 : 16 ≤ x := by omega
          obtain rfl : x = 127 := by omega
          obtain rfl : d = 7 := by omega
          obtain rfl : m = 15 := by omega
          obtain ⟨hown, hb, hfl, hk, hkb, hxp⟩ := HO.out
          have hqp : qptV 127 = [92, 117, 123] ++ [hexD 7] ++ [hexD 15, 125] := by
            unfold qptV
            rw [if_neg ha, if_pos hc, if_pos h16, hxm, hd, hm]
          obtain ⟨g1, c1, W1, r1, o1, b1⟩ := app_row hown hb [92, 117, 123] (by decide) (by simp; omega)
          obtain ⟨g2, c2, W2, r2, o2, b2⟩ := app_row o1 b1 [hexD 7] (by simp) (by simp; omega)
          obtain ⟨g3, c3, W3, r3, o3, b3⟩ := app_row o2 b2 [hexD 15, 125] (by simp) (by simp; omega)
          have R2 : ∀ ty, (Builtin.append_ #[51, 51] ty #[.slice (some ⟨g1, 0, none⟩) (k + 3) c1, .slice (some ⟨W1.heap.size, 0, none⟩) 1 1]).run Tryz.prog (W1.alloc (.cells #[.int .u8 55] 5)) = .ok (.slice (some ⟨g2, 0, none⟩) (k + 3 + 1) c2) W2 := r2
          have R3 : ∀ ty, (Builtin.append_ #[51, 51] ty #[.slice (some ⟨g2, 0, none⟩) (k + 3 + 1) c2, .slice (some ⟨W2.heap.size, 0, none⟩) 2 2]).run Tryz.prog (W2.alloc (.cells #[.int .u8 102, .int .u8 125] 5)) = .ok (.slice (some ⟨g3, 0, none⟩) (k + 3 + 1 + 2) c3) W3 := r3
          have R1 : ∀ ty, (Builtin.append_ #[51, 51] ty #[.slice ao k cp, .slice (some ⟨Wo.heap.size, 0, none⟩) 3 3]).run Tryz.prog (Wo.alloc (.cells #[.int .u8 92, .int .u8 117, .int .u8 123] 5)) = .ok (.slice (some ⟨g1, 0, none⟩) (k + 3) c1) W1 := r1
          have HR1 := Lib.hid R1
          have HR2 := Lib.hid R2
          have HR3 := Lib.hid R3
          have HE := Lib.hid (And.intro o3 (And.intro b3 (And.intro hqp (And.intro hfl hk))))
          clear ha hc hd hm hxm hw16 htd hwd hm16 hle ha2 hx0 h16
          clear hown hb hfl hk hkb hxp hqp R1 R3 r1 r3 o1 b1 o3 b3 hb16 hbm R2 r2 o2 b2
          go_wp2_with (at_builtin; first | (refine wpList_append_eq rfl rfl rfl rfl HR1.out ?_; clear HR1) | (refine wpList_append_eq rfl rfl rfl rfl HR2.out ?_; clear HR2) | (refine wpList_append_eq rfl rfl rfl rfl HR3.out ?_; clear HR3))
          go_roundw
          case rel =>
            obtain ⟨o3, b3, hqp, hfl, hk⟩ := HE.out
            have e1 : acc ++ [92, 117, 123] ++ [hexD 7] ++ [hexD 15, 125] = flatQ l (i + 1) := by rw [hfl, hqp]; simp
            rw [e1] at o3
            exact ⟨i + 1, k + 3 + 1 + 2, some ⟨g3, 0, none⟩, c3, rfl, rfl, by rw [hfl, hqp, hk]; simp, by omega, o3, b3⟩
          case measure => simp [RowKit.intOf]; omega
      by_cases hlo : x < 128
      · by_cases hsg : isSgs x = true
        · skip
          obtain ⟨hown, hb, hfl, hk, hkb, hxp⟩ := HO.out
          have hqp : qptV x = [92] ++ bytesP x := by unfold qptV; rw [if_neg ha, if_neg hc, if_pos ⟨hlo, hsg⟩]
          obtain ⟨g1, c1, W1, r1, o1, b1⟩ := app_row hown hb [92] (by decide) (by simp; omega)
          have R1 : ∀ ty, (Builtin.append_ #[51, 51] ty #[.slice ao k cp, .slice (some ⟨Wo.heap.size, 0, none⟩) 1 1]).run Tryz.prog (Wo.alloc (.cells #[.int .u8 92] 5)) = .ok (.slice (some ⟨g1, 0, none⟩) (k + 1) c1) W1 := r1
          have HR1 := Lib.hid R1
          have ho1 : OwnS (fun b => w1.heap.size ≤ b) 5 1 (.slice (some ⟨g1, 0, none⟩) (k + 1) c1) (k + 1) (u8V (acc ++ [92])) W1 := o1
          have CSg : Hid (∀ V, Calls Tryz.prog 37 #[.int .u8 x] V fun e w' => e = .returned (.bool true) ∧ V = w') := Lib.hid fun V => by have h := xSigns_any x V; rw [show isSgs x = true from hsg] at h; exact h
          have hxm : x % 256 = x := by omega
          have hx33 : 32 < x := by omega
          have hx127 : (x == 127) = false := by simp; omega
          have hw32 : IntKind.i32.wrap x = x := IntWalk.i32_in _ (by omega)
          have CBy := Lib.hid (fun V => refBytes_any x V hxp)
          obtain ⟨pt, hpt⟩ : ∃ pt, bytesP x = pt := ⟨_, rfl⟩
          have hptl := bytesP_len x
          rw [hpt] at CBy hqp hptl
          obtain ⟨n, hn⟩ : ∃ n, pt.length = n := ⟨_, rfl⟩
          have HE := Lib.hid (And.intro ho1 (And.intro b1 (And.intro hqp (And.intro hfl (And.intro hk (And.intro hkb (And.intro hptl hn)))))))
          clear ha hc hown hb hfl hk hkb hxp hqp ho1 b1 hpt hptl hn hxb R1 r1 o1 hsg
          go_wp2_with (first | (go_at_call 37; refine (CSg.out _).mono ?_; rintro e w5 ⟨rfl, rfl⟩) | (at_builtin; refine wpList_append_eq rfl rfl rfl rfl HR1.out ?_; clear HR1))
          refine (CBy.out _).mono ?_
          rintro e w6 ⟨rfl, hw6⟩
          obtain ⟨ho1, b1, hqp, hfl, hk, hkb, hptl, hn⟩ := HE.out
          rw [hn]
          obtain ⟨PB, hPB⟩ : ∃ PB, W1.heap.size = PB := ⟨_, rfl⟩
          rw [hPB]
          have hbl : w6.heap[PB]? = some (.cells (u8V pt).toArray 5 (0, 0)) := by rw [hw6, ← hPB]; exact World.alloc_heap_new W1 _
          have hb6 : Below W1.heap.size W1 w6 := by rw [hw6]; exact (Below.refl _ W1).alloc (Nat.le_refl _) _
          have hz6 : w6.heap.size = PB + 1 := by rw [hw6, ← hPB]; simp
          have ho6 : OwnS (fun y => w1.heap.size ≤ y ∧ y ≠ PB) 5 1 (.slice (some ⟨g1, 0, none⟩) (k + 1) c1) (k + 1) (u8V (acc ++ [92])) w6 := by
            have h1 := ho1.keep (X := fun _ => False) (Keep.of_all hb6) (fun _ h => h.elim)
            exact ⟨h1.1, fun y hy => ⟨h1.2 y hy, by have := (ho1.1.lt y hy).2; omega⟩⟩
          have hbw6 : Below w1.heap.size w1 w6 := b1.trans (hb6.mono b1.size)
          have HL := Lib.hid (And.intro hbl (And.intro hz6 (And.intro ho6 hbw6)))
          have hn4 : (n : Int) ≤ 4 := by omega
          have hkk : (k + 1 : Int) ≤ 7340040 := by omega
          clear ho1 b1 hqp hfl hk hkb hptl hn hbl hb6 hz6 ho6 hbw6 hw6 hPB
          go_wp2
          go_loopw [4, 10] (fun o v wr => ∃ (q z : Nat) (ao2 : Option Addr) (cp2 : Nat), v = .int .i64 q ∧ o = .slice ao2 z cp2 ∧ z = k + 1 + q ∧ q ≤ n ∧ OwnS (fun y => w1.heap.size ≤ y ∧ y ≠ PB) 5 1 (.slice ao2 z cp2) z (u8V ((acc ++ [92]) ++ pt.take q)) wr ∧ Keep (fun y => w1.heap.size ≤ y ∧ y ≠ PB) w6 wr) (fun _ v _ => n - (RowKit.intOf v).toNat)
          case atStart => exact ⟨0, k + 1, _, _, rfl, rfl, rfl, Nat.zero_le _, by simpa using HL.out.2.2.1, Keep.refl _ _⟩
          case round =>
            obtain ⟨q, z, ao2, cp2, rfl, rfl, hz, hq, hoq, hkq⟩ := hrel
            obtain ⟨hbl, hz6, ho6, hbw6⟩ := HL.out
            obtain ⟨ho1, b1, hqp, hfl, hk, hkb, hptl, hn⟩ := HE.out
            by_cases hqn : q < n
            · have hqn' : (q : Int) < n := by omega
              obtain ⟨u, hu⟩ : ∃ u, pt[q]? = some u := ⟨_, List.getElem?_eq_getElem (by omega)⟩
              have hcl : wr.cell? ⟨PB, q, none⟩ = some (.int .u8 (u.toNat : Nat)) := by
                have h1 : wr.heap[PB]? = some (.cells (u8V pt).toArray 5 (0, 0)) := hkq.heap hbl (fun h => h.2 rfl)
                rw [Lib.cell_of_heap h1]
                simp [u8V, hu]
              have hzz := hkq.size
              obtain ⟨g5, c5, W5, r5, o5, k5⟩ := app_rowY hoq (fun y hy => ⟨by have := hbw6.size; omega, by omega⟩) [u] (by simp) (by simp; omega)
              have R5 : ∀ ty, (Builtin.append_ #[51, 51] ty #[.slice ao2 z cp2, .slice (some ⟨wr.heap.size, 0, none⟩) 1 1]).run Tryz.prog (wr.alloc (.cells #[.int .u8 (u.toNat : Nat)] 5)) = .ok (.slice (some ⟨g5, 0, none⟩) (z + 1) c5) W5 := r5
              have HR5 := Lib.hid R5
              have etk : (acc ++ [92]) ++ pt.take q ++ [u] = (acc ++ [92]) ++ pt.take (q + 1) := by rw [List.take_add_one, hu]; simp
              rw [etk] at o5
              have HM := Lib.hid (And.intro o5 (And.intro (hkq.trans k5) hz))
              clear hbl hz6 ho6 hbw6 ho1 b1 hqp hfl hk hkb hptl hn hu hzz r5 o5 k5 R5 hoq hkq etk hz
              go_wp2_with (at_builtin; refine wpList_append_eq rfl rfl rfl rfl HR5.out ?_; clear HR5)
              go_roundw
              case rel => exact ⟨q + 1, z + 1, some ⟨g5, 0, none⟩, c5, rfl, rfl, by have := HM.out.2.2; omega, by omega, HM.out.1, HM.out.2.1⟩
              case measure => simp [RowKit.intOf]; omega
            · have hqe : q = n := by omega
              subst hqe
              have hnl : ¬ (q : Int) < q := by omega
              have etk : (acc ++ [92]) ++ pt.take q = flatQ l (i + 1) := by rw [List.take_of_length_le (by omega), hfl, hqp]; simp
              rw [etk] at hoq
              have hzl : z = (flatQ l (i + 1)).length := by rw [← etk, List.length_append, List.length_take, hz, List.length_append, hk, hn]; simp
              have HM := Lib.hid (And.intro (hoq.weaken (Z := fun b => w1.heap.size ≤ b) fun y h => h.1) (And.intro hzl (hbw6.trans (hkq.below hbw6.size fun y h => h.1))))
              clear hbl hz6 ho6 hbw6 ho1 b1 hqp hfl hk hkb hptl hn hoq hkq etk hz hzl
              go_wp2
              go_roundw
              case rel => exact ⟨i + 1, z, ao2, cp2, rfl, rfl, HM.out.2.1, by omega, HM.out.1, HM.out.2.2⟩
              case measure => simp [RowKit.intOf]; omega
        · skip
          obtain ⟨hown, hb, hfl, hk, hkb, hxp⟩ := HO.out
          have hqp : qptV x = [] ++ bytesP x := by unfold qptV; rw [if_neg ha, if_neg hc, if_neg (fun h => hsg h.2)]
          have ho1 := hown
          have b1 := hb
          have CSg : Hid (∀ V, Calls Tryz.prog 37 #[.int .u8 x] V fun e w' => e = .returned (.bool false) ∧ V = w') := Lib.hid fun V => by have h := xSigns_any x V; rw [show isSgs x = false from by simpa using hsg] at h; exact h
          have hxm : x % 256 = x := by omega
          have hx33 : 32 < x := by omega
          have hx127 : (x == 127) = false := by simp; omega
          have hw32 : IntKind.i32.wrap x = x := IntWalk.i32_in _ (by omega)
          have CBy := Lib.hid (fun V => refBytes_any x V hxp)
          obtain ⟨pt, hpt⟩ : ∃ pt, bytesP x = pt := ⟨_, rfl⟩
          have hptl := bytesP_len x
          rw [hpt] at CBy hqp hptl
          obtain ⟨n, hn⟩ : ∃ n, pt.length = n := ⟨_, rfl⟩
          have HE := Lib.hid (And.intro ho1 (And.intro b1 (And.intro hqp (And.intro hfl (And.intro hk (And.intro hkb (And.intro hptl hn)))))))
          clear ha hc hown hb hfl hk hkb hxp hqp ho1 b1 hpt hptl hn hxb hsg
          go_wp2_with (go_at_call 37; refine (CSg.out _).mono ?_; rintro e w5 ⟨rfl, rfl⟩)
          refine (CBy.out _).mono ?_
          rintro e w6 ⟨rfl, hw6⟩
          obtain ⟨ho1, b1, hqp, hfl, hk, hkb, hptl, hn⟩ := HE.out
          rw [hn]
          obtain ⟨PB, hPB⟩ : ∃ PB, Wo.heap.size = PB := ⟨_, rfl⟩
          rw [hPB]
          have hbl : w6.heap[PB]? = some (.cells (u8V pt).toArray 5 (0, 0)) := by rw [hw6, ← hPB]; exact World.alloc_heap_new Wo _
          have hb6 : Below Wo.heap.size Wo w6 := by rw [hw6]; exact (Below.refl _ Wo).alloc (Nat.le_refl _) _
          have hz6 : w6.heap.size = PB + 1 := by rw [hw6, ← hPB]; simp
          have ho6 : OwnS (fun y => w1.heap.size ≤ y ∧ y ≠ PB) 5 1 (.slice ao k cp) (k) (u8V acc) w6 := by
            have h1 := ho1.keep (X := fun _ => False) (Keep.of_all hb6) (fun _ h => h.elim)
            exact ⟨h1.1, fun y hy => ⟨h1.2 y hy, by have := (ho1.1.lt y hy).2; omega⟩⟩
          have hbw6 : Below w1.heap.size w1 w6 := b1.trans (hb6.mono b1.size)
          have HL := Lib.hid (And.intro hbl (And.intro hz6 (And.intro ho6 hbw6)))
          have hn4 : (n : Int) ≤ 4 := by omega
          have hkk : (k : Int) ≤ 7340040 := by omega
          clear ho1 b1 hqp hfl hk hkb hptl hn hbl hb6 hz6 ho6 hbw6 hw6 hPB
          go_wp2
          go_loopw [4, 10] (fun o v wr => ∃ (q z : Nat) (ao2 : Option Addr) (cp2 : Nat), v = .int .i64 q ∧ o = .slice ao2 z cp2 ∧ z = k + q ∧ q ≤ n ∧ OwnS (fun y => w1.heap.size ≤ y ∧ y ≠ PB) 5 1 (.slice ao2 z cp2) z (u8V (acc ++ pt.take q)) wr ∧ Keep (fun y => w1.heap.size ≤ y ∧ y ≠ PB) w6 wr) (fun _ v _ => n - (RowKit.intOf v).toNat)
          case atStart => exact ⟨0, k, _, _, rfl, rfl, rfl, Nat.zero_le _, by simpa using HL.out.2.2.1, Keep.refl _ _⟩
          case round =>
            obtain ⟨q, z, ao2, cp2, rfl, rfl, hz, hq, hoq, hkq⟩ := hrel
            obtain ⟨hbl, hz6, ho6, hbw6⟩ := HL.out
            obtain ⟨ho1, b1, hqp, hfl, hk, hkb, hptl, hn⟩ := HE.out
            by_cases hqn : q < n
            · have hqn' : (q : Int) < n := by omega
              obtain ⟨u, hu⟩ : ∃ u, pt[q]? = some u := ⟨_, List.getElem?_eq_getElem (by omega)⟩
              have hcl : wr.cell? ⟨PB, q, none⟩ = some (.int .u8 (u.toNat : Nat)) := by
                have h1 : wr.heap[PB]? = some (.cells (u8V pt).toArray 5 (0, 0)) := hkq.heap hbl (fun h => h.2 rfl)
                rw [Lib.cell_of_heap h1]
                simp [u8V, hu]
              have hzz := hkq.size
              obtain ⟨g5, c5, W5, r5, o5, k5⟩ := app_rowY hoq (fun y hy => ⟨by have := hbw6.size; omega, by omega⟩) [u] (by simp) (by simp; omega)
              have R5 : ∀ ty, (Builtin.append_ #[51, 51] ty #[.slice ao2 z cp2, .slice (some ⟨wr.heap.size, 0, none⟩) 1 1]).run Tryz.prog (wr.alloc (.cells #[.int .u8 (u.toNat : Nat)] 5)) = .ok (.slice (some ⟨g5, 0, none⟩) (z + 1) c5) W5 := r5
              have HR5 := Lib.hid R5
              have etk : acc ++ pt.take q ++ [u] = acc ++ pt.take (q + 1) := by rw [List.take_add_one, hu]; simp
              rw [etk] at o5
              have HM := Lib.hid (And.intro o5 (And.intro (hkq.trans k5) hz))
              clear hbl hz6 ho6 hbw6 ho1 b1 hqp hfl hk hkb hptl hn hu hzz r5 o5 k5 R5 hoq hkq etk hz
              go_wp2_with (at_builtin; refine wpList_append_eq rfl rfl rfl rfl HR5.out ?_; clear HR5)
              go_roundw
              case rel => exact ⟨q + 1, z + 1, some ⟨g5, 0, none⟩, c5, rfl, rfl, by have := HM.out.2.2; omega, by omega, HM.out.1, HM.out.2.1⟩
              case measure => simp [RowKit.intOf]; omega
            · have hqe : q = n := by omega
              subst hqe
              have hnl : ¬ (q : Int) < q := by omega
              have etk : acc ++ pt.take q = flatQ l (i + 1) := by rw [List.take_of_length_le (by omega), hfl, hqp]; simp
              rw [etk] at hoq
              have hzl : z = (flatQ l (i + 1)).length := by rw [← etk, List.length_append, List.length_take, hz, hk, hn]; simp
              have HM := Lib.hid (And.intro (hoq.weaken (Z := fun b => w1.heap.size ≤ b) fun y h => h.1) (And.intro hzl (hbw6.trans (hkq.below hbw6.size fun y h => h.1))))
              clear hbl hz6 ho6 hbw6 ho1 b1 hqp hfl hk hkb hptl hn hoq hkq etk hz hzl
              go_wp2
              go_roundw
              case rel => exact ⟨i + 1, z, ao2, cp2, rfl, rfl, HM.out.2.1, by omega, HM.out.1, HM.out.2.2⟩
              case measure => simp [RowKit.intOf]; omega
      · skip
        obtain ⟨hown, hb, hfl, hk, hkb, hxp⟩ := HO.out
        have hqp : qptV x = [] ++ bytesP x := by unfold qptV; rw [if_neg ha, if_neg hc, if_neg (fun h => hlo h.1)]
        have ho1 := hown
        have b1 := hb
        have hx33 : 32 < x := by omega
        have hx127 : (x == 127) = false := by simp; omega
        have hw32 : IntKind.i32.wrap x = x := IntWalk.i32_in _ (by omega)
        have CBy := Lib.hid (fun V => refBytes_any x V hxp)
        obtain ⟨pt, hpt⟩ : ∃ pt, bytesP x = pt := ⟨_, rfl⟩
        have hptl := bytesP_len x
        rw [hpt] at CBy hqp hptl
        obtain ⟨n, hn⟩ : ∃ n, pt.length = n := ⟨_, rfl⟩
        have HE := Lib.hid (And.intro ho1 (And.intro b1 (And.intro hqp (And.intro hfl (And.intro hk (And.intro hkb (And.intro hptl hn)))))))
        clear ha hc hown hb hfl hk hkb hxp hqp ho1 b1 hpt hptl hn hxb
        go_wp2_with fail
        refine (CBy.out _).mono ?_
        rintro e w6 ⟨rfl, hw6⟩
        obtain ⟨ho1, b1, hqp, hfl, hk, hkb, hptl, hn⟩ := HE.out
        rw [hn]
        obtain ⟨PB, hPB⟩ : ∃ PB, Wo.heap.size = PB := ⟨_, rfl⟩
        rw [hPB]
        have hbl : w6.heap[PB]? = some (.cells (u8V pt).toArray 5 (0, 0)) := by rw [hw6, ← hPB]; exact World.alloc_heap_new Wo _
        have hb6 : Below Wo.heap.size Wo w6 := by rw [hw6]; exact (Below.refl _ Wo).alloc (Nat.le_refl _) _
        have hz6 : w6.heap.size = PB + 1 := by rw [hw6, ← hPB]; simp
        have ho6 : OwnS (fun y => w1.heap.size ≤ y ∧ y ≠ PB) 5 1 (.slice ao k cp) (k) (u8V acc) w6 := by
          have h1 := ho1.keep (X := fun _ => False) (Keep.of_all hb6) (fun _ h => h.elim)
          exact ⟨h1.1, fun y hy => ⟨h1.2 y hy, by have := (ho1.1.lt y hy).2; omega⟩⟩
        have hbw6 : Below w1.heap.size w1 w6 := b1.trans (hb6.mono b1.size)
        have HL := Lib.hid (And.intro hbl (And.intro hz6 (And.intro ho6 hbw6)))
        have hn4 : (n : Int) ≤ 4 := by omega
        have hkk : (k : Int) ≤ 7340040 := by omega
        clear ho1 b1 hqp hfl hk hkb hptl hn hbl hb6 hz6 ho6 hbw6 hw6 hPB
        go_wp2
        go_loopw [4, 10] (fun o v wr => ∃ (q z : Nat) (ao2 : Option Addr) (cp2 : Nat), v = .int .i64 q ∧ o = .slice ao2 z cp2 ∧ z = k + q ∧ q ≤ n ∧ OwnS (fun y => w1.heap.size ≤ y ∧ y ≠ PB) 5 1 (.slice ao2 z cp2) z (u8V (acc ++ pt.take q)) wr ∧ Keep (fun y => w1.heap.size ≤ y ∧ y ≠ PB) w6 wr) (fun _ v _ => n - (RowKit.intOf v).toNat)
        case atStart => exact ⟨0, k, _, _, rfl, rfl, rfl, Nat.zero_le _, by simpa using HL.out.2.2.1, Keep.refl _ _⟩
        case round =>
          obtain ⟨q, z, ao2, cp2, rfl, rfl, hz, hq, hoq, hkq⟩ := hrel
          obtain ⟨hbl, hz6, ho6, hbw6⟩ := HL.out
          obtain ⟨ho1, b1, hqp, hfl, hk, hkb, hptl, hn⟩ := HE.out
          by_cases hqn : q < n
          · have hqn' : (q : Int) < n := by omega
            obtain ⟨u, hu⟩ : ∃ u, pt[q]? = some u := ⟨_, List.getElem?_eq_getElem (by omega)⟩
            have hcl : wr.cell? ⟨PB, q, none⟩ = some (.int .u8 (u.toNat : Nat)) := by
              have h1 : wr.heap[PB]? = some (.cells (u8V pt).toArray 5 (0, 0)) := hkq.heap hbl (fun h => h.2 rfl)
              rw [Lib.cell_of_heap h1]
              simp [u8V, hu]
            have hzz := hkq.size
            obtain ⟨g5, c5, W5, r5, o5, k5⟩ := app_rowY hoq (fun y hy => ⟨by have := hbw6.size; omega, by omega⟩) [u] (by simp) (by simp; omega)
            have R5 : ∀ ty, (Builtin.append_ #[51, 51] ty #[.slice ao2 z cp2, .slice (some ⟨wr.heap.size, 0, none⟩) 1 1]).run Tryz.prog (wr.alloc (.cells #[.int .u8 (u.toNat : Nat)] 5)) = .ok (.slice (some ⟨g5, 0, none⟩) (z + 1) c5) W5 := r5
            have HR5 := Lib.hid R5
            have etk : acc ++ pt.take q ++ [u] = acc ++ pt.take (q + 1) := by rw [List.take_add_one, hu]; simp
            rw [etk] at o5
            have HM := Lib.hid (And.intro o5 (And.intro (hkq.trans k5) hz))
            clear hbl hz6 ho6 hbw6 ho1 b1 hqp hfl hk hkb hptl hn hu hzz r5 o5 k5 R5 hoq hkq etk hz
            go_wp2_with (at_builtin; refine wpList_append_eq rfl rfl rfl rfl HR5.out ?_; clear HR5)
            go_roundw
            case rel => exact ⟨q + 1, z + 1, some ⟨g5, 0, none⟩, c5, rfl, rfl, by have := HM.out.2.2; omega, by omega, HM.out.1, HM.out.2.1⟩
            case measure => simp [RowKit.intOf]; omega
          · have hqe : q = n := by omega
            subst hqe
            have hnl : ¬ (q : Int) < q := by omega
            have etk : acc ++ pt.take q = flatQ l (i + 1) := by rw [List.take_of_length_le (by omega), hfl, hqp]; simp
            rw [etk] at hoq
            have hzl : z = (flatQ l (i + 1)).length := by rw [← etk, List.length_append, List.length_take, hz, hk, hn]; simp
            have HM := Lib.hid (And.intro (hoq.weaken (Z := fun b => w1.heap.size ≤ b) fun y h => h.1) (And.intro hzl (hbw6.trans (hkq.below hbw6.size fun y h => h.1))))
            clear hbl hz6 ho6 hbw6 ho1 b1 hqp hfl hk hkb hptl hn hoq hkq etk hz hzl
            go_wp2
            go_roundw
            case rel => exact ⟨i + 1, z, ao2, cp2, rfl, rfl, HM.out.2.1, by omega, HM.out.1, HM.out.2.2⟩
            case measure => simp [RowKit.intOf]; omega
    · have hie : i = N := by omega
      subst hie
      have hnl : ¬ (i : Int) < i := by omega
      have hcv := conv_own (by rw [hk] at hown; exact hown : OwnS (fun b => w1.heap.size ≤ b) 5 1 (.slice ao (flatQ l i).length cp) (flatQ l i).length (u8V (flatQ l i)) Wo)
      rw [← hk] at hcv
      have hfin := HF.out
      rw [← hfin] at hcv
      have HB2 := Lib.hid (HB1.out.trans (hb.mono HB1.out.size))
      clear hown hb hk hfin
      go_wp2
      go_ret
      exact ⟨rfl, HB2.out⟩

set_option maxRecDepth 100000 in
theorem scanQuote_c (s : ByteArray) (w : World) (hE : SEnv w) (hB : BTab w) (hl : 6 < w.heap.size) (hs : s.size ≤ 1048576) :
    Calls Tryz.prog 4 #[.string s] w fun e w' => e = .returned (.bool true) ∧ Below w.heap.size w w' := by
  have CQ := Lib.hid (quote_any s w hE hB hl (by omega))
  have CR := Lib.hid (fun V => refQuote_any s V hs)
  have CW := Lib.hid (fun V (h : Below w.heap.size w V) => works_any5 V (hE.below h))
  obtain ⟨Q, hQ⟩ : ∃ Q : ByteArray, (⟨(quoV s).toArray⟩ : ByteArray) = Q := ⟨_, rfl⟩
  rw [hQ] at CQ CR
  clear hE hB hl hQ
  go_enter Tryz.func4, Tryz.ntmps4
  go_wp2_with fail
  refine CQ.out.mono ?_
  rintro e w1 ⟨rfl, hb1⟩
  have HB1 := Lib.hid hb1
  clear hb1
  go_wp2_with fail
  refine (CR.out _).mono ?_
  rintro e w2 ⟨rfl, hb2⟩
  have HB2 := Lib.hid (HB1.out.trans (hb2.mono HB1.out.size))
  clear hb2
  go_wp2_with (go_at_call 10; refine (CW.out _ HB2.out).mono ?_; rintro e w4 ⟨rfl, hb4⟩)
  go_ret
  exact ⟨rfl, HB2.out.trans (hb4.mono HB2.out.size)⟩
end Go.Proofs.YtlfdpdlhppgakaaGreatDoor
/- Of every text (of bulk at most 1048576), ScanQuote answers true (what Quote answers is what the document's Quote answers), in any world in which the package's variables are laid: the row and the card. -/
namespace Go.Proofs.YtlfdpdlhppgakaaGreatDoor
open Go.ChangeShapes Go.WideShapes Go.ChangeAt Go.RowKit Go.Kt
set_option maxRecDepth 100000

theorem scanQuoteUpto_lifted (os : Os) (started : os.Started) (H : Type) (enc : TypeId × Value → H) (F : Stop.Interp) :
    ReturnsInHanded {} Tryz.checked os 4 .any ((Rows.OpenSpec.upto Rows.scanQuoteSpec).preRow enc Tryz.prog Tryz.f4 Rows.scanQuoteUptoRow.domain false Rows.scanQuoteUptoRow.laid) (((Rows.OpenSpec.upto Rows.scanQuoteSpec).at F).post enc Tryz.prog Tryz.f4 false true false false) := by
  refine returnsInHanded_of_row (C := Tryz.checked) (s := Rows.OpenSpec.upto Rows.scanQuoteSpec) own started (by kernel_rfl) Tryz.func4
    (witness_row_at (enc := enc) (C := Tryz.checked) false (world8 os) #[.string ⟨#[]⟩] (world8_os _) (by kernel_rfl) (by kernel_rfl) (by kernel_rfl)
      (OpenSpec.preRow_of_cond (x := ([.lit (.string [])], [], [])) 8 (by kernel_rfl) (by kernel_rfl) (fun k hk => by cases hk; kernel_rfl) (by kernel_rfl) (laid_met8 os _))) ?_
  intro W base args ds gs before hval0 hW _ hcond hz hL _ _
  have hval : ∀ (j : Nat) t v, Tryz.f4.params[j]? = some t → args[j]? = some v → Value.okWide Tryz.prog W .any base t v := hval0
  have hW' := hW
  obtain ⟨p, q, hA0, hV, rfl, _, _⟩ := hW
  have hA : DataW.TrodAll enc Tryz.prog W 0 (fun _ => true) true Tryz.f4.params.toList args.toList ds p := hA0
  rw [Tryz.params4] at hA hval
  obtain ⟨v0, d0, rfl, rfl, h0⟩ := trodAll_one hA
  obtain ⟨rfl, rfl⟩ := trodVars_none hV
  obtain ⟨a0, rfl, rfl, rfl, w0⟩ := ChangeMaps.open_string Tryz.underlying9 (hval 0 9 v0 rfl rfl) h0
  have z0 : a0.size ≤ 140737488351232 := by simpa [reachBytes] using sized_string hz (j := 0) rfl rfl
  obtain ⟨hE, hT, hTl⟩ := of_laid8 hL
  have hB := of_decide_eq_true (hcond _ rfl)
  simp only [List.append_nil, Rows.uptoBulkAll, Rows.uptoBulk, Array.length_toList] at hB
  clear hA0 hval0
  simp only [List.append_nil] at hW'
  refine (scanQuote_c a0 W hE hT hTl (by have e : a0.size = a0.data.size := rfl; omega)).mono fun e W' ⟨he, hb⟩ => ?_
  subst he
  exact ⟨_, rfl, _, _, _, [], [], [], hW', trodAll_mk1 (shut_bool Tryz.underlying4 _), (trodAll_mk1 (ChangeMaps.shut_string Tryz.underlying9 w0)), rfl, hb.frame _, fun h => by cases h⟩

theorem scanQuoteUpto_said : Rows.ScanQuoteUptoSaid :=
  OpenClaim.holds_of_cond 4 Tryz.f4 rfl rfl rfl rfl rfl rfl rfl ⟨rfl, rfl, rfl, rfl, rfl⟩ rfl rfl rfl rfl rfl (by kernel_rfl) Tryz.func4 (by kernel_rfl)
    (of_decide_eq_true (by kernel_rfl)) (by unfold Func.isWrapper; first | (rw [if_pos (by decide +kernel)]; kernel_rfl) | (rw [if_neg (by decide +kernel)]; exact ⟨rfl, rfl⟩))
    (fun os started H enc _ F => by rw [OpenClaim.pre_eq_preRow]; exact scanQuoteUpto_lifted os started H enc F)

theorem scanQuoteUpto_plain (f : FuncId) (fn : Func) (hf : Tryz.pinned.checked.prog.funcNamed "glossary/glossarylaw05.ScanQuote" = some f) (hfn : Tryz.pinned.checked.prog.funcs[f]? = some fn) :
    true = Tryz.pinned.checked.prog.looks [] ∧ ∀ (j : Nat) t, fn.params[j]? = some t → Tryz.pinned.checked.prog.wantsStandIn t = false := by
  obtain rfl : f = 4 := Option.some.inj ((show Tryz.prog.funcNamed "glossary/glossarylaw05.ScanQuote" = some 4 by kernel_rfl).symm.trans hf) |>.symm
  obtain rfl : fn = Tryz.f4 := (Option.some.inj (Tryz.func4.symm.trans hfn)).symm
  refine ⟨by kernel_rfl, fun j t ht => ?_⟩
  rw [Tryz.params4] at ht
  have hm : t ∈ [9] := by simpa using Array.mem_of_getElem? ht
  have hall : ([9].all fun u => !Tryz.prog.wantsStandIn u) = true := by kernel_rfl
  exact (show Tryz.prog.wantsStandIn t = false by simpa using List.all_eq_true.1 hall t hm)

theorem scanQuoteUpto_card : Rows.ScanQuoteUptoCardSaid :=
  Claim7.holds_tied_plain_at .later [] _ _ _ _ scanQuoteUpto_said (fun _ h => by cases h) (by kernel_rfl) (fun _ h => by cases h) scanQuoteUpto_row_tie rfl ⟨rfl, rfl⟩ (by kernel_rfl) rfl scanQuoteUpto_plain (by kernel_rfl)

end Go.Proofs.YtlfdpdlhppgakaaGreatDoor
