/- Parts of the proof of what the last text says. -/
import Derived.Test.YtbnnhbmnddaafaaGreatDoorGz15
/- What the scanner's run makes of a text; a token. No run in this text. -/
namespace Go.Proofs.YtbnnhbmnddaafaaGreatDoor
open Go Go.RowKit Go.Kt Go.Kt.Rg Go.Shelf Go.Lib

def xquoF (s : ByteArray) : Nat → Nat → List UInt8 → Option (List UInt8 × Nat)
  | 0, _, _ => none
  | f + 1, k, out => if k < s.size then (if B s k = 39 then (if B s (k + 1) = 39 then xquoF s f (k + 2) (out ++ [39]) else some (out, k + 1)) else xquoF s f (k + 1) (out ++ [UInt8.ofNat (B s k)])) else none
def xquoV (s : ByteArray) (i : Nat) : Option (List UInt8 × Nat) := xquoF s s.size (i + 1) []
inductive TxR where
  | ok (x : List UInt8) (next : Nat)
  | bad (no i : Nat)
def xtextF (s : ByteArray) : Nat → Nat → List UInt8 → TxR
  | 0, i, out => .ok out i
  | f + 1, i, out => if i < s.size then
      (if B s i = 39 then (match xquoV s i with | some (x, k) => xtextF s f k (out ++ x) | none => .bad 10 i)
       else if B s i = 92 then (match unescV (s.extract i s.size) with | some (x, k) => xtextF s f (i + k) (out ++ x) | none => .bad 9 i)
       else if isBlk (B s i : Nat) = true ∨ isSgs (B s i : Nat) = true then .ok out i
       else xtextF s f (i + unitW s i) (out ++ seg s i (i + unitW s i)))
    else .ok out i
def xtextV (s : ByteArray) (i : Nat) : TxR := xtextF s s.size i []

theorem xquo_skip (s : ByteArray) : ∀ (w f k : Nat) (out : List UInt8), (∀ j, j < w → B s (k + j) ≠ 39) → k + w ≤ s.size → xquoF s (f + w) k out = xquoF s f (k + w) (out ++ seg s k (k + w)) := by
  intro w
  induction w with
  | zero => intro f k out _ _; rw [Nat.add_zero, Nat.add_zero, seg_none, List.append_nil]
  | succ w ih =>
    intro f k out h hk
    have h0 := h 0 (by omega)
    rw [Nat.add_zero] at h0
    rw [show f + (w + 1) = (f + w) + 1 by omega, xquoF, if_pos (by omega), if_neg h0, ih f (k + 1) _ (fun j hj => by have := h (j + 1) (by omega); rw [show k + 1 + j = k + (j + 1) by omega]; exact this) (by omega), show k + 1 + w = k + (w + 1) by omega]
    congr 1
    have h1 : seg s k (k + (w + 1)) = seg s k (k + 1) ++ seg s (k + 1) (k + (w + 1)) := by
      rw [seg_eq, seg_eq, seg_eq, List.drop_take, List.drop_take, List.drop_take, show k + (w + 1) - k = 1 + w by omega, show k + 1 - k = 1 by omega, show k + (w + 1) - (k + 1) = w by omega, List.take_add, List.drop_drop]
    rw [h1, one_byte (by omega), List.append_assoc]
theorem xquo_end (s : ByteArray) : ∀ (f k : Nat) (out : List UInt8), ¬ k < s.size → xquoF s f k out = none := by
  intro f k out h
  cases f with
  | zero => rfl
  | succ f => rw [xquoF, if_neg h]
theorem unit_no39 {s : ByteArray} {k : Nat} (hk : k < s.size) (h : B s k ≠ 39) : ∀ j, j < (Utf8.decode s k).2 → B s (k + j) ≠ 39 := by
  intro j hj
  by_cases hw : (Utf8.decode s k).2 = 1
  · obtain rfl : j = 0 := by omega
    exact h
  · rcases Nat.eq_zero_or_pos j with rfl | h0
    · exact h
    · intro h39
      have h3 := (dec_width s k hk).2.2
      have := asc_fit (s := s) (i := k) (j := k + j) (by omega) (by omega) (by omega)
      omega

section
variable {s : ByteArray} {i f : Nat} {c : Sc} {T : List Tk} {x : List UInt8} {fr : Pl}
def txO (s : ByteArray) (c1 : Sc) (r : Int) : TR := match plainS s c1 r with
  | .took c => .ok c
  | .bad no p => .bad no p
  | .left c => betweenS s (addT c 1 c.text) r
def TX (s : ByteArray) (i : Nat) (c : Sc) (fr : Pl) (T : List Tk) (x : List UInt8) : Prop :=
  ∃ c1 : Sc, c1.here = plNext s c.here i ∧ c1.from = fr ∧ c1.toks = T ∧ c1.text = x ∧ tokenS s { c with here := plNext s c.here i } (rU s i : Nat) = txO s c1 (rU s i : Nat)
theorem token_tx {r : Int} (h4 : 4 ≤ c.st) (hp : pieceS s c r = plainS s c r) : tokenS s c r = txO s c r := by
  unfold tokenS
  rw [if_neg (by omega), if_neg (by omega), if_neg (by omega), if_neg (by omega)]
  unfold textS txO
  rw [hp]
  cases plainS s c r <;> rfl
theorem TX.of4 (h : c.st = 4) : TX s i c c.from c.toks c.text :=
  ⟨{ c with here := plNext s c.here i }, rfl, rfl, rfl, rfl, token_tx (by simp [h]) (by unfold pieceS; simp [h])⟩
theorem TX.of6 (h : c.st = 6) (hr : rU s i ≠ 39) : TX s i c c.from c.toks c.text :=
  ⟨{ c with here := plNext s c.here i }, rfl, rfl, rfl, rfl, token_tx (by simp [h]) (by
    unfold pieceS
    rw [if_neg (by simp [h]), if_pos (by simp [h])]
    unfold closingS
    rw [if_neg (by omega)])⟩
theorem TX.of7 (h : c.st = 7) (hb : c.behind ≤ i) : TX s i c c.from c.toks c.text :=
  ⟨{ c with here := plNext s c.here i }, rfl, rfl, rfl, rfl, token_tx (by simp [h]) (by
    unfold pieceS
    rw [if_neg (by simp [h]), if_neg (by simp [h]), if_pos (by simp [h])]
    unfold escapeS
    rw [if_pos (by simp only [(plNext_ix s c.here i).1]; exact hb)])⟩
theorem TX.cast {y : List UInt8} {T' : List Tk} {fr' : Pl} (h : TX s i c fr T x) (h1 : fr = fr') (h2 : T = T') (h3 : x = y) : TX s i c fr' T' y := by subst h1 h2 h3; exact h

theorem quo_run {x0 : List UInt8} {qp : Pl} : ∀ (g k : Nat) (out : List UInt8) (c : Sc) (f : Nat), s.size ≤ k + g → Ahead s k c → c.st = 5 → c.from = fr → c.toks = T → c.text = x0 ++ out → c.quote = qp → Fu s k f →
    match xquoF s g k out with
    | some (y, next) => next ≤ s.size ∧ k < next ∧ ∃ c' f', Ahead s next c' ∧ TX s next c' fr T (x0 ++ y) ∧ Fu s next f' ∧ runS s f k c = runS s f' next c'
    | none => finS (runS s f k c) = .bad 10 qp.1 qp.2.1 := by
  intro g
  induction g using Nat.strongRecOn with
  | ind g ih =>
    intro k out c f hg ha h5 hfr hT hx hq hf
    have hle := ha.le
    by_cases hk : k < s.size
    · obtain ⟨g, rfl⟩ : ∃ g', g = g' + 1 := ⟨g - 1, by omega⟩
      by_cases h39 : B s k = 39
      · have hr : rU s k = 39 := (rU_is hk (by decide)).2 h39
        have ht : tokenS s { c with here := plNext s c.here k } (rU s k : Nat) = .ok { c with here := plNext s c.here k, st := 6 } := by
          rw [hr]
          unfold tokenS
          rw [if_neg (by simp [h5]), if_neg (by simp [h5]), if_neg (by simp [h5]), if_neg (by simp [h5])]
          unfold textS pieceS
          rw [if_pos (by simp [h5])]
          rfl
        obtain ⟨f', e, ha2, hf2, _⟩ := run_step ha hk hf ht
        have hw : (Utf8.decode s k).2 = 1 := by rw [dec_lo s k (by omega)]
        rw [hw] at e ha2 hf2
        rw [xquoF, if_pos hk, if_pos h39]
        by_cases h2 : B s (k + 1) = 39
        · rw [if_pos h2]
          have hk1 : k + 1 < s.size := B_in (by omega)
          have hr1 : rU s (k + 1) = 39 := (rU_is hk1 (by decide)).2 h2
          obtain ⟨cx, hcx⟩ : ∃ cx : Sc, cx = { c with here := plNext s c.here k, st := 6 } := ⟨_, rfl⟩
          rw [← hcx] at e ha2
          have ht1 : tokenS s { cx with here := plNext s cx.here (k + 1) } (rU s (k + 1) : Nat) = .ok { cx with here := plNext s cx.here (k + 1), st := 5, text := cx.text ++ [39] } := by
            rw [hr1]
            unfold tokenS
            rw [if_neg (by simp [hcx]), if_neg (by simp [hcx]), if_neg (by simp [hcx]), if_neg (by simp [hcx])]
            unfold textS pieceS
            rw [if_neg (by simp [hcx]), if_pos (by simp [hcx])]
            rfl
          obtain ⟨f2, e2, ha3, hf3, _⟩ := run_step ha2 hk1 hf2 ht1
          have hw1 : (Utf8.decode s (k + 1)).2 = 1 := by rw [dec_lo s (k + 1) (by omega)]
          rw [hw1] at e2 ha3 hf3
          have := ih g (by omega) (k + 2) (out ++ [39]) _ f2 (by omega) ha3 rfl (by rw [hcx]; exact hfr) (by rw [hcx]; exact hT) (by rw [hcx]; simp only [hx, List.append_assoc]) (by rw [hcx]; exact hq) hf3
          rw [e, e2]
          cases hX : xquoF s g (k + 2) (out ++ [39]) with
          | none => rw [hX] at this; exact this
          | some r =>
            obtain ⟨y, next⟩ := r
            rw [hX] at this
            obtain ⟨q1, q2, q3⟩ := this
            exact ⟨q1, by omega, q3⟩
        · rw [if_neg h2]
          refine ⟨by omega, by omega, _, f', ha2, ?_, hf2, e⟩
          refine (TX.of6 (s := s) (i := k + 1) (c := { c with here := plNext s c.here k, st := 6 }) rfl ?_).cast hfr hT hx
          by_cases hk1 : k + 1 < s.size
          · exact fun h => h2 ((rU_is hk1 (by decide)).1 h)
          · rw [rU_out hk1]; decide
      · have hr : rU s k ≠ 39 := fun h => h39 ((rU_is hk (by decide)).1 h)
        have hU : unitL s k = seg s k (k + (Utf8.decode s k).2) := by unfold unitL; rw [unitW_dec hk]; rfl
        have ht : tokenS s { c with here := plNext s c.here k } (rU s k : Nat) = .ok { c with here := plNext s c.here k, text := c.text ++ seg s k (k + (Utf8.decode s k).2) } := by
          unfold tokenS
          rw [if_neg (by simp [h5]), if_neg (by simp [h5]), if_neg (by simp [h5]), if_neg (by simp [h5])]
          unfold textS pieceS
          rw [if_pos (by simp [h5])]
          unfold quotedS
          rw [if_neg (by omega)]
          simp only [(plNext_ix s c.here k).1, hU]
        obtain ⟨f', e, ha2, hf2, _⟩ := run_step ha hk hf ht
        obtain ⟨w1, w2, w3⟩ := dec_width s k hk
        have hsk := xquo_skip s (Utf8.decode s k).2 (g + 1 - (Utf8.decode s k).2) k out (unit_no39 hk h39) w3
        rw [show g + 1 - (Utf8.decode s k).2 + (Utf8.decode s k).2 = g + 1 by omega] at hsk
        rw [hsk]
        have := ih (g + 1 - (Utf8.decode s k).2) (by omega) (k + (Utf8.decode s k).2) (out ++ seg s k (k + (Utf8.decode s k).2)) _ f' (by omega) ha2 h5 hfr hT (by simp only [hx, List.append_assoc]) hq hf2
        rw [e]
        cases hX : xquoF s (g + 1 - (Utf8.decode s k).2) (k + (Utf8.decode s k).2) (out ++ seg s k (k + (Utf8.decode s k).2)) with
        | none => rw [hX] at this; exact this
        | some r =>
          obtain ⟨y, next⟩ := r
          rw [hX] at this
          obtain ⟨q1, q2, q3⟩ := this
          exact ⟨q1, by omega, q3⟩
    · obtain rfl : k = s.size := by omega
      rw [xquo_end s g _ out hk]
      have ht : tokenS s { c with here := plNext s c.here s.size } (10 : Nat) = .ok { c with here := plNext s c.here s.size, text := c.text ++ unitL s s.size } := by
        unfold tokenS
        rw [if_neg (by simp [h5]), if_neg (by simp [h5]), if_neg (by simp [h5]), if_neg (by simp [h5])]
        unfold textS pieceS
        rw [if_pos (by simp [h5])]
        unfold quotedS
        rw [if_neg (by decide)]
        simp only [(plNext_ix s c.here s.size).1]
      show finS (runS s f s.size c) = _
      rw [run_fin hf ht]
      show endS _ = _
      unfold endS
      rw [if_neg (by simp [h5]), if_pos (by simp [h5])]
      simp only [hq]

def Bdy (s : ByteArray) (i : Nat) : Prop := ∃ n, (plN s n).2.2 = i
theorem Bdy.next (h : Bdy s i) (hi : i < s.size) : Bdy s (i + (Utf8.decode s i).2) := by
  obtain ⟨n, hn⟩ := h
  exact ⟨n + 1, by rw [plN_at, hn, if_pos hi]⟩
theorem Bdy.asc (h : Bdy s i) (hi : i < s.size) (hb : B s i < 128) : Bdy s (i + 1) := by
  have := h.next hi
  rwa [dec_lo s i hb] at this
theorem Bdy.ascs (h : Bdy s i) : ∀ n, i + n ≤ s.size → (∀ j, j < n → B s (i + j) < 128) → Bdy s (i + n)
  | 0, _, _ => h
  | n + 1, h1, h2 => (Bdy.ascs h n (by omega) fun j hj => h2 j (by omega)).asc (by omega) (h2 n (by omega))
theorem Ahead.bdy (h : Ahead s i c) : Bdy s i := by
  obtain ⟨⟨n, e1⟩, e2⟩ := h.pl
  exact ⟨n, by rw [e1]; exact e2⟩
theorem digV_asc {b : Nat} {d : Nat} (hb : b < 256) (h : digV b = some d) : b < 128 := by
  revert h
  have : ∀ b, b < 256 → ∀ d, digV b = some d → b < 128 := by
    intro b hb d h
    unfold digV at h
    split at h
    · omega
    · split at h
      · rename_i h2
        have : b ≤ (b ||| 32) := Nat.left_le_or
        omega
      · cases h
  exact this b hb d
theorem puF_asc {mx : Nat} : ∀ (l : List UInt8) (n m : Nat), puF mx n l = some m → ∀ b ∈ l, b.toNat < 128
  | [], _, _, _, _, h => by cases h
  | a :: l, n, m, h, b, hb => by
    rw [puF] at h
    cases hd : digV a.toNat with
    | none => rw [hd] at h; cases h
    | some d =>
      rw [hd] at h
      simp only at h
      split at h
      · cases h
      · split at h
        · cases h
        · rcases List.mem_cons.1 hb with rfl | hb
          · exact digV_asc b.toNat_lt hd
          · exact puF_asc l _ m h b hb
theorem puV_asc {mx : Nat} {l : List UInt8} {m : Nat} (h : puV mx l = some m) : ∀ b ∈ l, b.toNat < 128 := by
  unfold puV at h
  split at h
  · cases h
  · exact puF_asc l 0 m h
theorem rest_B {s : ByteArray} (i : Nat) (_hi : i ≤ s.size) (j : Nat) : B (s.extract i s.size) j = B s (i + j) := by
  have h : (s.extract i s.size).data.toList = s.data.toList.drop i := by
    have : (s.extract i s.size).data.toList = seg s i s.size := rfl
    rw [this, seg_eq, List.take_of_length_le (by rw [← Lib.size_eq]; omega)]
  unfold B
  rw [h, List.getD_eq_getElem?_getD, List.getElem?_drop, ← List.getD_eq_getElem?_getD]
theorem rest_L {s : ByteArray} (i : Nat) : (s.extract i s.size).data.toList = s.data.toList.drop i := by
  have : (s.extract i s.size).data.toList = seg s i s.size := rfl
  rw [this, seg_eq, List.take_of_length_le (by rw [← Lib.size_eq]; omega)]
theorem rest_z {s : ByteArray} (i : Nat) : (s.extract i s.size).size = s.size - i := by rw [ByteArray.size_extract]; omega
theorem rest_dec {s : ByteArray} (i : Nat) (hi : i ≤ s.size) (j : Nat) : Utf8.decode (s.extract i s.size) j = Utf8.decode s (i + j) := by
  rw [decode_B, decode_B, rest_z, rest_B i hi, rest_B i hi, rest_B i hi, rest_B i hi, show s.size - i - j = s.size - (i + j) by omega]
  rfl
theorem opn_B {X : ByteArray} (h : opn X.data.toList = true) : B X 0 = 92 ∧ B X 1 = 117 ∧ B X 2 = 123 ∧ 3 ≤ X.size := by
  unfold opn at h
  rw [List.isPrefixOf_iff_prefix] at h
  obtain ⟨t, ht⟩ := h
  have hz : X.size = 3 + t.length := by rw [Lib.size_eq, ← ht]; simp; omega
  refine ⟨?_, ?_, ?_, by omega⟩ <;> (unfold B; rw [← ht]; rfl)
set_option maxHeartbeats 1000000 in
theorem esc_bdy (hb : Bdy s i) (hi : i < s.size) (h92 : B s i = 92) {t : List UInt8} {k : Nat} (hu : unescV (s.extract i s.size) = some (t, k)) : Bdy s (i + k) ∧ 2 ≤ k ∧ i + k ≤ s.size := by
  have hz := rest_z (s := s) i
  have hk2 := unesc_ge hu
  have hkl := unesc_le (by omega) hu
  refine ⟨?_, hk2, by omega⟩
  have hB : ∀ j, B (s.extract i s.size) j = B s (i + j) := rest_B i (by omega)
  unfold unescV at hu
  split at hu
  · cases hu
  rename_i hW
  split at hu
  · rename_i h117
    unfold chrV at hu
    cases hp : puV 16777215 (upB (rst (s.extract i s.size).data.toList)) with
    | none => rw [hp] at hu; cases hu
    | some n =>
      rw [hp] at hu
      unfold chrO at hu
      simp only at hu
      split at hu
      · rename_i hc
        injection hu with hu
        injection hu with h1 h2
        simp only [Bool.and_eq_true] at hc
        obtain ⟨⟨⟨ho, hcl⟩, _⟩, _⟩ := hc
        obtain ⟨b0, b1, b2, b3⟩ := opn_B ho
        have hr : rst (s.extract i s.size).data.toList = (s.extract i s.size).data.toList.drop 3 := by unfold rst; rw [if_pos ho]
        rw [← h2]
        refine hb.ascs _ (by omega) fun j hj => ?_
        rw [← hB]
        rcases Nat.lt_or_ge j 3 with h3 | h3
        · rcases (by omega : j = 0 ∨ j = 1 ∨ j = 2) with rfl | rfl | rfl <;> omega
        · -- a digit, or the brace
          have hL := puV_asc hp
          have hat : ∀ m, m < (upB (rst (s.extract i s.size).data.toList)).length → B (s.extract i s.size) (3 + m) < 128 := fun m hm => by
            have hm1 : (upB (rst (s.extract i s.size).data.toList))[m]? = (rst (s.extract i s.size).data.toList)[m]? := by
              have hpre : upB (rst (s.extract i s.size).data.toList) <+: rst (s.extract i s.size).data.toList := List.takeWhile_prefix _
              obtain ⟨t2, ht2⟩ := hpre
              conv => rhs; rw [← ht2, List.getElem?_append_left hm]
            have hm2 : (upB (rst (s.extract i s.size).data.toList))[m]? = some ((upB (rst (s.extract i s.size).data.toList))[m]) := List.getElem?_eq_getElem hm
            have := hL _ (List.getElem_mem hm)
            unfold B
            rw [List.getD_eq_getElem?_getD, ← List.getElem?_drop, ← hr, ← hm1, hm2]
            exact this
          by_cases hm : j - 3 < (upB (rst (s.extract i s.size).data.toList)).length
          · have := hat (j - 3) hm
            rwa [show 3 + (j - 3) = j by omega] at this
          · have hj4 : j = 3 + (upB (rst (s.extract i s.size).data.toList)).length := by omega
            have h125 : B (s.extract i s.size) j = 125 := by
              have hsplit : ∀ l : List UInt8, l.contains 125 = true → l[(upB l).length]? = some 125 := by
                intro l
                induction l with
                | nil => intro h; simp at h
                | cons a l ih =>
                  intro h
                  unfold upB
                  rw [List.takeWhile_cons]
                  split
                  · rename_i ha
                    have hne : a ≠ 125 := by simpa using ha
                    have h2 : l.contains 125 = true := by
                      rw [List.contains_cons] at h
                      rcases Bool.or_eq_true _ _ ▸ h with h | h
                      · exact absurd (beq_iff_eq.1 h).symm hne
                      · exact h
                    have := ih h2
                    unfold upB at this
                    simpa using this
                  · rename_i ha
                    have : a = 125 := by simpa using ha
                    subst this
                    rfl
              have := hsplit _ hcl
              unfold B
              rw [List.getD_eq_getElem?_getD, hj4, ← List.getElem?_drop, ← hr, this]
              rfl
            omega
      · cases hu
  split at hu
  · rename_i h120
    unfold illV at hu
    split at hu
    · cases hu
    rename_i hl4
    rw [← Lib.size_eq] at hl4
    cases hp : puV 255 (((s.extract i s.size).data.toList.drop 2).take 2) with
    | none => rw [hp] at hu; cases hu
    | some n =>
      rw [hp] at hu
      simp only at hu
      split at hu
      · cases hu
      injection hu with hu
      injection hu with h1 h2
      rw [← h2]
      have hx : B s (i + 1) = 120 := by
        have h1z : 1 < (s.extract i s.size).size := by omega
        have := decP_in (s.extract i s.size) 1 h1z
        rw [show ((1 : Nat) : Int) = 1 from rfl] at this
        rw [this] at h120
        have h3 : (Utf8.decode (s.extract i s.size) 1).1 = 120 := by simp only at h120; omega
        rw [rest_dec i (by omega)] at h3
        rw [(dec_r_lo (s := s) (i := i + 1) (by omega)).1, h3]
      have hd23 : ∀ j, 2 ≤ j → j < 4 → B (s.extract i s.size) j < 128 := fun j h2 h4 => by
        have hL := puV_asc hp
        have hm : (((s.extract i s.size).data.toList.drop 2).take 2)[j - 2]? = (s.extract i s.size).data.toList[j]? := by
          rw [List.getElem?_take_of_lt (by omega), List.getElem?_drop, show 2 + (j - 2) = j by omega]
        have hm2 : (s.extract i s.size).data.toList[j]? = some ((s.extract i s.size).data.toList[j]'(by rw [← Lib.size_eq]; omega)) := List.getElem?_eq_getElem _
        have hin := hL _ (List.mem_of_getElem? (hm.trans hm2))
        unfold B
        rw [List.getD_eq_getElem?_getD, hm2]
        exact hin
      refine hb.ascs 4 (by omega) fun j hj => ?_
      rcases (by omega : j = 0 ∨ j = 1 ∨ j = 2 ∨ j = 3) with rfl | rfl | rfl | rfl
      · rw [Nat.add_zero]; omega
      · omega
      · rw [← hB]; exact hd23 2 (by omega) (by omega)
      · rw [← hB]; exact hd23 3 (by omega) (by omega)
  · injection hu with hu
    injection hu with h1 h2
    rw [← h2]
    have h1z : 1 < (s.extract i s.size).size := by
      unfold unitW at hW
      by_cases h : 1 < (s.extract i s.size).size
      · exact h
      · rw [if_neg h] at hW; exact absurd rfl hW
    have := (hb.asc hi (by omega)).next (by omega)
    unfold unitW
    rw [if_pos h1z, rest_dec i (by omega)]
    rwa [show i + (1 + (Utf8.decode s (i + 1)).2) = i + 1 + (Utf8.decode s (i + 1)).2 by omega]
end
end Go.Proofs.YtbnnhbmnddaafaaGreatDoor
/- The document's escapes are the program's: digits, and what an escape stands for. No run in this text. -/
namespace Go.Proofs.YtbnnhbmnddaafaaGreatDoor
open Go Go.RowKit Go.Kt Go.Kt.Rg Go.Shelf Go.Lib

theorem dig_eq : ∀ b : Nat, b < 256 → (match digV b with | none => (-1 : Int) | some d => if 16 ≤ d then -1 else (d : Int)) = xdigI (b : Nat) := by decide +kernel
theorem seg_cons {s : ByteArray} {k n : Nat} (h : k + (n + 1) ≤ s.size) : seg s k (k + (n + 1)) = UInt8.ofNat (B s k) :: seg s (k + 1) (k + 1 + n) := by
  rw [← seg_app s k (k + 1) (k + (n + 1)) (by omega) (by omega), one_byte (by omega), show k + (n + 1) = k + 1 + n by omega]
  rfl
def oI : Option Nat → Int
  | none => -1
  | some m => (m : Nat)
theorem xnum_pu (s : ByteArray) (mx : Nat) : ∀ (n k v : Nat), k + n ≤ s.size → (v + 1) * 16 ^ n ≤ mx + 1 → xnumF s n k (v : Nat) = oI (puF mx v (seg s k (k + n))) := by
  intro n
  induction n with
  | zero => intro k v _ _; rw [Nat.add_zero, seg_none]; rfl
  | succ n ih =>
    intro k v hk hm
    rw [seg_cons hk, xnumF, puF]
    have hb : (UInt8.ofNat (B s k)).toNat = B s k := by
      have := B_lt s k
      rw [UInt8.toNat_ofNat']
      omega
    rw [hb, bAt_B, ← dig_eq _ (B_lt s k)]
    cases hd : digV (B s k) with
    | none => rfl
    | some d =>
      simp only
      by_cases h16 : 16 ≤ d
      · rw [if_pos h16, if_pos (by decide), if_pos h16]; rfl
      · rw [if_neg h16, if_neg (by omega), if_neg h16]
        have hp : 1 ≤ 16 ^ n := Nat.one_le_pow _ _ (by decide)
        have h1 : (v * 16 + d + 1) * 16 ^ n ≤ (v + 1) * 16 ^ (n + 1) := by
          rw [Nat.pow_succ, Nat.mul_comm (16 ^ n) 16, ← Nat.mul_assoc]
          exact Nat.mul_le_mul_right _ (by omega)
        have h2 : v * 16 + d + 1 ≤ (v * 16 + d + 1) * 16 ^ n := Nat.le_mul_of_pos_right _ hp
        rw [if_neg (by omega), show ((v : Nat) : Int) * 16 + (d : Nat) = ((v * 16 + d : Nat) : Int) by omega, ih (k + 1) (v * 16 + d) (by omega) (by omega)]
theorem puV_oI {mx : Nat} {l : List UInt8} (h : l ≠ []) : puV mx l = puF mx 0 l := by unfold puV; rw [if_neg h]

section
variable {s : ByteArray} {i : Nat}
theorem unit1_in (hi : i + 1 < s.size) : unitW (s.extract i s.size) 1 = (Utf8.decode s (i + 1)).2 ∧ (decP (s.extract i s.size) 1).1 = ((Utf8.decode s (i + 1)).1 : Nat) ∧ unitW (s.extract i s.size) 1 ≠ 0 := by
  have hz := rest_z (s := s) i
  have h1 : unitW (s.extract i s.size) 1 = (Utf8.decode s (i + 1)).2 := by
    unfold unitW
    rw [if_pos (by omega), rest_dec i (by omega)]
  refine ⟨h1, ?_, by rw [h1]; have := (dec_width s (i + 1) hi).1; omega⟩
  have := decP_in (s.extract i s.size) 1 (by omega)
  rw [show ((1 : Nat) : Int) = 1 from rfl] at this
  rw [this, rest_dec i (by omega)]
theorem esc_none (hi : i + 1 = s.size) : unescV (s.extract i s.size) = none := by
  have hz := rest_z (s := s) i
  unfold unescV unitW
  rw [if_neg (show ¬ 1 < (s.extract i s.size).size by omega), if_pos rfl]
theorem esc_x (hi : i + 1 < s.size) (hx : B s (i + 1) = 120) : unescV (s.extract i s.size) = if xnumI s (i + 2) (i + 4) 2 2 < 128 then none else some ([UInt8.ofNat (xnumI s (i + 2) (i + 4) 2 2).toNat], 4) := by
  obtain ⟨u1, u2, u3⟩ := unit1_in hi
  have hd : Utf8.decode s (i + 1) = (120, 1) := by rw [dec_lo s (i + 1) (by omega), hx]
  unfold unescV
  rw [if_neg u3, u2, hd, if_neg (by decide), if_pos (by decide)]
  unfold illV xnumI
  rw [rest_L]
  by_cases h4 : (s.data.toList.drop i).length < 4
  · rw [if_pos h4]
    rw [List.length_drop, ← Lib.size_eq] at h4
    rw [if_pos (show i + 4 - (i + 2) < 2 ∨ 2 < i + 4 - (i + 2) ∨ s.size < i + 4 by omega), if_pos (by decide)]
  · rw [if_neg h4]
    rw [List.length_drop, ← Lib.size_eq] at h4
    rw [if_neg (show ¬ (i + 4 - (i + 2) < 2 ∨ 2 < i + 4 - (i + 2) ∨ s.size < i + 4) by omega)]
    have hseg : ((s.data.toList.drop i).drop 2).take 2 = seg s (i + 2) (i + 2 + 2) := by
      rw [seg_eq, List.drop_drop, List.drop_take, show i + 2 + 2 - (i + 2) = 2 by omega]
    have hne : seg s (i + 2) (i + 2 + 2) ≠ [] := by
      intro h
      have := seg_len s (i + 2) (i + 2 + 2) (by omega) (by omega)
      rw [h] at this
      simp at this
    have hn : xnumF s 2 (i + 2) 0 = oI (puF 255 0 (seg s (i + 2) (i + 2 + 2))) := xnum_pu s 255 2 (i + 2) 0 (by omega) (by decide)
    rw [hseg, puV_oI hne, show i + 4 - (i + 2) = 2 by omega, hn]
    cases hp : puF 255 0 (seg s (i + 2) (i + 2 + 2)) with
    | none => rw [show oI none = -1 from rfl, if_pos (by decide)]
    | some n =>
      rw [show oI (some n) = ((n : Nat) : Int) from rfl]
      simp only
      by_cases h : n < 128
      · rw [if_pos h, if_pos (by omega)]
      · rw [if_neg h, if_neg (by omega), Int.toNat_natCast]
theorem opn_of (h0 : B s i = 92) (h1 : B s (i + 1) = 117) (h2 : B s (i + 2) = 123) : opn (s.data.toList.drop i) = true := by
  have i2 := B_in (s := s) (i := i + 2) (by omega)
  have e := seg_cons (s := s) (k := i) (n := 2) (by omega)
  rw [seg_cons (s := s) (k := i + 1) (n := 1) (by omega), seg_cons (s := s) (k := i + 1 + 1) (n := 0) (by omega), show i + 1 + 1 = i + 2 by omega, h0, h1, h2, Nat.add_zero, seg_none] at e
  unfold opn
  rw [List.isPrefixOf_iff_prefix]
  have hs : seg s i (i + (2 + 1)) = (s.data.toList.drop i).take 3 := by rw [seg_eq, List.drop_take, show i + (2 + 1) - i = 3 by omega]
  have : ([92, 117, 123] : List UInt8) = (s.data.toList.drop i).take 3 := by rw [← hs, e]; decide
  rw [this]
  exact List.take_prefix 3 _
theorem beg_one {c : UInt8} (hc : c ≠ 0) : begL s i [c] = true ↔ B s i = c.toNat := by
  unfold begL
  constructor
  · intro h
    simp only [List.length_cons, List.length_nil, Nat.zero_add, Bool.and_eq_true, decide_eq_true_eq, beq_iff_eq] at h
    obtain ⟨h1, h2⟩ := h
    rw [one_byte (by omega)] at h2
    injection h2 with h3 _
    have := congrArg UInt8.toNat h3
    rw [UInt8.toNat_ofNat'] at this
    have := B_lt s i
    omega
  · intro h
    have hn : c.toNat ≠ 0 := fun h0 => hc (UInt8.toNat_inj.1 (by rw [h0]; rfl))
    have hi := B_in (s := s) (i := i) (by omega)
    simp only [List.length_cons, List.length_nil, Nat.zero_add, Bool.and_eq_true, decide_eq_true_eq, beq_iff_eq]
    refine ⟨by omega, ?_⟩
    rw [one_byte hi, h, UInt8.ofNat_toNat]
theorem up_len : ∀ (l : List UInt8) (n : Nat), n < l.length → l[n]? = some 125 → (∀ m, m < n → l[m]? ≠ some 125) → upB l = l.take n ∧ l.contains 125 = true
  | [], n, h, _, _ => by simp at h
  | a :: l, 0, _, h, _ => by
    simp at h
    subst h
    exact ⟨rfl, rfl⟩
  | a :: l, n + 1, h, h1, h2 => by
    have ha : a ≠ 125 := fun e => h2 0 (by omega) (by rw [e]; rfl)
    obtain ⟨e1, e2⟩ := up_len l n (by simpa using h) (by simpa using h1) (fun m hm => by have := h2 (m + 1) (by omega); simpa using this)
    refine ⟨?_, ?_⟩
    · unfold upB at e1 ⊢
      rw [List.takeWhile_cons, if_pos (by simpa using ha), e1]
      rfl
    · rw [List.contains_cons, e2, Bool.or_true]
theorem up_none (l : List UInt8) (h : ∀ m, m < l.length → l[m]? ≠ some 125) : l.contains 125 = false := by
  rw [← Bool.not_eq_true, List.contains_iff_mem]
  intro hm
  obtain ⟨n, hn, e⟩ := List.getElem_of_mem hm
  exact h n hn (by rw [List.getElem?_eq_getElem hn, e])
theorem get_B2 (j : Nat) (h : j < s.size) : s.data.toList[j]? = some (UInt8.ofNat (B s j)) := by
  unfold B
  rw [List.getD_eq_getElem?_getD, List.getElem?_eq_getElem (by rw [← Lib.size_eq]; exact h)]
  simp
theorem get_125 {j : Nat} (h : j < s.size) : s.data.toList[j]? = some 125 ↔ B s j = 125 := by
  rw [get_B2 j h]
  constructor
  · intro e
    injection e with e
    have := congrArg UInt8.toNat e
    rw [UInt8.toNat_ofNat'] at this
    have := B_lt s j
    have h5 : (125 : UInt8).toNat = 125 := rfl
    omega
  · intro e
    rw [e]
    rfl
def xchrV (s : ByteArray) (i : Nat) : Option (List UInt8 × Nat) :=
  if begL s (i + 2) [123] = false ∨ xfindI s (125 : Nat) i < 0 then none
  else if xnumI s (i + 3) (xfindI s (125 : Nat) i).toNat 1 6 < 0 ∨ charB (xnumI s (i + 3) (xfindI s (125 : Nat) i).toNat 1 6) = false then none
  else some (bytesP (xnumI s (i + 3) (xfindI s (125 : Nat) i).toNat 1 6), (xfindI s (125 : Nat) i).toNat + 1 - i)
theorem esc_u (hi : i + 1 < s.size) (h92 : B s i = 92) (hu : B s (i + 1) = 117) : unescV (s.extract i s.size) = xchrV s i := by
  obtain ⟨u1, u2, u3⟩ := unit1_in hi
  have hd : Utf8.decode s (i + 1) = (117, 1) := by rw [dec_lo s (i + 1) (by omega), hu]
  unfold unescV
  rw [if_neg u3, u2, hd, if_pos (by decide), rest_L]
  unfold chrV xchrV
  by_cases hb : B s (i + 2) = 123
  · have hbg : begL s (i + 2) [123] = true := (beg_one (by decide)).2 hb
    have ho := opn_of h92 hu hb
    have hr : rst (s.data.toList.drop i) = s.data.toList.drop (i + 3) := by unfold rst; rw [if_pos ho, List.drop_drop]
    rw [ho, hr]
    rcases xfindI_spec s 125 i (by omega) with ⟨e1, h1⟩ | ⟨j, e1, h1, h2, h3, h4⟩
    · rw [e1, if_pos (.inr (by decide))]
      have hc : (s.data.toList.drop (i + 3)).contains 125 = false := up_none _ fun m hm => by
        rw [List.length_drop, ← Lib.size_eq] at hm
        rw [List.getElem?_drop]
        exact fun h => h1 (i + 3 + m) (by omega) (by omega) ((get_125 (by omega)).1 h)
      rw [hc]
      cases puV 16777215 (upB (s.data.toList.drop (i + 3))) with
      | none => rfl
      | some n => rfl
    · rw [e1, if_neg (by rw [hbg]; simp), Int.toNat_natCast]
      have hij : i + 3 ≤ j := by
        rcases Nat.lt_or_ge j (i + 3) with h | h
        · exfalso
          rcases (by omega : j = i ∨ j = i + 1 ∨ j = i + 2) with rfl | rfl | rfl <;> omega
        · exact h
      obtain ⟨e2, e3⟩ := up_len (s.data.toList.drop (i + 3)) (j - (i + 3)) (by rw [List.length_drop, ← Lib.size_eq]; omega) (by rw [List.getElem?_drop, show i + 3 + (j - (i + 3)) = j by omega]; exact (get_125 h2).2 h3) (fun m hm => by
        rw [List.getElem?_drop]
        exact fun h => h4 (i + 3 + m) (by omega) (by omega) ((get_125 (by omega)).1 h))
      have hsg : (s.data.toList.drop (i + 3)).take (j - (i + 3)) = seg s (i + 3) j := by rw [seg_eq, List.drop_take]
      have hln : (seg s (i + 3) j).length = j - (i + 3) := seg_len s _ _ hij (by omega)
      rw [e2, e3, hsg, hln]
      unfold xnumI
      by_cases hr : j - (i + 3) < 1 ∨ 6 < j - (i + 3) ∨ s.size < j
      · rw [if_pos hr, if_pos (.inl (by decide))]
        rcases (by omega : j - (i + 3) = 0 ∨ 6 < j - (i + 3)) with h | h
        · have he : seg s (i + 3) j = [] := List.eq_nil_of_length_eq_zero (by omega)
          rw [he]
          rfl
        · cases puV 16777215 (seg s (i + 3) j) with
          | none => rfl
          | some n =>
            unfold chrO
            simp only
            rw [decide_eq_false (show ¬ j - (i + 3) ≤ 6 by omega)]
            rfl
      · rw [if_neg hr]
        have hne : seg s (i + 3) j ≠ [] := fun h => by rw [h] at hln; simp at hln; omega
        have hpow : (0 + 1) * 16 ^ (j - (i + 3)) ≤ 16777215 + 1 := by
          rw [Nat.zero_add, Nat.one_mul]
          exact Nat.le_trans (Nat.pow_le_pow_right (by decide) (show j - (i + 3) ≤ 6 by omega)) (by decide)
        have hn : xnumF s (j - (i + 3)) (i + 3) 0 = oI (puF 16777215 0 (seg s (i + 3) (i + 3 + (j - (i + 3))))) := xnum_pu s 16777215 (j - (i + 3)) (i + 3) 0 (by omega) hpow
        rw [show i + 3 + (j - (i + 3)) = j by omega] at hn
        rw [puV_oI hne, hn]
        cases hp : puF 16777215 0 (seg s (i + 3) j) with
        | none => rw [show oI none = -1 from rfl, if_pos (.inl (by decide))]; rfl
        | some n =>
          rw [show oI (some n) = ((n : Nat) : Int) from rfl]
          unfold chrO
          simp only
          rw [decide_eq_true (show j - (i + 3) ≤ 6 by omega), Bool.and_true, Bool.and_true, Bool.true_and, valid_char]
          by_cases hc : charB (n : Nat) = true
          · have e : 4 + (j - (i + 3)) = j + 1 - i := by omega
            rw [if_pos hc, if_neg (fun h => by
              rcases h with h | h
              · omega
              · rw [hc] at h; cases h), bytesP_char _ hc, e]
          · rw [if_neg hc, if_pos (.inr (by simpa using hc))]
  · have hbg : begL s (i + 2) [123] = false := by
      rw [← Bool.not_eq_true]
      exact fun h => hb ((beg_one (by decide)).1 h)
    rw [if_pos (.inl hbg)]
    have ho : opn (s.data.toList.drop i) = false := by
      rw [← Bool.not_eq_true]
      intro h
      rw [← rest_L] at h
      have := (opn_B h).2.2.1
      rw [rest_B i (by omega)] at this
      exact hb this
    rw [ho]
    cases puV 16777215 (upB (rst (s.data.toList.drop i))) with
    | none => rfl
    | some n => rfl
theorem esc_any (hi : i + 1 < s.size) (hu : B s (i + 1) ≠ 117) (hx : B s (i + 1) ≠ 120) : unescV (s.extract i s.size) = some (bytesP ((ptU s (i + 1)).1 : Nat), 1 + (ptU s (i + 1)).2) := by
  obtain ⟨u1, u2, u3⟩ := unit1_in hi
  have hr : ∀ a : Nat, a < 128 → B s (i + 1) ≠ a → (Utf8.decode s (i + 1)).1 ≠ a := fun a ha hb h => hb (by rw [(dec_r_lo (s := s) (i := i + 1) (by omega)).1, h])
  have h1 := hr 117 (by decide) hu
  have h2 := hr 120 (by decide) hx
  have hw := dec_width s (i + 1) hi
  have he : (s.extract i s.size).extract 1 (1 + (Utf8.decode s (i + 1)).2) = s.extract (i + 1) (i + 1 + (Utf8.decode s (i + 1)).2) := by
    rw [ByteArray.extract_extract]
    congr 1
    omega
  unfold unescV
  rw [if_neg u3, u2, if_neg (by omega), if_neg (by omega), u1, ptU_bytes s (i + 1) hi, ptU_wide_eq, he]
  rfl
end
end Go.Proofs.YtbnnhbmnddaafaaGreatDoor
