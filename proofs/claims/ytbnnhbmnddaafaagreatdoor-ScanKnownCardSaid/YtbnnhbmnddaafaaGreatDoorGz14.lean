/- Parts of the proof of what the last text says. -/
import Derived.Test.YtbnnhbmnddaafaaGreatDoorGz13
import Derived.Test.YtbnnhbmnddaafaaGreatDoorGz2
/- A file whose beginning is another's: the scanner's run over it. No run in this text. -/
namespace Go.Proofs.YtbnnhbmnddaafaaGreatDoor
open Go Go.RowKit Go.Kt Go.Kt.Rg Go.Shelf Go.Lib

theorem unesc_ge {Y : ByteArray} {t : List UInt8} {k : Nat} (h : unescV Y = some (t, k)) : 2 ≤ k := by
  unfold unescV at h
  split at h
  · cases h
  rename_i n0
  split at h
  · unfold chrV at h
    cases hp : puV 16777215 (upB (rst Y.data.toList)) with
    | none => rw [hp] at h; cases h
    | some n =>
      rw [hp] at h
      unfold chrO at h
      simp only at h
      split at h
      · injection h with h; injection h with h2 h3; omega
      · cases h
  split at h
  · unfold illV at h
    split at h
    · cases h
    split at h
    · split at h
      · cases h
      · injection h with h; injection h with h2 h3; omega
    · cases h
  · injection h with h; injection h with h2 h3; omega
theorem upB_long {a b : List UInt8} (h : (upB (a ++ b)).length < a.length) : a.contains 125 = true := by
  cases hc : a.contains 125 with
  | true => rfl
  | false =>
    exfalso
    have hall : ∀ x ∈ a, (x != 125) = true := fun x hx => by
      have : x ≠ 125 := fun e => by
        subst e
        rw [List.contains_iff_mem.2 hx] at hc
        cases hc
      simpa using this
    unfold upB at h
    rw [List.takeWhile_append_of_pos hall, List.length_append] at h
    omega
set_option maxRecDepth 100000 in
theorem unesc_cut {X Y : ByteArray} {Z t : List UInt8} {k : Nat} (hY : Y.data.toList = X.data.toList ++ Z) (hd : 1 < X.size → Utf8.decode Y 1 = Utf8.decode X 1) (hk : k ≤ X.size) (h : unescV Y = some (t, k)) : unescV X = some (t, k) := by
  have hk2 := unesc_ge h
  have h1 : 1 < X.size := by omega
  have hd := hd h1
  have hz : Y.size = X.size + Z.length := by rw [Lib.size_eq, hY, List.length_append, ← Lib.size_eq]
  have hw : unitW Y 1 = unitW X 1 := by unfold unitW; rw [if_pos h1, if_pos (by omega), hd]
  have hp : (decP Y 1).1 = (decP X 1).1 := by
    have e1 := decP_in Y 1 (by omega)
    have e2 := decP_in X 1 h1
    rw [show ((1 : Nat) : Int) = 1 from rfl] at e1 e2
    rw [e1, e2, hd]
  have hsg : (Y.extract 1 (1 + unitW X 1)).data.toList = (X.extract 1 (1 + unitW X 1)).data.toList := by
    have a1 : (Y.extract 1 (1 + unitW X 1)).data.toList = seg Y 1 (1 + unitW X 1) := rfl
    have a2 : (X.extract 1 (1 + unitW X 1)).data.toList = seg X 1 (1 + unitW X 1) := rfl
    have hb := (unitW_bd X 1 (by omega)).2.1
    rw [a1, a2, seg_eq, seg_eq, hY, List.take_append_of_le_length (by rw [← Lib.size_eq]; exact hb)]
  have hxl : X.data.toList.length = X.size := (Lib.size_eq X).symm
  unfold unescV at h ⊢
  rw [hw, hp, hsg] at h
  split at h
  · cases h
  rename_i n0
  rw [if_neg n0]
  split at h
  · rename_i n1
    rw [if_pos n1]
    unfold chrV at h ⊢
    cases hpu : puV 16777215 (upB (rst Y.data.toList)) with
    | none => rw [hpu] at h; cases h
    | some n =>
      rw [hpu] at h
      unfold chrO at h
      simp only at h
      split at h
      · rename_i hc
        have hc0 := hc
        have h2 := congrArg Prod.fst (Option.some.inj h)
        have h3 := congrArg Prod.snd (Option.some.inj h)
        simp only at h2 h3
        simp only [Bool.and_eq_true] at hc
        obtain ⟨⟨⟨ho, hkk⟩, h6⟩, hv⟩ := hc
        clear hc0
        have hpy : [92, 117, 123] <+: Y.data.toList := by
          unfold opn at ho
          exact List.isPrefixOf_iff_prefix.1 ho
        have hpx : [92, 117, 123] <+: X.data.toList := by
          rw [List.prefix_iff_eq_take] at hpy ⊢
          rw [hY, List.take_append_of_le_length (by simp; omega)] at hpy
          exact hpy
        have hox : opn X.data.toList = true := by
          unfold opn
          exact List.isPrefixOf_iff_prefix.2 hpx
        have hr : rst Y.data.toList = rst X.data.toList ++ Z := by
          unfold rst
          rw [if_pos ho, if_pos hox, hY, List.drop_append_of_le_length (by omega)]
        have hrl : (rst X.data.toList).length = X.size - 3 := by unfold rst; rw [if_pos hox, List.length_drop, hxl]
        have hcx : (rst X.data.toList).contains 125 = true := upB_long (b := Z) (by rw [← hr]; omega)
        have hu : upB (rst Y.data.toList) = upB (rst X.data.toList) := by rw [hr, upB_ext hcx]
        rw [hu] at hpu h6 h3
        rw [hpu]
        unfold chrO
        simp only
        have hc1 : (opn X.data.toList && (rst X.data.toList).contains 125 && decide ((upB (rst X.data.toList)).length ≤ 6) && Lib.validRune (n : Nat)) = true := by
          rw [hox, hcx, h6, hv]; rfl
        rw [if_pos hc1, ← h2, ← h3]
      · cases h
  · rename_i n1
    rw [if_neg n1]
    split at h
    · rename_i n2
      rw [if_pos n2]
      unfold illV at h ⊢
      split at h
      · cases h
      · rename_i h4
        have hk4 : 4 ≤ X.size := by
          split at h
          · split at h
            · cases h
            · injection h with h; injection h with h2 h3; omega
          · cases h
        rw [if_neg (by omega)]
        have hdt : (Y.data.toList.drop 2).take 2 = (X.data.toList.drop 2).take 2 := by
          rw [hY, List.drop_append_of_le_length (by omega), List.take_append_of_le_length (by rw [List.length_drop]; omega)]
        rw [← hdt]
        exact h
    · rename_i n2
      rw [if_neg n2]
      exact h

structure Beg (E F : ByteArray) (p : Nat) : Prop where
  eq : F.data.toList.take p = E.data.toList.take p
  pE : p ≤ E.size
  pF : p < F.size
  lo : B F p < 128
section
variable {E F : ByteArray} {p : Nat} {c c2 : Sc} {r : Int}
theorem Beg.seg (h : Beg E F p) (a : Nat) {b : Nat} (hb : b ≤ p) : seg F a b = seg E a b := by
  rw [seg_eq, seg_eq, ← Nat.min_eq_left hb, ← List.take_take, ← List.take_take, h.eq]
theorem Beg.ext (h : Beg E F p) (a : Nat) {b : Nat} (hb : b ≤ p) : F.extract a b = E.extract a b := by
  apply ByteArray.ext
  apply Array.toList_inj.1
  exact h.seg a hb
theorem Beg.at (h : Beg E F p) {j : Nat} (hj : j < p) : B E j = B F j := by
  have h1 : F.data.toList[j]? = E.data.toList[j]? := by
    have := congrArg (fun l => l[j]?) h.eq
    simp only [List.getElem?_take, if_pos hj] at this
    exact this
  unfold B
  rw [List.getD_eq_getElem?_getD, List.getD_eq_getElem?_getD, h1]
theorem Beg.dec (h : Beg E F p) {i : Nat} (hi : i < p) (hw : i + (Utf8.decode E i).2 ≤ p) : Utf8.decode F i = Utf8.decode E i :=
  dec_two (fun _ hj => h.at hj) hi h.pE h.pF h.lo hw
theorem Beg.unit (h : Beg E F p) {i : Nat} (hi : i < p) (hw : i + (Utf8.decode E i).2 ≤ p) : unitL F i = unitL E i := by
  have e1 : unitW F i = (Utf8.decode E i).2 := by unfold unitW; rw [if_pos (by have := h.pF; omega), h.dec hi hw]
  have e2 : unitW E i = (Utf8.decode E i).2 := by unfold unitW; rw [if_pos (by have := h.pE; omega)]
  show (F.extract i (i + unitW F i)).data.toList = (E.extract i (i + unitW E i)).data.toList
  rw [e1, e2]
  exact h.seg i hw
theorem Beg.since (h : Beg E F p) (hi : c.here.2.2 ≤ p) : sinceL F c = sinceL E c := h.seg _ hi
theorem Beg.unesc (h : Beg E F p) {i : Nat} (hi : i < p) (hw : i + 1 < p → i + 1 + (Utf8.decode E (i + 1)).2 ≤ p) {t : List UInt8} {k : Nat} (hk : i + k ≤ p) (hu : unescV (E.extract i E.size) = some (t, k)) : unescV (F.extract i F.size) = some (t, k) := by
  have lst : ∀ (Q : ByteArray) (j : Nat), (Q.extract i j).data.toList = (Q.data.toList.take j).drop i := fun Q j => seg_eq Q i j
  have all : ∀ Q : ByteArray, Q.data.toList.take Q.size = Q.data.toList := fun Q => by rw [Lib.size_eq, List.take_length]
  have cut : ∀ Q : ByteArray, p ≤ Q.size → (Q.extract i Q.size).data.toList = (Q.extract i p).data.toList ++ Q.data.toList.drop p := fun Q hQ => by
    rw [lst, lst, all]
    rw [← List.drop_append_of_le_length (by rw [List.length_take, ← Lib.size_eq]; omega), List.take_append_drop]
  have hxz : (E.extract i p).size = p - i := by rw [ByteArray.size_extract]; have := h.pE; omega
  have hkk := unesc_ge hu
  have hw' := hw (by omega)
  have dr : ∀ Q : ByteArray, (Q.extract i Q.size).data.toList.drop 1 = Q.data.toList.drop (i + 1) := fun Q => by rw [lst, all, List.drop_drop]
  have dX : Utf8.decode (E.extract i p) 1 = Utf8.decode E (i + 1) := by
    have e1 : Utf8.decode (E.extract i p) 1 = Utf8.decode (E.extract 0 p) (i + 1) := same_dec (by
      rw [lst]
      have : (E.extract 0 p).data.toList = E.data.toList.take p := by simp
      rw [this, List.drop_drop])
    rw [e1, dec_head E _ p h.pE (by omega) hw']
  have h1 : unescV (E.extract i p) = some (t, k) := unesc_cut (cut E h.pE) (fun _ => by
    rw [dX]
    exact same_dec (dr E)) (by omega) hu
  refine unesc_ext (X := E.extract i p) (Z := F.data.toList.drop p) ?_ ?_ h1
  · rw [cut F (by have := h.pF; omega), h.ext i (Nat.le_refl _)]
  · rw [dX, same_dec (dr F)]
    exact h.dec (by omega) hw'
theorem Beg.plain (h : Beg E F p) (hi : c.here.2.2 < p) (hw : c.here.2.2 + (Utf8.decode E c.here.2.2).2 ≤ p) (hn : r = 92 → c.here.2.2 + 1 < p → c.here.2.2 + 1 + (Utf8.decode E (c.here.2.2 + 1)).2 ≤ p) :
    (∀ c2, plainS E c r = .took c2 → plainS F c r = .took c2 ∨ c2.st = 7 ∧ p < c2.behind) ∧ (∀ c2, plainS E c r = .left c2 → plainS F c r = .left c2) := by
  unfold plainS
  by_cases h39 : r = 39
  · rw [if_pos h39, if_pos h39]
    exact ⟨fun c2 h => .inl h, fun c2 h => h⟩
  rw [if_neg h39, if_neg h39]
  by_cases h92 : r = 92
  · rw [if_pos h92, if_pos h92]
    cases hu : unescV (E.extract c.here.2.2 E.size) with
    | none => exact ⟨fun c2 h => (by cases h), fun c2 h => (by cases h)⟩
    | some z =>
      obtain ⟨t, k⟩ := z
      refine ⟨fun c2 h2 => ?_, fun c2 h => by cases h⟩
      by_cases hk : c.here.2.2 + k ≤ p
      · left
        rw [h.unesc hi (hn h92) hk hu]
        exact h2
      · right
        cases h2
        exact ⟨rfl, by simp only; omega⟩
  rw [if_neg h92, if_neg h92, h.unit hi hw]
  exact ⟨fun c2 h => .inl h, fun c2 h => h⟩
theorem Beg.piece (h : Beg E F p) (hi : c.here.2.2 < p) (hw : c.here.2.2 + (Utf8.decode E c.here.2.2).2 ≤ p) (hn : r = 92 → c.here.2.2 + 1 < p → c.here.2.2 + 1 + (Utf8.decode E (c.here.2.2 + 1)).2 ≤ p) :
    (∀ c2, pieceS E c r = .took c2 → pieceS F c r = .took c2 ∨ c2.st = 7 ∧ p < c2.behind) ∧ (∀ c2, pieceS E c r = .left c2 → pieceS F c r = .left c2) := by
  have hp := h.plain hi hw hn
  unfold pieceS
  by_cases h5 : c.st = 5
  · rw [if_pos h5, if_pos h5]
    unfold quotedS
    rw [h.unit hi hw]
    exact ⟨fun c2 h => .inl h, fun c2 h => h⟩
  rw [if_neg h5, if_neg h5]
  by_cases h6 : c.st = 6
  · rw [if_pos h6, if_pos h6]
    unfold closingS
    by_cases h39 : r = 39
    · rw [if_pos h39, if_pos h39]
      exact ⟨fun c2 h => .inl h, fun c2 h => h⟩
    · rw [if_neg h39, if_neg h39]
      exact hp
  rw [if_neg h6, if_neg h6]
  by_cases h7 : c.st = 7
  · rw [if_pos h7, if_pos h7]
    unfold escapeS
    by_cases hb : c.behind ≤ c.here.2.2
    · rw [if_pos hb, if_pos hb]
      exact hp
    · rw [if_neg hb, if_neg hb]
      exact ⟨fun c2 h => .inl h, fun c2 h => h⟩
  rw [if_neg h7, if_neg h7]
  exact hp
theorem Beg.between (h : Beg E F p) (hi : c.here.2.2 < p) (hw : c.here.2.2 + (Utf8.decode E c.here.2.2).2 ≤ p) (hn : r = 92 → c.here.2.2 + 1 < p → c.here.2.2 + 1 + (Utf8.decode E (c.here.2.2 + 1)).2 ≤ p) (hb : betweenS E c r = .ok c2) :
    betweenS F c r = .ok c2 ∨ c2.st = 7 ∧ p < c2.behind := by
  obtain ⟨p1, p2⟩ := h.plain (c := { c with st := 4, «from» := c.here, text := [] }) hi hw hn
  unfold betweenS at hb ⊢
  by_cases g1 : isBlk r = true
  · rw [if_pos g1] at hb ⊢; exact .inl hb
  rw [if_neg g1] at hb ⊢
  by_cases g2 : r = 35
  · rw [if_pos g2] at hb ⊢; exact .inl hb
  rw [if_neg g2] at hb ⊢
  by_cases g3 : isSgn (encL r) = true
  · rw [if_pos g3] at hb ⊢; exact .inl hb
  rw [if_neg g3] at hb ⊢
  by_cases g4 : r = 91
  · rw [if_pos g4] at hb ⊢; exact .inl hb
  rw [if_neg g4] at hb ⊢
  by_cases g5 : r = 93
  · rw [if_pos g5] at hb; cases hb
  rw [if_neg g5] at hb ⊢
  by_cases g6 : r = 42
  · rw [if_pos g6] at hb; cases hb
  rw [if_neg g6] at hb ⊢
  cases hpl : plainS E { c with st := 4, «from» := c.here, text := [] } r with
  | took d =>
    rw [hpl] at hb
    cases hb
    rcases p1 _ hpl with e | e
    · left; rw [e]; rfl
    · exact .inr e
  | left d =>
    rw [hpl] at hb
    cases hb
    left; rw [p2 _ hpl]; rfl
  | bad no z => rw [hpl] at hb; cases hb
theorem Beg.token (h : Beg E F p) (hi : c.here.2.2 < p) (hw : c.here.2.2 + (Utf8.decode E c.here.2.2).2 ≤ p) (hn : r = 92 → c.here.2.2 + 1 < p → c.here.2.2 + 1 + (Utf8.decode E (c.here.2.2 + 1)).2 ≤ p) (ht : tokenS E c r = .ok c2) :
    tokenS F c r = .ok c2 ∨ c2.st = 7 ∧ p < c2.behind := by
  have hs : sinceL F c = sinceL E c := h.since (Nat.le_of_lt hi)
  unfold tokenS at ht ⊢
  by_cases h0 : c.st = 0
  · rw [if_pos h0] at ht ⊢
    exact h.between hi hw hn ht
  rw [if_neg h0] at ht ⊢
  by_cases h1 : c.st = 1
  · rw [if_pos h1] at ht ⊢
    unfold remarkS at ht ⊢
    by_cases h10 : r = 10
    · rw [if_pos h10] at ht ⊢
      exact h.between (c := { c with st := 1 }) hi hw hn ht
    · rw [if_neg h10] at ht ⊢
      exact .inl ht
  rw [if_neg h1] at ht ⊢
  by_cases h2 : c.st = 2
  · rw [if_pos h2] at ht ⊢
    unfold signS at ht ⊢
    rw [hs]
    by_cases hg : isSgn (sinceL E c ++ encL r) = true
    · rw [if_pos hg] at ht ⊢
      exact .inl ht
    · rw [if_neg hg] at ht ⊢
      exact h.between (c := addT { c with st := 2 } 2 (sinceL E c)) hi hw hn ht
  rw [if_neg h2] at ht ⊢
  by_cases h3 : c.st = 3
  · rw [if_pos h3] at ht ⊢
    unfold optionS at ht ⊢
    rw [h.ext _ (Nat.le_of_lt hi)]
    exact .inl ht
  rw [if_neg h3] at ht ⊢
  obtain ⟨p1, p2⟩ := h.piece hi hw hn
  unfold textS at ht ⊢
  cases hp : pieceS E c r with
  | took d =>
    rw [hp] at ht
    cases ht
    rcases p1 _ hp with e | e
    · left; rw [e]
    · exact .inr e
  | bad no z => rw [hp] at ht; cases ht
  | left d =>
    rw [hp] at ht
    have hd := pieceS_left hp
    subst hd
    rw [p2 _ hp]
    exact h.between (c := addT { c with st := 4 } 1 c.text) hi hw hn ht
end

def Ahead (s : ByteArray) (i : Nat) (c : Sc) : Prop := i = 0 ∧ c = c0S ∨ KS s c.here c ∧ (∃ n, plN s n = c.here) ∧ c.here.2.2 < s.size ∧ i = c.here.2.2 + (Utf8.decode s c.here.2.2).2
section
variable {s : ByteArray} {i : Nat} {c c2 cF : Sc}
theorem Ahead.le (h : Ahead s i c) : i ≤ s.size := by
  rcases h with ⟨rfl, _⟩ | ⟨_, _, h3, h4⟩
  · exact Nat.zero_le _
  · have := (dec_width s _ h3).2.2; omega
theorem Ahead.js (h : Ahead s i c) : JS s { c with here := plNext s c.here i } := by
  have hx := (plNext_ix s c.here i).1
  rcases h with ⟨rfl, rfl⟩ | ⟨hk, ⟨n, hn⟩, h3, h4⟩
  · exact ⟨⟨0, rfl⟩, fun h => absurd rfl h, fun h => absurd rfl h, fun h => absurd rfl h, fun t ht => by simp [c0S] at ht, Nat.zero_le _, ⟨List.Pairwise.nil, fun t ht => by simp [c0S] at ht, fun t ht => by simp [c0S] at ht⟩⟩
  · have hw := (dec_width s _ h3).1
    have hpl : plNext s c.here i = plN s (n + 1) := by
      rw [← hn] at h3 h4 ⊢
      rw [h4]
      exact plNext_plN s n h3
    exact ⟨⟨n + 1, hpl.symm⟩, hk.fr, fun h0 => by have := hk.le h0; simp only [hx]; omega, hk.tl, fun t ht => by have := hk.t0 t ht; simp only [hx]; omega, hk.bh, hk.ok⟩
theorem Ahead.ks (h : Ahead s i c) {r : Int} (h92 : r = 92 → i < s.size) (ht : tokenS s { c with here := plNext s c.here i } r = .ok c2) : KS s (plNext s c.here i) c2 := by
  have hx := (plNext_ix s c.here i).1
  have hl := h.le
  exact tokenS_K h.js (fun e => by simp only [hx]; exact h92 e) (by simp only [hx]; exact hl) ht
theorem Ahead.step (h : Ahead s i c) (hlt : i < s.size) {r : Int} (ht : tokenS s { c with here := plNext s c.here i } r = .ok c2) : Ahead s (i + (Utf8.decode s i).2) c2 ∧ c2.here = plNext s c.here i := by
  have hx := (plNext_ix s c.here i).1
  have hj := h.js
  have hk := h.ks (fun _ => hlt) ht
  have hh := hk.here
  exact ⟨.inr ⟨by rw [hh]; exact hk, by rw [hh]; exact hj.here, by rw [hh, hx]; exact hlt, by rw [hh, hx]⟩, hh⟩
theorem Ahead.fits (h : Ahead s i c) {p : Nat} (hm : ∃ m, (plN s m).2.2 = p) (hi : i < p) : i + (Utf8.decode s i).2 ≤ p := by
  obtain ⟨m, rfl⟩ := hm
  obtain ⟨n, hn⟩ := h.js.here
  have hx := (plNext_ix s c.here i).1
  have e : (plN s n).2.2 = i := by rw [hn]; exact hx
  have := plN_next s (n := n) (m := m) (by rw [e]; exact hi)
  rw [e] at this
  exact this
theorem run_on {f : Nat} (hr : runS s (f + 1) i c = .ok cF) (hi : i < s.size) : ∃ c2, tokenS s { c with here := plNext s c.here i } ((Utf8.decode s i).1 : Nat) = .ok c2 ∧ runS s f (i + (Utf8.decode s i).2) c2 = .ok cF := by
  rw [runS, if_pos (by omega), decode_nl s i hi] at hr
  cases ht : tokenS s { c with here := plNext s c.here i } ((Utf8.decode s i).1 : Nat) with
  | bad no p => rw [ht] at hr; cases hr
  | ok c2 => rw [ht] at hr; exact ⟨c2, rfl, hr⟩
theorem run_to {f : Nat} (hi : i < s.size) (ht : tokenS s { c with here := plNext s c.here i } ((Utf8.decode s i).1 : Nat) = .ok c2) : runS s (f + 1) i c = runS s f (i + (Utf8.decode s i).2) c2 := by
  rw [runS, if_pos (by omega), decode_nl s i hi, ht]
end
section
variable {E F : ByteArray} {p : Nat} {cF : Sc}
theorem run_lost (hm : ∃ m, (plN E m).2.2 = p) (hp : p ≤ E.size) : ∀ (f i : Nat) (c : Sc), Ahead E i c → i ≤ p → E.size + 1 ≤ i + f → c.st = 7 → p < c.behind → runS E f i c = .ok cF →
    ∃ cp f1, Ahead E p cp ∧ E.size + 1 ≤ p + f1 ∧ runS E f1 p cp = .ok cF ∧ cp.st = 7 ∧ p < cp.behind := by
  intro f
  induction f with
  | zero => intro i c _ hi hf; omega
  | succ f ih =>
    intro i c hA hi hf h7 hb hr
    by_cases hip : i = p
    · subst hip
      exact ⟨c, f + 1, hA, hf, hr, h7, hb⟩
    obtain ⟨c2, ht, hr2⟩ := run_on hr (by omega)
    have hx := (plNext_ix E c.here i).1
    have hfit := hA.fits hm (by omega)
    have hA2 := (hA.step (by omega) ht).1
    have hw := (dec_width E i (by omega)).1
    have hc2 : c2.st = 7 ∧ c2.behind = c.behind := by
      unfold tokenS at ht
      simp only at ht
      rw [if_neg (by omega), if_neg (by omega), if_neg (by omega), if_neg (by omega)] at ht
      unfold textS pieceS at ht
      simp only at ht
      rw [if_neg (by omega), if_neg (by omega), if_pos h7] at ht
      unfold escapeS at ht
      simp only [hx] at ht
      rw [if_neg (by omega)] at ht
      cases ht
      exact ⟨h7, rfl⟩
    exact ih _ c2 hA2 hfit (by omega) hc2.1 (by omega) hr2
theorem run_beg (hB : Beg E F p) (hm : ∃ m, (plN E m).2.2 = p) : ∀ (f i : Nat) (c : Sc) (f' : Nat), Ahead E i c → i ≤ p → E.size + 1 ≤ i + f → F.size + 1 ≤ i + f' → runS E f i c = .ok cF →
    ∃ cp f1, Ahead E p cp ∧ E.size + 1 ≤ p + f1 ∧ runS E f1 p cp = .ok cF ∧ ((∃ f2, F.size + 1 ≤ p + f2 ∧ runS F f' i c = runS F f2 p cp) ∨ cp.st = 7 ∧ p < cp.behind) := by
  intro f
  induction f with
  | zero => intro i c f' _ hi hf; have := hB.pE; omega
  | succ f ih =>
    intro i c f' hA hi hf hf' hr
    by_cases hip : i = p
    · subst hip
      exact ⟨c, f + 1, hA, hf, hr, .inl ⟨f', hf', rfl⟩⟩
    have hpE := hB.pE
    have hpF := hB.pF
    have hip' : i < p := by omega
    obtain ⟨c2, ht, hr2⟩ := run_on hr (by omega)
    have hx := (plNext_ix E c.here i).1
    have hfit := hA.fits hm hip'
    have hA2 := (hA.step (by omega) ht).1
    have hw := (dec_width E i (by omega)).1
    have hn : (((Utf8.decode E i).1 : Nat) : Int) = 92 → i + 1 < p → i + 1 + (Utf8.decode E (i + 1)).2 ≤ p := fun h92 h1 => by
      have hd := (dec_r_lo (s := E) (i := i) (by omega)).2
      rw [hd] at hA2
      exact hA2.fits hm h1
    have htok := hB.token (c := { c with here := plNext E c.here i }) (r := ((Utf8.decode E i).1 : Nat)) (by simp only [hx]; exact hip') (by simp only [hx]; exact hfit) (by simp only [hx]; exact hn) ht
    rcases htok with hF | ⟨h7, hbh⟩
    · obtain ⟨f', rfl⟩ : ∃ g, f' = g + 1 := ⟨f' - 1, by omega⟩
      have hpl : plNext F c.here i = plNext E c.here i := by
        unfold plNext
        by_cases h0 : 0 < i
        · rw [hB.at (show i - 1 < p by omega)]
        · rw [if_neg (by omega), if_neg (by omega)]
      have hd := hB.dec hip' hfit
      have hgo : runS F (f' + 1) i c = runS F f' (i + (Utf8.decode E i).2) c2 := by
        rw [run_to (s := F) (c2 := c2) (by omega) (by rw [hpl, hd]; exact hF), hd]
      obtain ⟨cp, f1, a1, a2, a3, a4⟩ := ih _ c2 f' hA2 hfit (by omega) (by omega) hr2
      refine ⟨cp, f1, a1, a2, a3, ?_⟩
      rw [hgo]
      exact a4
    · obtain ⟨cp, f1, a1, a2, a3, a4⟩ := run_lost hm hpE f _ c2 hA2 hfit (by omega) h7 hbh hr2
      exact ⟨cp, f1, a1, a2, a3, .inr a4⟩
end
end Go.Proofs.YtbnnhbmnddaafaaGreatDoor
/- Two files, one behind the other: what Scan answers. No run in this text. -/
namespace Go.Proofs.YtbnnhbmnddaafaaGreatDoor
open Go Go.RowKit Go.Kt Go.Kt.Rg Go.Shelf Go.Lib

theorem nlN_le (s : ByteArray) : nlN s ≤ nlc s s.size := by
  have h1 : nlc s s.size = s.data.toList.count 10 := by unfold nlc; rw [Lib.size_eq, List.take_length]
  rw [h1]
  unfold nlN Lib.countByte Lib.trimSuffix
  split
  · exact (List.take_sublist _ _).count_le _
  · exact Nat.le_refl _
theorem endS_ok {c : Sc} {l : List Tk} (h : endS c = .ok l) : c.st ≠ 3 ∧ c.st ≠ 5 ∧ l = c.toks ++ [⟨0, [], c.from⟩] := by
  unfold endS at h
  split at h
  · cases h
  split at h
  · cases h
  · cases h
    exact ⟨by assumption, by assumption, rfl⟩
theorem endS_of {c : Sc} (h3 : c.st ≠ 3) (h5 : c.st ≠ 5) : endS c = .ok (c.toks ++ [⟨0, [], c.from⟩]) := by
  unfold endS
  rw [if_neg h3, if_neg h5]
theorem scan_run {s : ByteArray} {l : List Tk} (h : scanS s = .ok l) : ∃ cF, runS s (s.size + 1) 0 c0S = .ok cF ∧ cF.st = 0 ∧ (∃ n, plN s n = cF.from) ∧ cF.from.2.2 = s.size ∧ (∀ t ∈ cF.toks, t.pl.2.2 < s.size) ∧ l = cF.toks ++ [⟨0, [], cF.from⟩] := by
  unfold scanS at h
  split at h
  · cases h
  split at h
  · cases h
  cases hr : runS s (s.size + 1) 0 c0S with
  | bad no p => rw [hr] at h; cases h
  | ok c =>
    rw [hr] at h
    obtain ⟨h3, h5, hl⟩ := endS_ok (c := c) h
    rcases runS_K s c (s.size + 1) 0 c0S (.inl ⟨rfl, rfl⟩) (by omega) hr with e | e | ⟨h0, hok, hpl, hz, hlt⟩
    · exact absurd e h3
    · exact absurd e h5
    · exact ⟨c, rfl, h0, hpl, hz, hlt, hl⟩
theorem run_scan {s : ByteArray} {c : Sc} (hz : s.size ≤ 1048576) (hn : nlc s s.size < 65536) (hr : runS s (s.size + 1) 0 c0S = .ok c) (h3 : c.st ≠ 3) (h5 : c.st ≠ 5) : scanS s = .ok (c.toks ++ [⟨0, [], c.from⟩]) := by
  unfold scanS
  rw [if_neg (by omega), if_neg (by have := nlN_le s; omega), hr]
  exact endS_of h3 h5
theorem between10 (s : ByteArray) (c : Sc) : betweenS s c 10 = .ok { c with st := 0, «from» := c.here } := by
  unfold betweenS
  rw [if_pos (by decide)]
theorem token0 {s : ByteArray} {c : Sc} {r : Int} (h : c.st = 0) : tokenS s c r = betweenS s c r := by unfold tokenS; rw [if_pos h]
def Moved (K p : Nat) (u v : Pl) : Prop := v = (u.1 + (K + 1), u.2.1, u.2.2 + (p + 1))
end Go.Proofs.YtbnnhbmnddaafaaGreatDoor
/- A remark and blanks put in ahead of a token: what Scan answers. No run in this text. -/
namespace Go.Proofs.YtbnnhbmnddaafaaGreatDoor
open Go Go.RowKit Go.Kt Go.Kt.Rg Go.Shelf Go.Lib

def insL : List UInt8 := [32, 9, 35, 60, 39, 92, 91, 195, 169, 255, 13, 10, 32]
section
variable {s : ByteArray} {c c2 : Sc} {r : Int}
theorem piece_from (h : pieceS s c r = .took c2) : c2.from = c.from ∧ c2.toks = c.toks ∧ (4 ≤ c.st → c2.st ≠ 0) := by
  have hp : ∀ {c2}, plainS s c r = .took c2 → c2.from = c.from ∧ c2.toks = c.toks ∧ c2.st ≠ 0 := by
    intro c2 h
    unfold plainS at h
    repeat' split at h
    all_goals first | (cases h; done) | (cases h; exact ⟨rfl, rfl, by simp⟩)
  unfold pieceS at h
  split at h
  · rename_i h5
    unfold quotedS at h
    split at h <;> (cases h; exact ⟨rfl, rfl, fun _ => by simp [h5]⟩)
  split at h
  · unfold closingS at h
    split at h
    · cases h; exact ⟨rfl, rfl, fun _ => by simp⟩
    · exact ⟨(hp h).1, (hp h).2.1, fun _ => (hp h).2.2⟩
  split at h
  · rename_i h7
    unfold escapeS at h
    split at h
    · exact ⟨(hp h).1, (hp h).2.1, fun _ => (hp h).2.2⟩
    · cases h; exact ⟨rfl, rfl, fun _ => by simp [h7]⟩
  · exact ⟨(hp h).1, (hp h).2.1, fun _ => (hp h).2.2⟩
theorem between_from (h : betweenS s c r = .ok c2) : c2.from = c.here ∧ c2.toks = c.toks := by
  unfold betweenS at h
  repeat' split at h
  all_goals first | (cases h; done) | (cases h; exact ⟨rfl, rfl⟩) | skip
  cases hpl : plainS s { c with st := 4, «from» := c.here, text := [] } r with
  | took d =>
    have hpp : pieceS s { c with st := 4, «from» := c.here, text := [] } r = .took d := by
      unfold pieceS
      rw [if_neg (by simp), if_neg (by simp), if_neg (by simp)]
      exact hpl
    rw [hpl] at h
    cases h
    obtain ⟨a1, a2, _⟩ := piece_from hpp
    exact ⟨a1, a2⟩
  | left d =>
    have hpp : pieceS s { c with st := 4, «from» := c.here, text := [] } r = .left d := by
      unfold pieceS
      rw [if_neg (by simp), if_neg (by simp), if_neg (by simp)]
      exact hpl
    have := pieceS_left hpp
    rw [hpl] at h
    cases h
    subst this
    exact ⟨rfl, rfl⟩
  | bad no z => rw [hpl] at h; cases h
theorem token_from (h : tokenS s c r = .ok c2) : (c2.toks = c.toks ∨ c.st ≠ 0 ∧ ∃ k x, c2.toks = c.toks ++ [⟨k, x, c.from⟩]) ∧ (c2.from = c.here ∨ c2.from = c.from ∧ c.st ≠ 0) := by
  unfold tokenS at h
  split at h
  · obtain ⟨a, b⟩ := between_from h
    exact ⟨.inl b, .inl a⟩
  rename_i n0
  split at h
  · unfold remarkS at h
    split at h
    · obtain ⟨a, b⟩ := between_from h
      exact ⟨.inl b, .inl a⟩
    · cases h; exact ⟨.inl rfl, .inr ⟨rfl, n0⟩⟩
  split at h
  · unfold signS at h
    split at h
    · cases h; exact ⟨.inl rfl, .inr ⟨rfl, n0⟩⟩
    · obtain ⟨a, b⟩ := between_from h
      exact ⟨.inr ⟨n0, 2, _, b⟩, .inl a⟩
  split at h
  · unfold optionS at h
    split at h
    · cases h; exact ⟨.inr ⟨n0, 3, _, rfl⟩, .inr ⟨rfl, n0⟩⟩
    · cases h; exact ⟨.inl rfl, .inr ⟨rfl, n0⟩⟩
  unfold textS at h
  cases hp : pieceS s c r with
  | took d =>
    rw [hp] at h
    cases h
    obtain ⟨a1, a2, _⟩ := piece_from hp
    exact ⟨.inl a2, .inr ⟨a1, n0⟩⟩
  | bad no z => rw [hp] at h; cases h
  | left d =>
    rw [hp] at h
    have hd := pieceS_left hp
    subst hd
    obtain ⟨a, b⟩ := between_from h
    exact ⟨.inr ⟨n0, 1, _, b⟩, .inl a⟩
def NoTk (p : Nat) (c : Sc) : Prop := (∀ t ∈ c.toks, t.pl.2.2 ≠ p) ∧ (c.st ≠ 0 → c.from.2.2 ≠ p)
theorem token_no {p : Nat} (hn : NoTk p c) (hp : p < c.here.2.2) (h : tokenS s c r = .ok c2) : NoTk p c2 := by
  obtain ⟨h1, h2⟩ := token_from h
  constructor
  · intro t ht
    rcases h1 with e | ⟨n0, k, x, e⟩
    · rw [e] at ht; exact hn.1 t ht
    · rw [e] at ht
      rcases List.mem_append.1 ht with ht | ht
      · exact hn.1 t ht
      · rw [List.mem_singleton] at ht; subst ht; exact hn.2 n0
  · intro _
    rcases h2 with e | ⟨e, n0⟩
    · rw [e]; omega
    · rw [e]; exact hn.2 n0
theorem run_no {p : Nat} {cF : Sc} : ∀ (f i : Nat) (c : Sc), p < i → NoTk p c → runS s f i c = .ok cF → NoTk p cF := by
  intro f
  induction f with
  | zero => intro i c _ hn hr; cases hr; exact hn
  | succ f ih =>
    intro i c hi hn hr
    rw [runS] at hr
    split at hr
    · cases ht : tokenS s { c with here := plNext s c.here i } ((Utf8.decode (s ++ nlB) i).1 : Nat) with
      | bad no z => rw [ht] at hr; cases hr
      | ok d =>
        rw [ht] at hr
        exact ih _ d (by omega) (token_no (c := { c with here := plNext s c.here i }) hn (by simp only [(plNext_ix s c.here i).1]; exact hi) ht) hr
    · cases hr; exact hn
theorem between32 (s : ByteArray) (c : Sc) : betweenS s c 32 = .ok { c with st := 0, «from» := c.here } := by
  unfold betweenS
  rw [if_pos (by decide)]
theorem between9 (s : ByteArray) (c : Sc) : betweenS s c 9 = .ok { c with st := 0, «from» := c.here } := by
  unfold betweenS
  rw [if_pos (by decide)]
theorem between35 (s : ByteArray) (c : Sc) : betweenS s c 35 = .ok { c with st := 1, «from» := c.here } := by
  unfold betweenS
  rw [if_neg (by decide), if_pos rfl]
theorem blank_step (h : c.st = 0 ∨ c.st = 1) (hr : r = 32 ∨ r = 9) : ∃ c2, tokenS s c r = .ok c2 ∧ (c2.st = 0 ∨ c2.st = 1) ∧ c2.toks = c.toks := by
  unfold tokenS
  rcases h with h | h
  · rw [if_pos h]
    rcases hr with rfl | rfl
    · exact ⟨_, between32 _ _, .inl rfl, rfl⟩
    · exact ⟨_, between9 _ _, .inl rfl, rfl⟩
  · rw [if_neg (by omega), if_pos h]
    unfold remarkS
    rw [if_neg (by omega)]
    exact ⟨_, rfl, .inr rfl, rfl⟩
theorem hash_step (h : c.st = 0 ∨ c.st = 1) : ∃ c2, tokenS s c 35 = .ok c2 ∧ c2.st = 1 ∧ c2.toks = c.toks := by
  unfold tokenS
  rcases h with h | h
  · rw [if_pos h]
    exact ⟨_, between35 _ _, rfl, rfl⟩
  · rw [if_neg (by omega), if_pos h]
    unfold remarkS
    rw [if_neg (by omega)]
    exact ⟨_, rfl, rfl, rfl⟩
theorem rem_step (h : c.st = 1) (hr : r ≠ 10) : ∃ c2, tokenS s c r = .ok c2 ∧ c2.st = 1 ∧ c2.toks = c.toks := by
  unfold tokenS
  rw [if_neg (by omega), if_pos h]
  unfold remarkS
  rw [if_neg hr]
  exact ⟨_, rfl, rfl, rfl⟩
theorem nl_step (h : c.st = 1) : ∃ c2, tokenS s c 10 = .ok c2 ∧ c2.st = 0 ∧ c2.toks = c.toks := by
  unfold tokenS
  rw [if_neg (by omega), if_pos h]
  unfold remarkS
  rw [if_pos rfl]
  exact ⟨_, between10 _ _, rfl, rfl⟩
theorem sp_step (h : c.st = 0) : ∃ c2, tokenS s c 32 = .ok c2 ∧ c2.st = 0 ∧ c2.toks = c.toks := by
  unfold tokenS
  rw [if_pos h]
  exact ⟨_, between32 _ _, rfl, rfl⟩
theorem split_step {E F : ByteArray} {p : Nat} (hB : Beg E F p) (hp : c.here.2.2 = p) (hlt : c.st ≠ 0 → c.from.2.2 < p) (ht : tokenS E c r = .ok c2) (hc : c2.st ≠ 0 ∧ c2.from.2.2 = p ∨ r = 10 ∧ c2.st = 0) :
    ∃ c1 c3, betweenS E c1 r = .ok c2 ∧ c1.here = c.here ∧ tokenS F c 32 = .ok c3 ∧ (c3.st = 0 ∨ c3.st = 1) ∧ c3.toks = c1.toks := by
  have hs : sinceL F c = sinceL E c := hB.since (by omega)
  unfold tokenS at ht ⊢
  by_cases h0 : c.st = 0
  · rw [if_pos h0] at ht ⊢
    exact ⟨c, _, ht, rfl, between32 _ _, .inl rfl, rfl⟩
  have hfl := hlt h0
  rw [if_neg h0] at ht ⊢
  by_cases h1 : c.st = 1
  · rw [if_pos h1] at ht ⊢
    unfold remarkS at ht ⊢
    by_cases h10 : r = 10
    · rw [if_pos h10] at ht
      rw [if_neg (by decide)]
      exact ⟨{ c with st := 1 }, _, ht, rfl, rfl, .inr rfl, rfl⟩
    · rw [if_neg h10] at ht
      cases ht
      rcases hc with ⟨_, e⟩ | ⟨e, _⟩
      · simp only at e; omega
      · exact absurd e h10
  rw [if_neg h1] at ht ⊢
  by_cases h2 : c.st = 2
  · rw [if_pos h2] at ht ⊢
    unfold signS at ht ⊢
    have hn : isSgn (sinceL F c ++ encL 32) = false := by
      have he : encL 32 = [32] := by decide
      rw [he]
      have hall : ∀ l ∈ sgnL, l.getLast? ≠ some 32 := by decide
      unfold isSgn
      have hne : sinceL F c ++ [32] ∉ sgnL := fun hm => hall _ hm (by simp)
      simpa using hne
    rw [hn, if_neg (by decide)]
    by_cases hg : isSgn (sinceL E c ++ encL r) = true
    · rw [if_pos hg] at ht
      cases ht
      rcases hc with ⟨_, e⟩ | ⟨_, e⟩
      · simp only at e; omega
      · cases e
    · rw [if_neg hg] at ht
      exact ⟨_, _, ht, rfl, between32 _ _, .inl rfl, by rw [hs]⟩
  rw [if_neg h2] at ht ⊢
  by_cases h3 : c.st = 3
  · exfalso
    rw [if_pos h3] at ht
    unfold optionS at ht
    split at ht
    · rename_i h93
      cases ht
      rcases hc with ⟨e, _⟩ | ⟨e, _⟩
      · exact e rfl
      · omega
    · cases ht
      rcases hc with ⟨_, e⟩ | ⟨_, e⟩
      · simp only at e; omega
      · cases e
  rw [if_neg h3] at ht ⊢
  unfold textS at ht ⊢
  cases hpc : pieceS E c r with
  | took d =>
    rw [hpc] at ht
    cases ht
    obtain ⟨a1, a2, a3⟩ := piece_from hpc
    rcases hc with ⟨_, e⟩ | ⟨_, e⟩
    · rw [a1] at e; omega
    · exact absurd e (a3 (by omega))
  | bad no z => rw [hpc] at ht; cases ht
  | left d =>
    rw [hpc] at ht
    have hd := pieceS_left hpc
    subst hd
    have hpl : plainS F c 32 = .left { c with st := 4 } := by
      unfold plainS
      rw [if_neg (by decide), if_neg (by decide), if_pos (by decide)]
    have hF : pieceS F c 32 = .left { c with st := 4 } := by
      unfold pieceS at hpc ⊢
      by_cases h5 : c.st = 5
      · rw [if_pos h5] at hpc
        unfold quotedS at hpc
        split at hpc <;> cases hpc
      rw [if_neg h5] at hpc ⊢
      by_cases h6 : c.st = 6
      · rw [if_pos h6] at hpc ⊢
        unfold closingS
        rw [if_neg (by decide)]
        exact hpl
      rw [if_neg h6] at hpc ⊢
      by_cases h7 : c.st = 7
      · rw [if_pos h7] at hpc ⊢
        unfold escapeS at hpc ⊢
        by_cases hb : c.behind ≤ c.here.2.2
        · rw [if_pos hb]; exact hpl
        · rw [if_neg hb] at hpc; cases hpc
      rw [if_neg h7]
      exact hpl
    rw [hF]
    exact ⟨_, _, ht, rfl, between32 _ _, .inl rfl, rfl⟩
end
section
variable {F : ByteArray} {i : Nat} {c : Sc} {f : Nat}
theorem run_next {r w : Nat} {c2 : Sc} (hd : Utf8.decode F i = (r, w)) (hi : i < F.size) (hf : F.size + 1 ≤ i + f) (ht : tokenS F { c with here := plNext F c.here i } (r : Nat) = .ok c2) : ∃ g, F.size + 1 ≤ i + w + g ∧ runS F f i c = runS F g (i + w) c2 := by
  obtain ⟨g, rfl⟩ : ∃ g, f = g + 1 := ⟨f - 1, by omega⟩
  have hw := (dec_width F i hi).1
  rw [hd] at hw
  simp only at hw
  refine ⟨g, by omega, ?_⟩
  rw [run_to (c2 := c2) hi (by rw [hd]; exact ht), hd]
end
theorem run_ins {F : ByteArray} {p : Nat} {rest : List UInt8} (hF : F.data.toList.drop p = insL ++ rest) (hp : p < F.size) {c : Sc} {f : Nat} (hc : c.st = 0 ∨ c.st = 1) (hf : F.size + 1 ≤ p + 1 + f) :
    ∃ g c', F.size + 1 ≤ p + 13 + g ∧ runS F f (p + 1) c = runS F g (p + 13) c' ∧ c'.st = 0 ∧ c'.toks = c.toks := by
  have hz := drop_len hF (Nat.le_of_lt hp)
  have hl : insL.length = 13 := rfl
  rw [hl] at hz
  have hB : ∀ j, j < 13 → B F (p + j) = (insL.getD j 0).toNat := fun j hj => B_drop hF (by rw [hl]; exact hj)
  have lo : ∀ j v, j < 13 → (insL.getD j 0).toNat = v → v < 128 → Utf8.decode F (p + j) = (v, 1) := fun j v hj hv hlt => by
    have := hB j hj
    rw [hv] at this
    rw [dec_lo F _ (by omega), this]
  obtain ⟨c1, t1, s1, k1⟩ := blank_step (s := F) (c := { c with here := plNext F c.here (p + 1) }) (r := 9) hc (.inr rfl)
  obtain ⟨g1, f1, e1⟩ := run_next (r := 9) (w := 1) (lo 1 9 (by omega) rfl (by omega)) (by omega) hf t1
  obtain ⟨c2, t2, s2, k2⟩ := hash_step (s := F) (c := { c1 with here := plNext F c1.here (p + 2) }) s1
  obtain ⟨g2, f2, e2⟩ := run_next (r := 35) (w := 1) (lo 2 35 (by omega) rfl (by omega)) (by omega) f1 t2
  obtain ⟨c3, t3, s3, k3⟩ := rem_step (s := F) (c := { c2 with here := plNext F c2.here (p + 3) }) (r := (60 : Nat)) s2 (by decide)
  obtain ⟨g3, f3, e3⟩ := run_next (r := 60) (w := 1) (lo 3 60 (by omega) rfl (by omega)) (by omega) f2 t3
  obtain ⟨c4, t4, s4, k4⟩ := rem_step (s := F) (c := { c3 with here := plNext F c3.here (p + 4) }) (r := (39 : Nat)) s3 (by decide)
  obtain ⟨g4, f4, e4⟩ := run_next (r := 39) (w := 1) (lo 4 39 (by omega) rfl (by omega)) (by omega) f3 t4
  obtain ⟨c5, t5, s5, k5⟩ := rem_step (s := F) (c := { c4 with here := plNext F c4.here (p + 5) }) (r := (92 : Nat)) s4 (by decide)
  obtain ⟨g5, f5, e5⟩ := run_next (r := 92) (w := 1) (lo 5 92 (by omega) rfl (by omega)) (by omega) f4 t5
  obtain ⟨c6, t6, s6, k6⟩ := rem_step (s := F) (c := { c5 with here := plNext F c5.here (p + 6) }) (r := (91 : Nat)) s5 (by decide)
  obtain ⟨g6, f6, e6⟩ := run_next (r := 91) (w := 1) (lo 6 91 (by omega) rfl (by omega)) (by omega) f5 t6
  have d7 : Utf8.decode F (p + 7) = (233, 2) := by
    have b0 := hB 7 (by omega)
    have b1 := hB 8 (by omega)
    rw [decode_B, show p + 7 + 1 = p + 8 by omega, b0, b1]
    unfold decodeN
    rw [if_neg (by decide), if_pos ⟨by decide, by omega, by decide⟩, if_pos (by decide)]
    rfl
  obtain ⟨c7, t7, s7, k7⟩ := rem_step (s := F) (c := { c6 with here := plNext F c6.here (p + 7) }) (r := (233 : Nat)) s6 (by decide)
  obtain ⟨g7, f7, e7⟩ := run_next (r := 233) (w := 2) d7 (by omega) f6 t7
  have d9 : Utf8.decode F (p + 9) = (65533, 1) := by
    have b0 := hB 9 (by omega)
    rw [decode_B, b0]
    unfold decodeN
    rw [if_neg (by decide), if_neg (fun h => absurd h.1 (by decide)), if_neg (fun h => absurd h.1 (by decide)), if_neg (fun h => absurd h.1 (by decide))]
  obtain ⟨c8, t8, s8, k8⟩ := rem_step (s := F) (c := { c7 with here := plNext F c7.here (p + 9) }) (r := (65533 : Nat)) s7 (by decide)
  obtain ⟨g8, f8, e8⟩ := run_next (r := 65533) (w := 1) d9 (by omega) f7 t8
  obtain ⟨c9, t9, s9, k9⟩ := rem_step (s := F) (c := { c8 with here := plNext F c8.here (p + 10) }) (r := (13 : Nat)) s8 (by decide)
  obtain ⟨g9, f9, e9⟩ := run_next (r := 13) (w := 1) (lo 10 13 (by omega) rfl (by omega)) (by omega) f8 t9
  obtain ⟨c10, t10, s10, k10⟩ := nl_step (s := F) (c := { c9 with here := plNext F c9.here (p + 11) }) s9
  obtain ⟨g10, f10, e10⟩ := run_next (r := 10) (w := 1) (lo 11 10 (by omega) rfl (by omega)) (by omega) f9 t10
  obtain ⟨c11, t11, s11, k11⟩ := sp_step (s := F) (c := { c10 with here := plNext F c10.here (p + 12) }) s10
  obtain ⟨g11, f11, e11⟩ := run_next (r := 32) (w := 1) (lo 12 32 (by omega) rfl (by omega)) (by omega) f10 t11
  exact ⟨g11, c11, f11, e1.trans (e2.trans (e3.trans (e4.trans (e5.trans (e6.trans (e7.trans (e8.trans (e9.trans (e10.trans e11))))))))), s11, by rw [k11, k10, k9, k8, k7, k6, k5, k4, k3, k2, k1]⟩
def AnyPl (_ _ : Pl) : Prop := True
theorem TkRel.self (l : List Tk) : TkRel AnyPl l l := ⟨rfl, fun i a b ha hb => by rw [ha] at hb; cases hb; exact ⟨rfl, rfl, trivial⟩⟩
theorem TkRel.add {X X' Y Y' : List Tk} {PR : Pl → Pl → Prop} (h : TkRel PR X X') (g : TkRel PR Y Y') : TkRel PR (X ++ Y) (X' ++ Y') := by
  refine ⟨by rw [List.length_append, List.length_append, h.1, g.1], fun i a b ha hb => ?_⟩
  by_cases hi : i < X.length
  · rw [List.getElem?_append_left hi] at ha
    rw [List.getElem?_append_left (by rw [← h.1]; exact hi)] at hb
    exact h.2 i a b ha hb
  · rw [List.getElem?_append_right (by omega)] at ha
    rw [List.getElem?_append_right (by rw [← h.1]; omega), ← h.1] at hb
    exact g.2 _ a b ha hb
theorem scan_noted (s : ByteArray) {a : List Tk} (ha : scanS s = .ok a) {t : Tk} (ht : t ∈ a) (hz : s.size ≤ 500000) (hn : nlc s s.size ≤ 60000) :
    t.pl.2.2 ≤ s.size ∧ ∃ b, scanS (s.extract 0 t.pl.2.2 ++ ⟨insL.toArray⟩ ++ s.extract t.pl.2.2 s.size) = .ok b ∧ TkRel AnyPl a b := by
  obtain ⟨hok, L0, pE, hLe, hpE⟩ := scan_places s ha
  obtain ⟨cS, hrS, hS0, hplS, hzS, hltS, hlS⟩ := scan_run ha
  obtain ⟨m, hm⟩ := hok.pl t ht
  obtain ⟨p, hp⟩ : ∃ p, t.pl.2.2 = p := ⟨_, rfl⟩
  rw [hp]
  have hm' : (plN s m).2.2 = p := by rw [hm, hp]
  have hps : p ≤ s.size := by rw [← hm']; exact plN_le s m
  refine ⟨hps, ?_⟩
  obtain ⟨F, hF⟩ : ∃ F : ByteArray, F = s.extract 0 p ++ ⟨insL.toArray⟩ ++ s.extract p s.size := ⟨_, rfl⟩
  rw [← hF]
  have hsl := Lib.size_eq s
  have e1 : (s.extract 0 p).data.toList = s.data.toList.take p := by simp
  have e2 : (s.extract p s.size).data.toList = s.data.toList.drop p := by
    have : (s.extract p s.size).data.toList = seg s p s.size := rfl
    rw [this, seg_eq, hsl, List.take_length]
  have hFl : F.data.toList = s.data.toList.take p ++ (insL ++ s.data.toList.drop p) := by
    rw [hF, ByteArray.data_append, ByteArray.data_append, Array.toList_append, Array.toList_append, e1, e2, List.append_assoc]
  have htl : (s.data.toList.take p).length = p := by rw [List.length_take, ← hsl]; omega
  have hFz : F.size = s.size + 13 := by
    rw [Lib.size_eq, hFl, List.length_append, htl, List.length_append, List.length_drop, ← hsl]
    show p + (13 + _) = _
    omega
  have hFd : F.data.toList.drop p = insL ++ s.data.toList.drop p := by
    rw [hFl, List.drop_append, htl, Nat.sub_self, List.drop_of_length_le (by omega)]
    rfl
  have hFp : B F p = 32 := by
    have := B_drop (Q := F) (p := p) (E := insL) hFd (j := 0) (by decide)
    exact this
  have hB : Beg s F p := ⟨by rw [hFl, List.take_append_of_le_length (by omega), List.take_take, Nat.min_self], hps, by omega, by rw [hFp]; omega⟩
  obtain ⟨cp, f1, hA, hf1, hr1, hsp⟩ := run_beg hB ⟨m, hm'⟩ (s.size + 1) 0 c0S (F.size + 1) (.inl ⟨rfl, rfl⟩) (Nat.zero_le _) (by omega) (by omega) hrS
  have hjs := hA.js
  obtain ⟨g1, rfl⟩ : ∃ g, f1 = g + 1 := ⟨f1 - 1, by omega⟩
  have hx := (plNext_ix s cp.here p).1
  have hnl0 : (s ++ nlB).size = s.size + 1 := nl_size s
  obtain ⟨r, hr⟩ : ∃ r, (Utf8.decode (s ++ nlB) p).1 = r := ⟨_, rfl⟩
  obtain ⟨v, hv⟩ : ∃ v, (Utf8.decode (s ++ nlB) p).2 = v := ⟨_, rfl⟩
  have hwd := (dec_width (s ++ nlB) p (by omega)).1
  rw [hv] at hwd
  rw [runS, if_pos (by omega), hr, hv] at hr1
  cases ht1 : tokenS s { cp with here := plNext s cp.here p } ((r : Nat) : Int) with
  | bad no z => rw [ht1] at hr1; cases hr1
  | ok c2 =>
    rw [ht1] at hr1
    have hr1' : runS s g1 (p + v) c2 = .ok cS := hr1
    obtain ⟨q1, q2⟩ := token_from ht1
    -- all tokens so far begin ahead of p
    have hall : ∀ t ∈ c2.toks, t.pl.2.2 < p := by
      intro u hu
      have h0 : ∀ u ∈ cp.toks, u.pl.2.2 < p := fun u hu => by have := hjs.t0 u hu; simp only [hx] at this; exact this
      rcases q1 with e | ⟨n0, k, x, e⟩
      · rw [e] at hu; exact h0 u hu
      · rw [e] at hu
        rcases List.mem_append.1 hu with hu | hu
        · exact h0 u hu
        · rw [List.mem_singleton] at hu; subst hu
          have := hjs.lt n0
          simp only [hx] at this
          exact this
    have hcase : c2.st ≠ 0 ∧ c2.from.2.2 = p ∨ (r : Int) = 10 ∧ c2.st = 0 := by
      by_cases h1 : c2.st ≠ 0 ∧ c2.from.2.2 = p
      · exact .inl h1
      · right
        have hno : NoTk p c2 := ⟨fun u hu => by have := hall u hu; omega, fun h e => h1 ⟨h, e⟩⟩
        have hnoF := run_no g1 (p + v) c2 (by omega) hno hr1'
        by_cases hpz : p = s.size
        · subst hpz
          rw [decode_end] at hr hv
          have he : runS s g1 (s.size + v) c2 = .ok c2 := by
            cases g1 with
            | zero => rfl
            | succ g => rw [runS, if_neg (by omega)]
          rw [he] at hr1'
          cases hr1'
          exact ⟨by rw [← hr]; rfl, hS0⟩
        · exfalso
          rw [hlS] at ht
          rcases List.mem_append.1 ht with ht | ht
          · exact hnoF.1 t ht hp
          · rw [List.mem_singleton] at ht
            subst ht
            simp only at hp
            omega
    have hltp : cp.st ≠ 0 → cp.from.2.2 < p := fun h => by have := hjs.lt h; simp only [hx] at this; exact this
    rcases hsp with ⟨f2, hf2, hgo⟩ | ⟨h7, hbh⟩
    case inr =>
      exfalso
      have hc2 : c2.st = 7 ∧ c2.from = cp.from := by
        unfold tokenS at ht1
        simp only at ht1
        rw [if_neg (by omega), if_neg (by omega), if_neg (by omega), if_neg (by omega)] at ht1
        unfold textS pieceS at ht1
        simp only at ht1
        rw [if_neg (by omega), if_neg (by omega), if_pos h7] at ht1
        unfold escapeS at ht1
        simp only [hx] at ht1
        rw [if_neg (by omega)] at ht1
        cases ht1
        exact ⟨h7, rfl⟩
      have h1 := hltp (by omega)
      rcases hcase with ⟨_, e⟩ | ⟨_, e⟩
      · rw [hc2.2] at e; omega
      · omega
    have hpl : plNext F cp.here p = plNext s cp.here p := by
      unfold plNext
      by_cases h0 : 0 < p
      · rw [hB.at (show p - 1 < p by omega)]
      · rw [if_neg (by omega), if_neg (by omega)]
    obtain ⟨c1, c3, hb1, hh1, ht3, hs3, hk3⟩ := split_step hB (c := { cp with here := plNext s cp.here p }) (by simp only [hx]) hltp ht1 hcase
    obtain ⟨g2, hg2, hgo2⟩ := run_next (F := F) (i := p) (c := cp) (f := f2) (r := 32) (w := 1) (by rw [dec_lo F p (by omega), hFp]) (by omega) hf2 (by rw [hpl]; exact ht3)
    obtain ⟨g3, c4, hg3, hgo3, hs4, hk4⟩ := run_ins hFd (by omega) hs3 hg2
    rw [hgo2, hgo3] at hgo
    have hsame : s.data.toList.drop p = F.data.toList.drop (p + 13) := by
      rw [← List.drop_drop, hFd, List.drop_append]
      have : insL.length = 13 := rfl
      rw [List.drop_of_length_le (Nat.le_of_eq this), this]
      rfl
    obtain ⟨g3, rfl⟩ : ∃ g, g3 = g + 1 := ⟨g3 - 1, by omega⟩
    have hnl := same_nl hsame hps (by omega)
    have hdec := same_dec hnl
    have hx4 := (plNext_ix F c4.here (p + 13)).1
    obtain ⟨c2', hb2, hsim⟩ := sim_between (F := s) (G := F) (p := p) (q := p + 13) (PR := AnyPl) (T := c1.toks) (T' := c1.toks) (c := c1) (c' := { c4 with here := plNext F c4.here (p + 13) }) hsame trivial ⟨0, by rw [hh1, hx]; rfl, by simp only [hx4]⟩ ⟨[], [], by simp, by simp [hk4, hk3], rfl, fun i a b h _ => by simp at h⟩ (by rw [hh1]; simp only [hx]; exact hps) (by simp only [hx4]; omega) c2 hb1
    have ht2 : tokenS F { c4 with here := plNext F c4.here (p + 13) } ((r : Nat) : Int) = .ok c2' := by
      unfold tokenS
      rw [if_pos hs4]
      exact hb2
    have hgo4 : runS F (g3 + 1) (p + 13) c4 = runS F g3 (p + 13 + v) c2' := by
      rw [runS, if_pos (by omega), ← hdec, hr, hv, ht2]
    rw [hgo4] at hgo
    obtain ⟨cG, hG, hsG⟩ := sim_run hsame hps (by omega) (PR := AnyPl) (fun _ _ _ _ _ _ => trivial) g1 v c2 c2' cS g3 (by omega) hsim hr1' (by omega) (by omega)
    rw [hG] at hgo
    obtain ⟨X, X', x1, x2, x3⟩ := hsG.toks
    have hG0 : cG.st = 0 := hsG.st.trans hS0
    refine ⟨cG.toks ++ [⟨0, [], cG.from⟩], run_scan (s := F) (c := cG) (by omega) ?_ hgo (by omega) (by omega), ?_⟩
    · have e1 : nlc F F.size = F.data.toList.count 10 := by unfold nlc; rw [Lib.size_eq, List.take_length]
      have e2 : nlc s s.size = (s.data.toList.take p).count 10 + (s.data.toList.drop p).count 10 := by
        unfold nlc
        rw [hsl, List.take_length, ← List.count_append, List.take_append_drop]
      rw [e1, hFl, List.count_append, List.count_append]
      have : insL.count 10 = 1 := by decide
      omega
    · rw [hlS, x1, x2]
      exact TkRel.add (TkRel.add (TkRel.self _) x3) ⟨rfl, fun i a b ha hb => by
        cases i with
        | zero => simp at ha hb; subst ha; subst hb; exact ⟨rfl, rfl, trivial⟩
        | succ i => simp at ha⟩
end Go.Proofs.YtbnnhbmnddaafaaGreatDoor
/- The document's answer for scan: Blank, Signs, digit, find, begins. -/
namespace Go.Proofs.YtbnnhbmnddaafaaGreatDoor
open Go Go.RowKit Go.Kt Go.Shelf
attribute [local go_sem] Oper.semAt_some

set_option maxRecDepth 100000 in
theorem xBlank_any (c : Int) (w : World) :
    Calls Tryz.prog 82 #[.int .u8 c] w fun e w' => e = .returned (.bool (isBlk c)) ∧ w = w' := by
  go_enter Tryz.func82, Tryz.ntmps82
  go_wp2
  all_goals go_ret
  all_goals (unfold isBlk; simp [*])

def xdigI (c : Int) : Int := if 48 ≤ c ∧ c ≤ 57 then c - 48 else if 97 ≤ c ∧ c ≤ 102 then c - 87 else if 65 ≤ c ∧ c ≤ 70 then c - 55 else -1
set_option maxRecDepth 100000 in
theorem xdigit_any (c : Int) (w : World) (h0 : 0 ≤ c) (h1 : c < 256) :
    Calls Tryz.prog 127 #[.int .u8 c] w fun e w' => e = .returned (.int .i64 (xdigI c)) ∧ w = w' := by
  go_enter Tryz.func127, Tryz.ntmps127
  go_wp2
  all_goals go_ret
  all_goals (refine ⟨?_, rfl⟩; unfold xdigI)
  all_goals first
    | (exfalso; omega)
    | (rw [if_pos (by omega)]; rfl)
    | (rw [if_neg (by omega), if_pos (by omega)]; simp; omega)
    | (rw [if_neg (by omega), if_neg (by omega), if_pos (by omega)]; simp; omega)
    | (rw [if_neg (by omega), if_neg (by omega), if_neg (by omega)]; rfl)

theorem sgs_bAt : ∀ k, k < 11 → bAt sgsB k = sgsI.getD k 0 := by decide
theorem sgs_take (c : Int) : ∀ k, k < 11 → (sgsI.take (k + 1)).contains c = ((sgsI.take k).contains c || (sgsI.getD k 0 == c)) := by
  intro k hk
  have : sgsI.take (k + 1) = sgsI.take k ++ [sgsI.getD k 0] := by
    have : ∀ k, k < 11 → sgsI.take (k + 1) = sgsI.take k ++ [sgsI.getD k 0] := by decide
    exact this k hk
  rw [this]
  rw [Bool.eq_iff_iff, Bool.or_eq_true, List.contains_iff_mem, List.contains_iff_mem, List.mem_append, List.mem_singleton, beq_iff_eq]
  constructor
  · rintro (h | h)
    · exact .inl h
    · exact .inr h.symm
  · rintro (h | h)
    · exact .inl h
    · exact .inr h.symm
set_option maxRecDepth 100000 in
theorem xSigns_any (c : Int) (w : World) :
    Calls Tryz.prog 57 #[.int .u8 c] w fun e w' => e = .returned (.bool (isSgs c)) ∧ w = w' := by
  obtain ⟨S, hS⟩ : ∃ S : ByteArray, sgsB = S := ⟨_, rfl⟩
  have hz : Hid (S.size = 11) := Lib.hid (by rw [← hS]; rfl)
  have HSS := Lib.hid hS
  clear hS
  go_enter Tryz.func57, Tryz.ntmps57
  go_wp2
  rw [show (⟨#[38, 60, 61, 47, 45, 91, 93, 35, 42, 39, 92]⟩ : ByteArray) = S from HSS.out]
  have hS := HSS.out
  have hz := hz.out
  go_loop [4] (fun v => ∃ k : Nat, k ≤ 11 ∧ v = .int .i64 k ∧ (sgsI.take k).contains c = false) (fun v => 11 - (RowKit.intOf v).toNat)
  case atStart => exact ⟨0, by omega, rfl, rfl⟩
  case round =>
    obtain ⟨k, hk, rfl, hc⟩ := hrel
    by_cases hlt : k < 11
    · have HI : ∀ w, (Instr.index 9 (.string S) (.int .i64 (k : Nat))).run Tryz.prog w = .ok (.int .u8 (bAt S k)) w := fun w => run_bAt S k (by omega) w
      have hb : bAt S k = sgsI.getD k 0 := by rw [← hS]; exact sgs_bAt k hlt
      have ht := sgs_take c k hlt
      rw [hc, Bool.false_or] at ht
      generalize bAt S k = b at *
      rw [← hb] at ht
      have h11 : (k : Int) < 11 := by omega
      by_cases he : b = c
      · have hbe : (b == c) = true := by simpa using he
        have hT : isSgs c = true := by
          rw [hbe] at ht
          unfold isSgs
          rw [List.contains_iff_mem] at ht ⊢
          exact List.mem_of_mem_take ht
        have HT := Lib.hid hT
        subst he
        clear hT ht hb hc hS
        go_wp2
        go_ret
        exact ⟨by rw [HT.out]; rfl, rfl⟩
      · have hbe : (b == c) = false := by simpa using he
        rw [hbe] at ht
        have HT := Lib.hid ht
        clear ht hb hc hS he
        go_wp2
        go_round
        case rel => exact ⟨k + 1, by omega, by go_num, HT.out⟩
        case measure => simp [RowKit.intOf]; omega
    · obtain rfl : k = 11 := by omega
      have hT : isSgs c = false := hc
      have HT := Lib.hid hT
      clear hT hc hS
      go_wp2
      go_ret
      exact ⟨by rw [HT.out]; rfl, rfl⟩

def xfindF (s : ByteArray) (c : Int) : Nat → Nat → Int
  | 0, _ => -1
  | f + 1, i => if i < s.size then (if bAt s i = c then (i : Int) else xfindF s c f (i + 1)) else -1
def xfindI (s : ByteArray) (c : Int) (i : Nat) : Int := xfindF s c s.size i
set_option maxRecDepth 100000 in
theorem xfind_any (s : ByteArray) (i : Nat) (c : Int) (w : World) (hs : s.size ≤ 140737488351232) (hi : i ≤ s.size) :
    Calls Tryz.prog 78 #[.string s, .int .i64 (i : Nat), .int .u8 c] w fun e w' => e = .returned (.int .i64 (xfindI s c i)) ∧ w = w' := by
  obtain ⟨R, hR⟩ : ∃ R, xfindI s c i = R := ⟨_, rfl⟩
  rw [hR]
  have HR := Lib.hid hR
  clear hR
  go_enter Tryz.func78, Tryz.ntmps78
  go_wp2
  go_loop [1] (fun v => ∃ k f : Nat, k ≤ s.size ∧ s.size ≤ k + f ∧ v = .int .i64 k ∧ xfindF s c f k = R) (fun v => s.size - (RowKit.intOf v).toNat)
  case atStart => exact ⟨i, s.size, hi, by omega, rfl, HR.out⟩
  case round =>
    obtain ⟨k, f, hk, hf, rfl, hc⟩ := hrel
    by_cases hlt : k < s.size
    · have HI : ∀ w, (Instr.index 9 (.string s) (.int .i64 (k : Nat))).run Tryz.prog w = .ok (.int .u8 (bAt s k)) w := fun w => run_bAt s k hlt w
      obtain ⟨f', rfl⟩ : ∃ f', f = f' + 1 := ⟨f - 1, by omega⟩
      rw [xfindF, if_pos hlt] at hc
      generalize bAt s k = b at *
      have hlt' : (k : Int) < s.size := by omega
      by_cases he : b = c
      · have hbe : (b == c) = true := by simpa using he
        rw [if_pos he] at hc
        have HT := Lib.hid hc
        subst he
        clear hc
        go_wp2
        go_ret
        exact ⟨by rw [← HT.out]; rfl, rfl⟩
      · have hbe : (b == c) = false := by simpa using he
        rw [if_neg he] at hc
        have HT := Lib.hid hc
        clear hc he
        go_wp2
        go_round
        case rel => exact ⟨k + 1, f', by omega, by omega, by go_num, HT.out⟩
        case measure => simp [RowKit.intOf]; omega
    · have hR1 : R = -1 := by
        rw [← hc]
        cases f with
        | zero => rfl
        | succ f => rw [xfindF, if_neg hlt]
      have HT := Lib.hid hR1
      have hge : ¬ (k : Int) < s.size := by omega
      clear hR1 hc
      go_wp2
      go_ret
      exact ⟨by rw [HT.out]; rfl, rfl⟩
end Go.Proofs.YtbnnhbmnddaafaaGreatDoor
