/- What Scan answers of the files at the bounds: lines ends alone, one letter again and again. No run in this text. -/
import Derived.Test.YtbnnhbmnddaafaaGreatDoorTq
namespace Go.Proofs.YtbnnhbmnddaafaaGreatDoor
open Go Go.RowKit Go.Kt Go.Kt.Rg Go.Shelf Go.Lib

def repB (b : UInt8) (n : Nat) : ByteArray := ⟨(List.replicate n b).toArray⟩
theorem rep_size (b : UInt8) (n : Nat) : (repB b n).size = n := by rw [Lib.size_eq]; simp [repB]
theorem rep_list (b : UInt8) (n : Nat) : (repB b n).data.toList = List.replicate n b := by simp [repB]
theorem rep_B {X : ByteArray} {b : UInt8} {n : Nat} {rest : List UInt8} (h : X.data.toList = List.replicate n b ++ rest) {i : Nat} (hi : i < n) : B X i = b.toNat := by
  unfold B
  rw [h, List.getD_eq_getElem?_getD, List.getElem?_append_left (by simpa using hi), List.getElem?_replicate, if_pos hi]
  rfl
theorem run_nls {X : ByteArray} {rest : List UInt8} {n : Nat} (h : X.data.toList = List.replicate n 10 ++ rest) : ∀ (m i : Nat) (c : Sc) (f : Nat), i + m = n → Ahead X i c → c.st = 0 → c.toks = [] → Fu X i f →
    ∃ c' f', Ahead X n c' ∧ c'.st = 0 ∧ c'.toks = [] ∧ Fu X n f' ∧ runS X f i c = runS X f' n c'
  | 0, i, c, f, hm, ha, h0, ht, hf => by
    obtain rfl : i = n := by omega
    exact ⟨c, f, ha, h0, ht, hf, rfl⟩
  | m + 1, i, c, f, hm, ha, h0, ht, hf => by
    have hz : X.size = n + rest.length := by rw [Lib.size_eq, h]; simp
    have hi : i < X.size := by omega
    have hB := rep_B h (i := i) (by omega)
    have h10 : B X i = 10 := hB
    have hr : rU X i = 10 := (rU_is hi (by decide)).2 h10
    have hts : tokenS X { c with here := plNext X c.here i } (rU X i : Nat) = .ok { c with here := plNext X c.here i, st := 0, «from» := plNext X c.here i } := by
      rw [hr, token0 (by exact h0)]
      exact between10 X { c with here := plNext X c.here i }
    obtain ⟨f', e, ha2, hf2, _⟩ := run_step ha hi hf hts
    have hw : (Utf8.decode X i).2 = 1 := by rw [dec_lo X i (by omega)]
    rw [hw] at e ha2 hf2
    obtain ⟨c', f'', q1, q2, q3, q4, q5⟩ := run_nls h m (i + 1) _ f' (by omega) ha2 rfl ht hf2
    exact ⟨c', f'', q1, q2, q3, q4, e.trans q5⟩
theorem plN_nls {X : ByteArray} {rest : List UInt8} {n : Nat} (h : X.data.toList = List.replicate n 10 ++ rest) : ∀ k, k ≤ n → plN X k = (k + 1, 1, k)
  | 0, _ => rfl
  | k + 1, hk => by
    have hz : X.size = n + rest.length := by rw [Lib.size_eq, h]; simp
    have h10 : B X k = 10 := rep_B h (i := k) (by omega)
    have hd : Utf8.decode X k = (10, 1) := by rw [dec_lo X k (by omega), h10]
    rw [plN_step X (plN_nls h k (by omega)) (by omega), hd, if_pos rfl]
theorem plN_as {X : ByteArray} {n : Nat} (h : X.data.toList = List.replicate n 97) : ∀ k, k ≤ n → plN X k = (1, k + 1, k)
  | 0, _ => rfl
  | k + 1, hk => by
    have hz : X.size = n := by rw [Lib.size_eq, h]; simp
    have h97 : B X k = 97 := rep_B (rest := []) (by rw [h, List.append_nil]) (i := k) (by omega)
    have hd : Utf8.decode X k = (97, 1) := by rw [dec_lo X k (by omega), h97]
    rw [plN_step X (plN_as h k (by omega)) (by omega), hd, if_neg (by decide)]
theorem nlN_rep (n : Nat) : nlN (repB 10 n) = n - 1 := by
  unfold nlN
  rw [rep_list]
  cases n with
  | zero => rfl
  | succ n =>
    unfold Lib.countByte Lib.trimSuffix
    have hs : Lib.hasSuffix (List.replicate (n + 1) (10 : UInt8)) [10] = true := by
      unfold Lib.hasSuffix
      rw [List.replicate_succ']
      simp
    rw [if_pos hs]
    simp
theorem nlN_more (n : Nat) (rest : List UInt8) (x : UInt8) (hx : x ≠ 10) : n ≤ nlN ⟨(List.replicate n 10 ++ rest ++ [x]).toArray⟩ := by
  unfold nlN Lib.countByte Lib.trimSuffix
  have hs : ¬ Lib.hasSuffix (List.replicate n (10 : UInt8) ++ rest ++ [x]) [10] = true := by
    unfold Lib.hasSuffix
    simp only [List.isSuffixOf_iff_suffix]
    intro h
    obtain ⟨t, ht⟩ := h
    have := congrArg List.getLast? ht
    simp at this
    exact hx this.symm
  split
  · rename_i h
    exact absurd h hs
  · simp [List.count_append]
theorem scan_nls (n : Nat) (h1 : n ≤ 65536) : scanS (repB 10 n) = .ok [⟨0, [], (n + 1, 1, n)⟩] := by
  have hl : (repB 10 n).data.toList = List.replicate n 10 ++ [] := by rw [rep_list, List.append_nil]
  have hz := rep_size 10 n
  unfold scanS
  rw [if_neg (by omega), if_neg (by rw [nlN_rep]; omega)]
  obtain ⟨c', f', q1, q2, q3, q4, q5⟩ := run_nls hl n 0 c0S ((repB 10 n).size + 1) (by omega) (.inl ⟨rfl, rfl⟩) rfl rfl (by unfold Fu; omega)
  have hb := BT.of0 (s := repB 10 n) (i := n) (c := c') q2
  rw [q3] at hb
  have := one_run (T := []) q1 hb q4 (fun h => by omega)
  have hx : xoneV (repB 10 n) n = .fin := by unfold xoneV; rw [if_neg (by omega)]
  rw [hx] at this
  have hfin := this.2
  rw [← q5] at hfin
  obtain ⟨⟨k, hk⟩, hk2⟩ := q1.pl
  have hpl : plNext (repB 10 n) c'.here n = (n + 1, 1, n) := by
    rw [← hk]
    rw [← hk] at hk2
    have h3 := plN_one (repB 10 n) (n := k) (m := n) (by rw [hk2, plN_nls hl n (Nat.le_refl _)])
    rw [h3, plN_nls hl n (Nat.le_refl _)]
  rw [hpl] at hfin
  exact hfin
theorem xtext_as {X : ByteArray} {p n : Nat} (h : ∀ i, p ≤ i → i < n → B X i = 97) (hz : X.size = n) : ∀ (m i f : Nat) (out : List UInt8), i + m = n → p ≤ i → m ≤ f → xtextF X f i out = .ok (out ++ List.replicate m 97) n
  | 0, i, f, out, hm, hp, hf => by
    obtain rfl : i = n := by omega
    cases f with
    | zero => rw [xtextF]; simp
    | succ f => rw [xtextF, if_neg (by omega)]; simp
  | m + 1, i, f, out, hm, hp, hf => by
    obtain ⟨f, rfl⟩ : ∃ g, f = g + 1 := ⟨f - 1, by omega⟩
    have hB := h i hp (by omega)
    have hw : unitW X i = 1 := by rw [unitW_dec (by omega), dec_lo X i (by omega)]
    rw [xtextF, if_pos (by omega), if_neg (by omega), if_neg (by omega), if_neg (by rw [hB]; decide), hw, one_byte (by omega), hB, xtext_as h hz m (i + 1) f _ (by omega) (by omega) (by omega), List.append_assoc, List.replicate_succ]
    rfl
theorem past_stay {X : ByteArray} {p f : Nat} (h : p < X.size → isBlk (B X p : Nat) = false ∧ B X p ≠ 35) : xpastF X (f + 1) p = p := by
  rw [xpastF]
  by_cases hp : p < X.size
  · obtain ⟨h1, h2⟩ := h hp
    rw [if_pos hp, if_neg (by rw [h1]; decide), if_neg h2]
  · rw [if_neg hp]
theorem scan_last {X : ByteArray} {p n : Nat} {R : SR} {x : List UInt8} {pl1 pl2 : Pl} (hX : XS X p [] R) (hz : X.size = n) (hp : p < n) (hB : ∀ i, p ≤ i → i < n → B X i = 97) (h1 : plN X pl1.2.2 = pl1 ∧ pl1.2.2 = p) (h2 : plN X n = pl2 ∧ pl2.2.2 = n) (hx : x = List.replicate (n - p) 97) : R = .ok [⟨1, x, pl1⟩, ⟨0, [], pl2⟩] := by
  have hBp := hB p (Nat.le_refl _) hp
  obtain ⟨_, _, pl, ⟨k, hk⟩, hpl, hc⟩ := XS.step hX
  rw [past_stay (fun _ => by rw [hBp]; decide)] at hpl hc
  have hpe : pl = pl1 := by
    rw [← hk] at hpl ⊢
    exact (plN_one X (n := k) (m := pl1.2.2) (by rw [hpl, h1.1, h1.2])).trans h1.1
  subst hpe
  have hone : xoneV X p = .tok 1 x n := by
    have ht := xtext_as hB hz (n - p) p X.size [] (by omega) (Nat.le_refl _) (by omega)
    have hs : sgnN X p = 0 := by unfold sgnN; rw [if_neg (by omega), if_neg (by omega), if_neg (by omega)]
    unfold xoneV xtextV
    rw [if_pos (by omega), if_neg (by omega), if_neg (by omega), if_neg (by omega), if_neg (by omega), ht, List.nil_append, ← hx]
  rw [hone] at hc
  obtain ⟨_, _, _, hX2⟩ := hc
  obtain ⟨_, _, pl3, ⟨k3, hk3⟩, hpl3, hc3⟩ := XS.step hX2
  rw [past_stay (fun h => by omega)] at hpl3 hc3
  have hpe3 : pl3 = pl2 := by
    rw [← hk3] at hpl3 ⊢
    exact (plN_one X (n := k3) (m := n) (by rw [hpl3, h2.1, h2.2])).trans h2.1
  subst hpe3
  have hfin : xoneV X n = .fin := by unfold xoneV; rw [if_neg (by omega)]
  rw [hfin] at hc3
  rw [hc3.2]
  rfl
theorem XS_of {s : ByteArray} (h1 : s.size ≤ 1048576) (h2 : nlN s < 65536) : XS s 0 [] (scanS s) := by
  have h := XS.first s
  have e : scanS s = finS (runS s (s.size + 1) 0 c0S) := by
    unfold scanS
    rw [if_neg (by omega), if_neg (by omega)]
    cases runS s (s.size + 1) 0 c0S <;> rfl
  rw [e]
  exact h
theorem scan_as (n : Nat) (h1 : n ≤ 1048576) (h0 : 0 < n) : scanS (repB 97 n) = .ok [⟨1, List.replicate n 97, (1, 1, 0)⟩, ⟨0, [], (1, n + 1, n)⟩] := by
  have hz := rep_size 97 n
  have hl := rep_list 97 n
  have hn : nlN (repB 97 n) = 0 := nlN_none (fun b hb => by rw [hl] at hb; rw [List.eq_of_mem_replicate hb]; decide)
  exact scan_last (XS_of (by omega) (by omega)) hz h0 (fun i _ hi => rep_B (rest := []) (by rw [hl, List.append_nil]) hi) ⟨rfl, rfl⟩ ⟨plN_as hl n (Nat.le_refl _), rfl⟩ (by rw [Nat.sub_zero])
theorem scan_nla (n : Nat) (h1 : n < 65536) : scanS ⟨(List.replicate n (10 : UInt8) ++ [97]).toArray⟩ = .ok [⟨1, [97], (n + 1, 1, n)⟩, ⟨0, [], (n + 1, 2, n + 1)⟩] := by
  obtain ⟨X, hX⟩ : ∃ X : ByteArray, (⟨(List.replicate n (10 : UInt8) ++ [97]).toArray⟩ : ByteArray) = X := ⟨_, rfl⟩
  have hl : X.data.toList = List.replicate n 10 ++ [97] := by rw [← hX]
  rw [hX]
  have hz : X.size = n + 1 := by rw [Lib.size_eq, hl]; simp
  have hBn : B X n = 97 := by
    unfold B
    rw [hl, List.getD_eq_getElem?_getD, List.getElem?_append_right (by simp)]
    simp
  have hnl : nlN X ≤ n := by
    have h := nlN_le X
    have hc : nlc X X.size = n := by
      unfold nlc
      rw [List.take_of_length_le (by rw [← Lib.size_eq]; omega), hl, List.count_append]
      simp
    omega
  have hx0 := XS_of (s := X) (by omega) (by omega)
  obtain ⟨c, f, ha, hb, hf, hR⟩ := hx0
  obtain ⟨c', f', q1, q2, q3, q4, q5⟩ := run_nls hl n 0 c0S (X.size + 1) (by omega) (.inl ⟨rfl, rfl⟩) rfl rfl (by unfold Fu; omega)
  have hXn : XS X n [] (scanS X) := by
    have hbt := BT.of0 (s := X) (i := n) (c := c') q2
    rw [q3] at hbt
    refine ⟨c', f', q1, hbt, q4, ?_⟩
    rw [← q5]
    unfold scanS
    rw [if_neg (by omega), if_neg (by omega)]
    cases runS X (X.size + 1) 0 c0S <;> rfl
  have hp1 := plN_nls hl n (Nat.le_refl _)
  have hd : Utf8.decode X n = (97, 1) := by rw [dec_lo X n (by omega), hBn]
  have hp2 : plN X (n + 1) = (n + 1, 2, n + 1) := by rw [plN_step X hp1 (by omega), hd, if_neg (by decide)]
  exact scan_last hXn hz (Nat.lt_succ_self n) (fun i h2 h3 => by obtain rfl : i = n := by omega
                                                                 exact hBn) ⟨hp1, rfl⟩ ⟨hp2, rfl⟩ (by rw [Nat.add_sub_cancel_left]; rfl)
theorem scan_many {s : ByteArray} (h1 : s.size ≤ 1048576) (h2 : 65536 ≤ nlN s) : scanS s = .bad 5 65537 1 := by
  unfold scanS
  rw [if_neg (by omega), if_pos h2]
theorem scan_long {s : ByteArray} (h1 : 1048576 < s.size) : scanS s = .bad 5 0 0 := by
  unfold scanS
  rw [if_pos h1]
end Go.Proofs.YtbnnhbmnddaafaaGreatDoor
