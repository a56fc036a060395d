/- A text that is cut: the numbers of its two pieces are its own just where it is cut between two units. -/
import Derived.Test.YtpddpglccjbpfaaDoorL
import Derived.Test.YtpddpglccjbpfaaDoorN
namespace Go.Proofs.YtpddpglccjbpfaaDoor
open Go

def numsF (s : ByteArray) (f i : Nat) : List Nat := (unitsF s f i).map (·.2)
def placesF (s : ByteArray) (f i : Nat) : List Nat := (unitsF s f i).map (·.1)
theorem numsF_in (s : ByteArray) (f i : Nat) (h : i < s.size) : numsF s (f + 1) i = (Utf8.decode s i).1 :: numsF s f (i + (Utf8.decode s i).2) := by
  simp [numsF, unitsF, h]
theorem placesF_in (s : ByteArray) (f i : Nat) (h : i < s.size) : placesF s (f + 1) i = i :: placesF s f (i + (Utf8.decode s i).2) := by
  simp [placesF, unitsF, h]
theorem numsF_end (s : ByteArray) (f i : Nat) (h : s.size ≤ i) : numsF s f i = [] := by
  cases f with
  | zero => rfl
  | succ f => simp [numsF, unitsF, Nat.not_lt.2 h]
theorem placesF_end (s : ByteArray) (f i : Nat) (h : s.size ≤ i) : placesF s f i = [] := by
  cases f with
  | zero => rfl
  | succ f => simp [placesF, unitsF, Nat.not_lt.2 h]
theorem numsF_fuel (s : ByteArray) : ∀ f g i, s.size ≤ f + i → s.size ≤ g + i → numsF s f i = numsF s g i
  | 0, g, i, h, _ => by rw [numsF_end s g i (by omega)]; rfl
  | f + 1, 0, i, _, h => by rw [numsF_end s (f + 1) i (by omega)]; rfl
  | f + 1, g + 1, i, h, h' => by
    rcases Nat.lt_or_ge i s.size with hi | hi
    · have := dec_width s i hi
      rw [numsF_in s f i hi, numsF_in s g i hi, numsF_fuel s f g _ (by omega) (by omega)]
    · rw [numsF_end s _ i hi, numsF_end s _ i hi]
theorem placesF_ge (s : ByteArray) : ∀ f i p, p ∈ placesF s f i → i ≤ p
  | 0, _, p, h => by simp [placesF, unitsF] at h
  | f + 1, i, p, h => by
    rcases Nat.lt_or_ge i s.size with hi | hi
    · rw [placesF_in s f i hi] at h
      rcases List.mem_cons.1 h with h | h
      · omega
      · have := placesF_ge s f _ p h; omega
    · rw [placesF_end s _ i hi] at h; simp at h

/-- What stands behind a cut. -/
theorem decode_behind (s : ByteArray) (a j : Nat) (ha : a ≤ s.size) : Utf8.decode (s.extract a s.size) j = Utf8.decode s (a + j) := by
  have hz := tail_size s a ha
  rw [decode_B, decode_B, hz, Nat.sub_sub]
  simp only [B_tail s a _ ha, ← Nat.add_assoc]
theorem numsF_behind (s : ByteArray) (a : Nat) (ha : a ≤ s.size) : ∀ f j, numsF (s.extract a s.size) f j = numsF s f (a + j)
  | 0, _ => rfl
  | f + 1, j => by
    have hz := tail_size s a ha
    rcases Nat.lt_or_ge j (s.size - a) with hj | hj
    · rw [numsF_in _ f j (by omega), numsF_in s f (a + j) (by omega), decode_behind s a j ha, numsF_behind s a ha f, Nat.add_assoc]
    · rw [numsF_end _ _ j (by omega), numsF_end s _ (a + j) (by omega)]

/-- What stands ahead of a cut. -/
theorem wide_ahead (s : ByteArray) (a i v : Nat) (ha : a ≤ s.size) (hi : i < a) (h1 : 1 ≤ v) (h4 : v ≤ 4) : wideI (s.extract 0 a) i = v ↔ (wideI s i = v ∧ i + v ≤ a) := by
  have hz := size_pre s a ha
  rw [wide_iff _ i v (by omega) h1 h4, wide_iff s i v (by omega) h1 h4, hz]
  constructor
  · rintro ⟨hv, hc⟩
    refine ⟨⟨by omega, ?_⟩, hv⟩
    exact char_congr (B_pre s a _ ha (by omega)) (fun h => B_pre s a _ ha (by omega)) (fun h => B_pre s a _ ha (by omega)) (fun h => B_pre s a _ ha (by omega)) hc
  · rintro ⟨⟨_, hc⟩, hv⟩
    refine ⟨hv, ?_⟩
    exact char_congr (B_pre s a _ ha (by omega)).symm (fun h => (B_pre s a _ ha (by omega)).symm) (fun h => (B_pre s a _ ha (by omega)).symm) (fun h => (B_pre s a _ ha (by omega)).symm) hc
theorem decode_ahead (s : ByteArray) (a i : Nat) (ha : a ≤ s.size) (hi : i < a) (hw : i + (Utf8.decode s i).2 ≤ a) : Utf8.decode (s.extract 0 a) i = Utf8.decode s i := by
  have hz := size_pre s a ha
  rcases unit_at s i (by omega) with ⟨q, e⟩ | ⟨u, u1, u4, _, e1, e2, e3⟩
  · rcases unit_at (s.extract 0 a) i (by omega) with ⟨q', e'⟩ | ⟨u', u1', u4', _, e1', e2', e3'⟩
    · rw [e, e']
    · have := ((wide_ahead s a i u' ha hi u1' u4').1 e1').1
      omega
  · have hwp := (wide_ahead s a i u ha hi u1 u4).2 ⟨e1, by omega⟩
    rcases unit_at (s.extract 0 a) i (by omega) with ⟨q', e'⟩ | ⟨u', u1', u4', _, e1', e2', e3'⟩
    · omega
    · obtain rfl : u' = u := by omega
      refine Prod.ext ?_ (by omega)
      have e : ∀ j, j < u' → B (s.extract 0 a) (i + j) = B s (i + j) := fun j hj => B_pre s a _ ha (by omega)
      have e0 := e 0 (by omega)
      rw [Nat.add_zero] at e0
      have : numT u' (B (s.extract 0 a) i) (B (s.extract 0 a) (i + 1)) (B (s.extract 0 a) (i + 2)) (B (s.extract 0 a) (i + 3)) = numT u' (B s i) (B s (i + 1)) (B s (i + 2)) (B s (i + 3)) := by
        unfold numT
        rcases (by omega : u' = 1 ∨ u' = 2 ∨ u' = 3 ∨ u' = 4) with h | h | h | h
        · subst h; simp [e0]
        · subst h; simp [e0, e 1 (by omega)]
        · subst h; simp [e0, e 1 (by omega), e 2 (by omega)]
        · subst h; simp [e0, e 1 (by omega), e 2 (by omega), e 3 (by omega)]
      omega

/-- A row of bytes none of which begins a character: as many numbers. -/
theorem ill_run (s : ByteArray) : ∀ k f i, i + k ≤ s.size → (∀ q, i ≤ q → q < i + k → wideI s q = 0) → s.size ≤ f + i → ∃ g, s.size ≤ g + (i + k) ∧ (numsF s f i).length = k + (numsF s g (i + k)).length
  | 0, f, i, _, _, hf => ⟨f, by omega, by simp⟩
  | k + 1, f, i, hk, hq, hf => by
    obtain ⟨f', rfl⟩ : ∃ f', f = f' + 1 := ⟨f - 1, by omega⟩
    have e := decode_ill s i (by omega) (hq i (by omega) (by omega))
    obtain ⟨g, hg, hl⟩ := ill_run s k f' (i + 1) (by omega) (fun q h1 h2 => hq q (by omega) (by omega)) (by omega)
    refine ⟨g, by omega, ?_⟩
    rw [numsF_in s f' i (by omega), e]
    simp only [List.length_cons]
    rw [hl, show i + 1 + k = i + (k + 1) by omega]
    omega

/-- The bytes behind the first one of a character begin none. -/
theorem in_char (s : ByteArray) (i j : Nat) (hi : i < s.size) (hj : 1 ≤ j) (hw : j < (Utf8.decode s i).2) : 128 ≤ B s (i + j) ∧ B s (i + j) ≤ 191 := by
  rcases unit_at s i hi with ⟨_, e⟩ | ⟨u, u1, u4, _, e1, e2, _⟩
  · rw [e] at hw; simp only at hw; omega
  · have hc := ((wide_iff s i u hi u1 u4).1 e1).2
    rw [e2] at hw
    rcases hc with ⟨rfl, _⟩ | ⟨rfl, h⟩ | ⟨rfl, h⟩ | ⟨rfl, h⟩
    · omega
    · obtain rfl : j = 1 := by omega
      omega
    · rcases (by omega : j = 1 ∨ j = 2) with rfl | rfl <;> omega
    · rcases (by omega : j = 1 ∨ j = 2 ∨ j = 3) with rfl | rfl | rfl <;> omega

theorem cut_at (s : ByteArray) (a : Nat) (ha : a ≤ s.size) : ∀ f i, i ≤ a → s.size ≤ f + i →
    ((a ∈ placesF s f i ∨ a = s.size) ∧ ∀ f2 f3, s.size ≤ f2 + i → s.size ≤ f3 + a → numsF (s.extract 0 a) f2 i ++ numsF s f3 a = numsF s f i) ∨
    ((a ∉ placesF s f i ∧ a ≠ s.size) ∧ ∀ f2 f3, s.size ≤ f2 + i → s.size ≤ f3 + a → (numsF s f i).length < (numsF (s.extract 0 a) f2 i ++ numsF s f3 a).length)
  | f, i, hia, hf => by
    have hz := size_pre s a ha
    rcases Nat.lt_or_ge i a with hlt | hge
    · have hi : i < s.size := by omega
      obtain ⟨d1, d2, d3⟩ := dec_width s i hi
      obtain ⟨f', rfl⟩ : ∃ f', f = f' + 1 := ⟨f - 1, by omega⟩
      by_cases hw : i + (Utf8.decode s i).2 ≤ a
      · have hda := decode_ahead s a i ha hlt hw
        have hrec := cut_at s a ha f' (i + (Utf8.decode s i).2) hw (by omega)
        rw [placesF_in s f' i hi, numsF_in s f' i hi]
        have hne : a ≠ i := by omega
        rcases hrec with ⟨h1, h2⟩ | ⟨⟨h1, h1'⟩, h2⟩
        · refine .inl ⟨?_, fun f2 f3 hf2 hf3 => ?_⟩
          · rcases h1 with h | h
            · exact .inl (List.mem_cons_of_mem _ h)
            · exact .inr h
          · obtain ⟨f2', rfl⟩ : ∃ f2', f2 = f2' + 1 := ⟨f2 - 1, by omega⟩
            rw [numsF_in _ f2' i (by omega), hda, List.cons_append, h2 f2' f3 (by omega) hf3]
        · refine .inr ⟨⟨fun h => ?_, h1'⟩, fun f2 f3 hf2 hf3 => ?_⟩
          · rcases List.mem_cons.1 h with h | h
            · exact hne h
            · exact h1 h
          · obtain ⟨f2', rfl⟩ : ∃ f2', f2 = f2' + 1 := ⟨f2 - 1, by omega⟩
            rw [numsF_in _ f2' i (by omega), hda, List.cons_append]
            simp only [List.length_cons]
            exact Nat.succ_lt_succ (h2 f2' f3 (by omega) hf3)
      · refine .inr ⟨⟨fun h => ?_, by omega⟩, fun f2 f3 hf2 hf3 => ?_⟩
        · rw [placesF_in s f' i hi] at h
          rcases List.mem_cons.1 h with h | h
          · omega
          · have := placesF_ge s f' _ _ h; omega
        · obtain ⟨g, hg, hl⟩ := ill_run (s.extract 0 a) (a - i) f2 i (by omega) (fun q h1 h2 => by
            rcases Nat.lt_or_ge i q with hq | hq
            · have := in_char s i (q - i) hi (by omega) (by omega)
              rw [Nat.add_sub_cancel' h1] at this
              rw [← B_pre s a q ha (by omega)] at this
              exact wide_cont _ q this.1 this.2
            · obtain rfl : q = i := by omega
              rcases decode_wide (s.extract 0 a) q (by omega) with ⟨h, _⟩ | ⟨u, u1, u4, _, e, _⟩
              · exact h
              · exfalso
                obtain ⟨e1, e2⟩ := (wide_ahead s a q u ha hlt u1 u4).1 e
                rcases decode_wide s q hi with ⟨h, _⟩ | ⟨u', _, _, _, e', e''⟩
                · omega
                · omega) (by omega)
          rw [show i + (a - i) = a by omega] at hl
          obtain ⟨g2, hg2, hl2⟩ := ill_run s (i + (Utf8.decode s i).2 - a) f3 a (by omega) (fun q h1 h2 => by
            have := in_char s i (q - i) hi (by omega) (by omega)
            rw [Nat.add_sub_cancel' (by omega)] at this
            exact wide_cont _ q this.1 this.2) hf3
          rw [show a + (i + (Utf8.decode s i).2 - a) = i + (Utf8.decode s i).2 by omega] at hl2 hg2
          rw [numsF_in s f' i hi, numsF_fuel s f' g2 _ (by omega) hg2]
          simp only [List.length_append, List.length_cons]
          rw [hl, hl2]
          omega
    · obtain rfl : i = a := by omega
      refine .inl ⟨?_, fun f2 f3 hf2 hf3 => ?_⟩
      · rcases Nat.lt_or_ge i s.size with hi | hi
        · obtain ⟨f', rfl⟩ : ∃ f', f = f' + 1 := ⟨f - 1, by omega⟩
          rw [placesF_in s f' i hi]; exact .inl (List.mem_cons_self ..)
        · exact .inr (by omega)
      · rw [numsF_end (s.extract 0 i) f2 i (by omega), List.nil_append]
        exact numsF_fuel s f3 f i hf3 hf
  termination_by _f i => s.size - i
  decreasing_by omega

/-- The numbers of a text. -/
def nums (s : ByteArray) : List Nat := numsF s s.size 0
theorem nums_units (s : ByteArray) : nums s = (units s).map (·.2) := rfl
/-- **The cut.** -/
theorem cut_iff (s : ByteArray) (a : Nat) (ha : a ≤ s.size) : (nums (s.extract 0 a) ++ nums (s.extract a s.size) = nums s) ↔ (a ∈ (units s).map (·.1) ∨ a = 0 ∨ a = s.size) := by
  have hz := size_pre s a ha
  have hz2 := tail_size s a ha
  have e2 : nums (s.extract a s.size) = numsF s s.size a := by
    rw [nums, numsF_behind s a ha, hz2, Nat.add_zero]
    exact numsF_fuel s _ _ a (by omega) (by omega)
  have e1 : nums (s.extract 0 a) = numsF (s.extract 0 a) s.size 0 := by
    rw [nums, hz]; exact numsF_fuel _ _ _ 0 (by omega) (by omega)
  rw [e1, e2]
  rcases cut_at s a ha s.size 0 (Nat.zero_le _) (by omega) with ⟨h1, h2⟩ | ⟨⟨h1, h1'⟩, h2⟩
  · refine ⟨fun _ => ?_, fun _ => h2 _ _ (by omega) (by omega)⟩
    rcases h1 with h | h
    · exact .inl h
    · exact .inr (.inr h)
  · have := h2 s.size s.size (by omega) (by omega)
    constructor
    · intro e; rw [e] at this; unfold nums at this; omega
    · intro h
      exfalso
      rcases h with h | h | h
      · exact h1 h
      · subst h
        rcases Nat.lt_or_ge 0 s.size with hp | hp
        · apply h1
          obtain ⟨f', hf'⟩ : ∃ f', s.size = f' + 1 := ⟨s.size - 1, by omega⟩
          rw [hf', placesF_in s f' 0 hp]; exact List.mem_cons_self ..
        · exact h1' (by omega)
      · exact h1' h
end Go.Proofs.YtpddpglccjbpfaaDoor
