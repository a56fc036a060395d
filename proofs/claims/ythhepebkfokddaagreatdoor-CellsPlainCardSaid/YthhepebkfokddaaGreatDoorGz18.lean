/- Parts of the proof of what the last text says. -/
import Derived.Test.YthhepebkfokddaaGreatDoorGz17
import Derived.Laws.IdiomStrings
import Derived.Test.YthhepebkfokddaaGreatDoorGz6
import Derived.Laws.Cover4
import Derived.Laws.MakeOwn
import Derived.Sort.QuietIn
import Derived.Sort.QuietTacIn
/- The document's lists of what is ill-formed, and its mended text. -/
namespace Go.Proofs.YthhepebkfokddaaGreatDoor
open Go Go.RowKit Go.Kt Go.Shelf

/-- The cells of a list of pieces. -/
def pieceCells (l : List (Nat × Nat)) : List Value := l.flatMap fun p => [.int .i64 p.1, .int .i64 p.2]
theorem pieceCells_snoc (l : List (Nat × Nat)) (p : Nat × Nat) : pieceCells (l ++ [p]) = pieceCells l ++ [.int .i64 p.1, .int .i64 p.2] := by simp [pieceCells]
theorem badsF_len (s : ByteArray) : ∀ f i, (badsF s f i).length ≤ f
  | 0, _ => by simp [badsF]
  | f + 1, i => by
    rw [badsF]
    split
    · split
      · have := badsF_len s f (i + badK s i)
        simp; omega
      · have := badsF_len s f (i + (wideI s i).toNat)
        omega
    · simp
theorem bads_len (s : ByteArray) : (bads s).length ≤ s.size := badsF_len s s.size 0

theorem begunI_bd (s : ByteArray) (i : Nat) (hi : i < s.size) : 0 ≤ (begunI s i).1 ∧ (begunI s i).1 ≤ 4 ∧ 0 ≤ (begunI s i).2 ∧ (begunI s i).2 ≤ 4 := by
  have hb := bgT_bd (leadI (B s i)) (s.size - i) (B s (i + 1)) (B s (i + 2)) (B s (i + 3)) (by omega)
  have hl := leadI_bd (B s i)
  rw [begunI_eq]
  split
  · simp
  · simp only; omega

/-- A slice of bytes of the call's own, that holds l. -/
def OwnB (Y : Nat → Prop) (v : Value) (l : List UInt8) (W : World) : Prop := W.ownsRowF 0 5 1 v l.length (Lib.byteCells l) ∧ ∀ g, v.ownBlock = some g → Y g
theorem OwnB.nil (Y : Nat → Prop) (W : World) : OwnB Y (.slice none 0 0) [] W := ⟨World.ownsRowF_nil W 0 5 1, fun _ h => by cases h⟩
theorem OwnB.slice {Y : Nat → Prop} {v : Value} {l : List UInt8} {W : World} (h : OwnB Y v l W) : ∃ ao cap, v = .slice ao l.length cap := by
  rcases h.1.2 with ⟨hv, hn⟩ | ⟨g, cap, cur, fz, hv, _⟩
  · exact ⟨none, 0, by rw [hv, hn]⟩
  · exact ⟨_, _, hv⟩
theorem OwnB.append {Y : Nat → Prop} {v : Value} {l : List UInt8} {W : World} (h : OwnB Y v l W) (n0 : Nat) (hn : n0 ≤ W.heap.size) (hY : ∀ g, Y g → n0 ≤ g) (s : ByteArray) (hl : l.length + s.size ≤ 140737488355328) :
    ∃ ao cap W', (∀ ty, (Builtin.append_ #[203, 9] ty #[v, .string s]).run Tryz.prog W = .ok (.slice ao (l.length + s.size) cap) W') ∧ OwnB (fun b => n0 ≤ b) (.slice ao (l.length + s.size) cap) (l ++ s.data.toList) W' ∧ Below n0 W W' := by
  obtain ⟨v', w', hrun, h1, hk, hf⟩ := append_str (P := Tryz.prog) W 203 9 5 Tryz.underlying203 Tryz.underlying9 tinfo5 h.1 s hl
  have e1 : (l ++ s.data.toList).length = l.length + s.size := by simp
  have hO : OwnB (fun b => n0 ≤ b) v' (l ++ s.data.toList) w' := ⟨by
    rw [e1, show Lib.byteCells (l ++ s.data.toList) = Lib.byteCells l ++ Lib.strCells s by simp [Lib.byteCells, Lib.strCells]]
    exact h1, fun g hg => by
      rcases hf g hg with q | q
      · exact hY g (h.2 g q)
      · omega⟩
  obtain ⟨ao, cap, rfl⟩ := hO.slice
  rw [e1] at hrun hO
  exact ⟨ao, cap, w', hrun, hO, hk.below hn fun b hb => hY b (h.2 b hb)⟩
theorem OwnB.text {Y : Nat → Prop} {v : Value} {l : List UInt8} {W : World} (h : OwnB Y v l W) : (convert 203 9 v).run Tryz.prog W = .ok (.string ⟨l.toArray⟩) W := by
  rcases h.1.2 with ⟨hv, hn⟩ | ⟨g, cap, cur, fz, hv, _⟩
  · have : l = [] := List.eq_nil_of_length_eq_zero hn
    subst this; subst hv
    simp [convert, Conv.bytesToString, run_underlying Tryz.underlying203, run_underlying Tryz.underlying9, run_underlying Tryz.underlying5]
    rfl
  · subst hv
    refine run_convert_bytes_back W 203 9 5 ⟨g, 0, none⟩ cap l Tryz.underlying203 Tryz.underlying5 Tryz.underlying9 fun j hj => ?_
    refine h.1.cells rfl j _ ?_
    simp [Lib.byteCells, hj]

theorem pieceCells_get (l : List (Nat × Nat)) : ∀ (i : Nat) (p : Nat × Nat), l[i]? = some p → (pieceCells l)[2 * i]? = some (.int .i64 p.1) ∧ (pieceCells l)[2 * i + 1]? = some (.int .i64 p.2) := by
  induction l with
  | nil => intro i p h; simp at h
  | cons q r ih =>
    intro i p h
    cases i with
    | zero => simp at h; subst h; simp [pieceCells]
    | succ i =>
      simp at h
      obtain ⟨h1, h2⟩ := ih i p h
      simp only [pieceCells] at h1 h2
      exact ⟨by simpa [pieceCells, Nat.mul_add] using h1, by simpa [pieceCells, Nat.mul_add] using h2⟩
end Go.Proofs.YthhepebkfokddaaGreatDoor

namespace Go.Proofs.YthhepebkfokddaaGreatDoor
open Go Go.RowKit Go.Kt Go.Shelf

theorem runesFrom_eq (s : ByteArray) : ∀ f i (acc : Array Value), Conv.runesFrom s f i acc = acc ++ ((unitsF s f i).map fun p => Value.int .i32 p.2).toArray
  | 0, i, acc => by simp [Conv.runesFrom, unitsF]
  | f + 1, i, acc => by
    unfold Conv.runesFrom unitsF
    split
    · show Conv.runesFrom s f (i + (Utf8.decode s i).2) (acc.push (Value.int IntKind.i32 (Int.ofNat (Utf8.decode s i).1))) = _
      rw [runesFrom_eq s f]
      simp
    · simp
def runeCells (s : ByteArray) : List Value := (units s).map fun p => Value.int .i32 p.2
theorem runeCells_len (s : ByteArray) : (runeCells s).length = (units s).length := by simp [runeCells]
theorem runesFrom_units (s : ByteArray) : Conv.runesFrom s s.size 0 #[] = (runeCells s).toArray := by
  rw [runesFrom_eq]; simp [runeCells, units]
theorem unitsF_len (s : ByteArray) : ∀ f i, (unitsF s f i).length ≤ f
  | 0, i => by simp [unitsF]
  | f + 1, i => by
    unfold unitsF
    split
    · have := unitsF_len s f (i + (Utf8.decode s i).2)
      simp; omega
    · simp
theorem units_len (s : ByteArray) : (units s).length ≤ s.size := unitsF_len s s.size 0

theorem ownsRow_laid (w : World) (cs zs : List Value) (e : TypeId) (n : Nat) (hn : cs.length = n) (hm : n + zs.length ≤ maxLen) :
    OwnS (fun b => b = w.heap.size) e 1 (.slice (some ⟨w.heap.size, 0, none⟩) n (n + zs.length)) n cs (w.alloc (.cells (cs.toArray ++ zs.toArray) e)) := by
  refine ⟨⟨by omega, .inr ⟨w.heap.size, n + zs.length, _, rfl, Nat.zero_le _, World.alloc_heap_new w _, by omega, hm, by simp; omega, ?_⟩⟩, fun g h => by cases h; rfl⟩
  simp [← hn]

end Go.Proofs.YthhepebkfokddaaGreatDoor

namespace Go.Proofs.YthhepebkfokddaaGreatDoor
open Go Go.RowKit Go.Kt Go.Shelf

abbrev s1 : ByteArray := ⟨#[97, 195, 169]⟩
abbrev s2 : ByteArray := ⟨#[195]⟩
abbrev s3 : ByteArray := ⟨#[255, 98]⟩
theorem d1 : decP s1 1 = (233, 2) := by kernel_rfl
theorem d2 : decP s2 0 = (65533, 1) := by kernel_rfl
theorem d3 : runeCells s3 = [.int .i32 65533, .int .i32 98] := by kernel_rfl
theorem d3n : (units s3).length = 2 := by kernel_rfl
theorem d4 : Utf8.encode 233 = ⟨#[195, 169]⟩ := by kernel_rfl
theorem d5 : mendL ⟨#[255]⟩ ⟨#[63]⟩ true = [63] := by kernel_rfl
theorem d6 : fullB ⟨#[97]⟩ = true := by kernel_rfl

theorem neq_func31 (f b : Nat) (w : World) : (binOp .neq 79 (.func (.func f) #[] #[.pointer (some ⟨b, 0, none⟩)]) .nilFunc).run Tryz.prog w = .ok (.bool true) w := by kernel_rfl

end Go.Proofs.YthhepebkfokddaaGreatDoor
/- Whether a text is right; the text of numbers; one unit held; the ill-formed pieces held. -/
namespace Go.Proofs.YthhepebkfokddaaGreatDoor
open Go Go.RowKit Go.Kt Go.Shelf

def okF (s : ByteArray) : Nat → Nat → Bool
  | 0, _ => true
  | f + 1, i => if i < s.size then (if illB s i then false else okF s f (i + (Utf8.decode s i).2)) else true
/-- Is nothing ill-formed in it? -/
def okB (s : ByteArray) : Bool := okF s s.size 0

/-- The text of numbers. -/
theorem text_run (v : Value) (l : List Int) (w : World) (h : Sl .i32 w v l) : (convert 62 9 v).run Tryz.prog w = .ok (.string (runesBytes l)) w := by
  obtain ⟨ao, cap, rfl, h⟩ := h
  rcases h with rfl | ⟨g, off, rfl, h⟩
  · cases ao with
    | none => exact run_convert_runes_nil w 62 9 21 _ _ Tryz.underlying62 Tryz.underlying21 Tryz.underlying9
    | some a => exact run_convert_runes w 62 9 21 a 0 cap [] (Nat.le_refl _) Tryz.underlying62 Tryz.underlying21 Tryz.underlying9 (fun j hj => by simp at hj)
  · have := run_convert_runes w 62 9 21 ⟨g, off, none⟩ l.length cap l (Nat.le_refl _) Tryz.underlying62 Tryz.underlying21 Tryz.underlying9 (fun j hj => by
      rw [Addr.add_lit]
      exact h j _ (by rw [List.getD_eq_getElem?_getD, List.getElem?_eq_getElem hj]; rfl))
    rwa [List.take_length] at this

/-- What a slice of its own row is read as. -/
theorem sl_of_own {k : IntKind} {Y : Nat → Prop} {e : TypeId} {v : Value} {n : Nat} {l : List Int} {W : World} (h : OwnS Y e 1 v n (l.map fun x => .int k x) W) (hl : l.length = n) : Sl k W v l := by
  subst hl
  rcases h.1.2 with ⟨hv, hn⟩ | ⟨g, cap, cur, hv, rest⟩
  · exact ⟨none, 0, by rw [hv, hn], .inl (List.eq_nil_of_length_eq_zero hn)⟩
  · refine ⟨_, cap, hv, .inr ⟨g, 0, rfl, fun i x hx => ?_⟩⟩
    have hc := h.1.cells (g := g) (by rw [hv]; rfl)
    have c1 := hc i (.int k x) (by simp [hx])
    rw [Addr.add_lit] at c1
    exact c1
end Go.Proofs.YthhepebkfokddaaGreatDoor
/- A text that is cut: the numbers of its two pieces are its own just where it is cut between two units. -/
namespace Go.Proofs.YthhepebkfokddaaGreatDoor
open Go

def numsF (s : ByteArray) (f i : Nat) : List Nat := (unitsF s f i).map (·.2)
def placesF (s : ByteArray) (f i : Nat) : List Nat := (unitsF s f i).map (·.1)
theorem numsF_in (s : ByteArray) (f i : Nat) (h : i < s.size) : numsF s (f + 1) i = (Utf8.decode s i).1 :: numsF s f (i + (Utf8.decode s i).2) := by
  simp [numsF, unitsF, h]
theorem placesF_in (s : ByteArray) (f i : Nat) (h : i < s.size) : placesF s (f + 1) i = i :: placesF s f (i + (Utf8.decode s i).2) := by
  simp [placesF, unitsF, h]
theorem numsF_end (s : ByteArray) (f i : Nat) (h : s.size ≤ i) : numsF s f i = [] := by
  cases f with
  | zero => rfl
  | succ f => simp [numsF, unitsF, Nat.not_lt.2 h]
theorem placesF_end (s : ByteArray) (f i : Nat) (h : s.size ≤ i) : placesF s f i = [] := by
  cases f with
  | zero => rfl
  | succ f => simp [placesF, unitsF, Nat.not_lt.2 h]
theorem numsF_fuel (s : ByteArray) : ∀ f g i, s.size ≤ f + i → s.size ≤ g + i → numsF s f i = numsF s g i
  | 0, g, i, h, _ => by rw [numsF_end s g i (by omega)]; rfl
  | f + 1, 0, i, _, h => by rw [numsF_end s (f + 1) i (by omega)]; rfl
  | f + 1, g + 1, i, h, h' => by
    rcases Nat.lt_or_ge i s.size with hi | hi
    · have := dec_width s i hi
      rw [numsF_in s f i hi, numsF_in s g i hi, numsF_fuel s f g _ (by omega) (by omega)]
    · rw [numsF_end s _ i hi, numsF_end s _ i hi]
theorem placesF_ge (s : ByteArray) : ∀ f i p, p ∈ placesF s f i → i ≤ p
  | 0, _, p, h => by simp [placesF, unitsF] at h
  | f + 1, i, p, h => by
    rcases Nat.lt_or_ge i s.size with hi | hi
    · rw [placesF_in s f i hi] at h
      rcases List.mem_cons.1 h with h | h
      · omega
      · have := placesF_ge s f _ p h; omega
    · rw [placesF_end s _ i hi] at h; simp at h

/-- What stands behind a cut. -/
theorem decode_behind (s : ByteArray) (a j : Nat) (ha : a ≤ s.size) : Utf8.decode (s.extract a s.size) j = Utf8.decode s (a + j) := by
  have hz := tail_size s a ha
  rw [decode_B, decode_B, hz, Nat.sub_sub]
  simp only [B_tail s a _ ha, ← Nat.add_assoc]
theorem numsF_behind (s : ByteArray) (a : Nat) (ha : a ≤ s.size) : ∀ f j, numsF (s.extract a s.size) f j = numsF s f (a + j)
  | 0, _ => rfl
  | f + 1, j => by
    have hz := tail_size s a ha
    rcases Nat.lt_or_ge j (s.size - a) with hj | hj
    · rw [numsF_in _ f j (by omega), numsF_in s f (a + j) (by omega), decode_behind s a j ha, numsF_behind s a ha f, Nat.add_assoc]
    · rw [numsF_end _ _ j (by omega), numsF_end s _ (a + j) (by omega)]

/-- What stands ahead of a cut. -/
theorem wide_ahead (s : ByteArray) (a i v : Nat) (ha : a ≤ s.size) (hi : i < a) (h1 : 1 ≤ v) (h4 : v ≤ 4) : wideI (s.extract 0 a) i = v ↔ (wideI s i = v ∧ i + v ≤ a) := by
  have hz := size_pre s a ha
  rw [wide_iff _ i v (by omega) h1 h4, wide_iff s i v (by omega) h1 h4, hz]
  constructor
  · rintro ⟨hv, hc⟩
    refine ⟨⟨by omega, ?_⟩, hv⟩
    exact char_congr (B_pre s a _ ha (by omega)) (fun h => B_pre s a _ ha (by omega)) (fun h => B_pre s a _ ha (by omega)) (fun h => B_pre s a _ ha (by omega)) hc
  · rintro ⟨⟨_, hc⟩, hv⟩
    refine ⟨hv, ?_⟩
    exact char_congr (B_pre s a _ ha (by omega)).symm (fun h => (B_pre s a _ ha (by omega)).symm) (fun h => (B_pre s a _ ha (by omega)).symm) (fun h => (B_pre s a _ ha (by omega)).symm) hc
theorem decode_ahead (s : ByteArray) (a i : Nat) (ha : a ≤ s.size) (hi : i < a) (hw : i + (Utf8.decode s i).2 ≤ a) : Utf8.decode (s.extract 0 a) i = Utf8.decode s i := by
  have hz := size_pre s a ha
  rcases unit_at s i (by omega) with ⟨q, e⟩ | ⟨u, u1, u4, _, e1, e2, e3⟩
  · rcases unit_at (s.extract 0 a) i (by omega) with ⟨q', e'⟩ | ⟨u', u1', u4', _, e1', e2', e3'⟩
    · rw [e, e']
    · have := ((wide_ahead s a i u' ha hi u1' u4').1 e1').1
      omega
  · have hwp := (wide_ahead s a i u ha hi u1 u4).2 ⟨e1, by omega⟩
    rcases unit_at (s.extract 0 a) i (by omega) with ⟨q', e'⟩ | ⟨u', u1', u4', _, e1', e2', e3'⟩
    · omega
    · obtain rfl : u' = u := by omega
      refine Prod.ext ?_ (by omega)
      have e : ∀ j, j < u' → B (s.extract 0 a) (i + j) = B s (i + j) := fun j hj => B_pre s a _ ha (by omega)
      have e0 := e 0 (by omega)
      rw [Nat.add_zero] at e0
      have : numT u' (B (s.extract 0 a) i) (B (s.extract 0 a) (i + 1)) (B (s.extract 0 a) (i + 2)) (B (s.extract 0 a) (i + 3)) = numT u' (B s i) (B s (i + 1)) (B s (i + 2)) (B s (i + 3)) := by
        unfold numT
        rcases (by omega : u' = 1 ∨ u' = 2 ∨ u' = 3 ∨ u' = 4) with h | h | h | h
        · subst h; simp [e0]
        · subst h; simp [e0, e 1 (by omega)]
        · subst h; simp [e0, e 1 (by omega), e 2 (by omega)]
        · subst h; simp [e0, e 1 (by omega), e 2 (by omega), e 3 (by omega)]
      omega

/-- A row of bytes none of which begins a character: as many numbers. -/
theorem ill_run (s : ByteArray) : ∀ k f i, i + k ≤ s.size → (∀ q, i ≤ q → q < i + k → wideI s q = 0) → s.size ≤ f + i → ∃ g, s.size ≤ g + (i + k) ∧ (numsF s f i).length = k + (numsF s g (i + k)).length
  | 0, f, i, _, _, hf => ⟨f, by omega, by simp⟩
  | k + 1, f, i, hk, hq, hf => by
    obtain ⟨f', rfl⟩ : ∃ f', f = f' + 1 := ⟨f - 1, by omega⟩
    have e := decode_ill s i (by omega) (hq i (by omega) (by omega))
    obtain ⟨g, hg, hl⟩ := ill_run s k f' (i + 1) (by omega) (fun q h1 h2 => hq q (by omega) (by omega)) (by omega)
    refine ⟨g, by omega, ?_⟩
    rw [numsF_in s f' i (by omega), e]
    simp only [List.length_cons]
    rw [hl, show i + 1 + k = i + (k + 1) by omega]
    omega

/-- The bytes behind the first one of a character begin none. -/
theorem in_char (s : ByteArray) (i j : Nat) (hi : i < s.size) (hj : 1 ≤ j) (hw : j < (Utf8.decode s i).2) : 128 ≤ B s (i + j) ∧ B s (i + j) ≤ 191 := by
  rcases unit_at s i hi with ⟨_, e⟩ | ⟨u, u1, u4, _, e1, e2, _⟩
  · rw [e] at hw; simp only at hw; omega
  · have hc := ((wide_iff s i u hi u1 u4).1 e1).2
    rw [e2] at hw
    rcases hc with ⟨rfl, _⟩ | ⟨rfl, h⟩ | ⟨rfl, h⟩ | ⟨rfl, h⟩
    · omega
    · obtain rfl : j = 1 := by omega
      omega
    · rcases (by omega : j = 1 ∨ j = 2) with rfl | rfl <;> omega
    · rcases (by omega : j = 1 ∨ j = 2 ∨ j = 3) with rfl | rfl | rfl <;> omega

theorem cut_at (s : ByteArray) (a : Nat) (ha : a ≤ s.size) : ∀ f i, i ≤ a → s.size ≤ f + i →
    ((a ∈ placesF s f i ∨ a = s.size) ∧ ∀ f2 f3, s.size ≤ f2 + i → s.size ≤ f3 + a → numsF (s.extract 0 a) f2 i ++ numsF s f3 a = numsF s f i) ∨
    ((a ∉ placesF s f i ∧ a ≠ s.size) ∧ ∀ f2 f3, s.size ≤ f2 + i → s.size ≤ f3 + a → (numsF s f i).length < (numsF (s.extract 0 a) f2 i ++ numsF s f3 a).length)
  | f, i, hia, hf => by
    have hz := size_pre s a ha
    rcases Nat.lt_or_ge i a with hlt | hge
    · have hi : i < s.size := by omega
      obtain ⟨d1, d2, d3⟩ := dec_width s i hi
      obtain ⟨f', rfl⟩ : ∃ f', f = f' + 1 := ⟨f - 1, by omega⟩
      by_cases hw : i + (Utf8.decode s i).2 ≤ a
      · have hda := decode_ahead s a i ha hlt hw
        have hrec := cut_at s a ha f' (i + (Utf8.decode s i).2) hw (by omega)
        rw [placesF_in s f' i hi, numsF_in s f' i hi]
        have hne : a ≠ i := by omega
        rcases hrec with ⟨h1, h2⟩ | ⟨⟨h1, h1'⟩, h2⟩
        · refine .inl ⟨?_, fun f2 f3 hf2 hf3 => ?_⟩
          · rcases h1 with h | h
            · exact .inl (List.mem_cons_of_mem _ h)
            · exact .inr h
          · obtain ⟨f2', rfl⟩ : ∃ f2', f2 = f2' + 1 := ⟨f2 - 1, by omega⟩
            rw [numsF_in _ f2' i (by omega), hda, List.cons_append, h2 f2' f3 (by omega) hf3]
        · refine .inr ⟨⟨fun h => ?_, h1'⟩, fun f2 f3 hf2 hf3 => ?_⟩
          · rcases List.mem_cons.1 h with h | h
            · exact hne h
            · exact h1 h
          · obtain ⟨f2', rfl⟩ : ∃ f2', f2 = f2' + 1 := ⟨f2 - 1, by omega⟩
            rw [numsF_in _ f2' i (by omega), hda, List.cons_append]
            simp only [List.length_cons]
            exact Nat.succ_lt_succ (h2 f2' f3 (by omega) hf3)
      · refine .inr ⟨⟨fun h => ?_, by omega⟩, fun f2 f3 hf2 hf3 => ?_⟩
        · rw [placesF_in s f' i hi] at h
          rcases List.mem_cons.1 h with h | h
          · omega
          · have := placesF_ge s f' _ _ h; omega
        · obtain ⟨g, hg, hl⟩ := ill_run (s.extract 0 a) (a - i) f2 i (by omega) (fun q h1 h2 => by
            rcases Nat.lt_or_ge i q with hq | hq
            · have := in_char s i (q - i) hi (by omega) (by omega)
              rw [Nat.add_sub_cancel' h1] at this
              rw [← B_pre s a q ha (by omega)] at this
              exact wide_cont _ q this.1 this.2
            · obtain rfl : q = i := by omega
              rcases decode_wide (s.extract 0 a) q (by omega) with ⟨h, _⟩ | ⟨u, u1, u4, _, e, _⟩
              · exact h
              · exfalso
                obtain ⟨e1, e2⟩ := (wide_ahead s a q u ha hlt u1 u4).1 e
                rcases decode_wide s q hi with ⟨h, _⟩ | ⟨u', _, _, _, e', e''⟩
                · omega
                · omega) (by omega)
          rw [show i + (a - i) = a by omega] at hl
          obtain ⟨g2, hg2, hl2⟩ := ill_run s (i + (Utf8.decode s i).2 - a) f3 a (by omega) (fun q h1 h2 => by
            have := in_char s i (q - i) hi (by omega) (by omega)
            rw [Nat.add_sub_cancel' (by omega)] at this
            exact wide_cont _ q this.1 this.2) hf3
          rw [show a + (i + (Utf8.decode s i).2 - a) = i + (Utf8.decode s i).2 by omega] at hl2 hg2
          rw [numsF_in s f' i hi, numsF_fuel s f' g2 _ (by omega) hg2]
          simp only [List.length_append, List.length_cons]
          rw [hl, hl2]
          omega
    · obtain rfl : i = a := by omega
      refine .inl ⟨?_, fun f2 f3 hf2 hf3 => ?_⟩
      · rcases Nat.lt_or_ge i s.size with hi | hi
        · obtain ⟨f', rfl⟩ : ∃ f', f = f' + 1 := ⟨f - 1, by omega⟩
          rw [placesF_in s f' i hi]; exact .inl (List.mem_cons_self ..)
        · exact .inr (by omega)
      · rw [numsF_end (s.extract 0 i) f2 i (by omega), List.nil_append]
        exact numsF_fuel s f3 f i hf3 hf
  termination_by _f i => s.size - i
  decreasing_by omega

/-- The numbers of a text. -/
def nums (s : ByteArray) : List Nat := numsF s s.size 0
theorem nums_units (s : ByteArray) : nums s = (units s).map (·.2) := rfl
/-- **The cut.** -/
theorem cut_iff (s : ByteArray) (a : Nat) (ha : a ≤ s.size) : (nums (s.extract 0 a) ++ nums (s.extract a s.size) = nums s) ↔ (a ∈ (units s).map (·.1) ∨ a = 0 ∨ a = s.size) := by
  have hz := size_pre s a ha
  have hz2 := tail_size s a ha
  have e2 : nums (s.extract a s.size) = numsF s s.size a := by
    rw [nums, numsF_behind s a ha, hz2, Nat.add_zero]
    exact numsF_fuel s _ _ a (by omega) (by omega)
  have e1 : nums (s.extract 0 a) = numsF (s.extract 0 a) s.size 0 := by
    rw [nums, hz]; exact numsF_fuel _ _ _ 0 (by omega) (by omega)
  rw [e1, e2]
  rcases cut_at s a ha s.size 0 (Nat.zero_le _) (by omega) with ⟨h1, h2⟩ | ⟨⟨h1, h1'⟩, h2⟩
  · refine ⟨fun _ => ?_, fun _ => h2 _ _ (by omega) (by omega)⟩
    rcases h1 with h | h
    · exact .inl h
    · exact .inr (.inr h)
  · have := h2 s.size s.size (by omega) (by omega)
    constructor
    · intro e; rw [e] at this; unfold nums at this; omega
    · intro h
      exfalso
      rcases h with h | h | h
      · exact h1 h
      · subst h
        rcases Nat.lt_or_ge 0 s.size with hp | hp
        · apply h1
          obtain ⟨f', hf'⟩ : ∃ f', s.size = f' + 1 := ⟨s.size - 1, by omega⟩
          rw [hf', placesF_in s f' 0 hp]; exact List.mem_cons_self ..
        · exact h1' (by omega)
      · exact h1' h
end Go.Proofs.YthhepebkfokddaaGreatDoor
/- The walk of UtfCuts. -/
namespace Go.Proofs.YthhepebkfokddaaGreatDoor
open Go Go.RowKit Go.Kt Go.Shelf
attribute [local go_sem] Oper.semAt_some

theorem tinfo4 : (Tryz.prog.info? 4).map (fun i => (i.zero, i.size, i.bytes)) = some (some (.bool false), 1, 1) := by kernel_rfl
theorem tinfo21 : (Tryz.prog.info? 21).map (fun i => (i.zero, i.size, i.bytes)) = some (some (.int .i32 0), 1, 4) := by kernel_rfl

/-- The block m holds a row of places. -/
def Plc (m : Nat) (s : ByteArray) (p : Nat → Bool) (W : World) : Prop :=
  ∃ c : Array Value, W.heap[m]? = some (.cells c 4 (0, 0)) ∧ ∀ i, i ≤ s.size → c[i]? = some (.bool (p i))
theorem Plc.keep {m : Nat} {s : ByteArray} {p : Nat → Bool} {X : Nat → Prop} {A B : World} (h : Plc m s p A) (hk : Keep X A B) (hX : ¬ X m) : Plc m s p B := by
  obtain ⟨c, h1, h2⟩ := h
  exact ⟨c, hk.heap h1 hX, h2⟩
theorem Plc.cell {m : Nat} {s : ByteArray} {p : Nat → Bool} {W : World} (h : Plc m s p W) {i : Nat} (hi : i ≤ s.size) : W.cell? ⟨m, i, none⟩ = some (.bool (p i)) := by
  obtain ⟨c, h1, h2⟩ := h
  rw [Lib.cell_of_heap h1]; exact h2 i hi
theorem Plc.frozen {m : Nat} {s : ByteArray} {p : Nat → Bool} {W : World} (h : Plc m s p W) (i : Nat) : W.frozen? ⟨m, i, none⟩ = false := by
  obtain ⟨c, h1, h2⟩ := h
  exact Lib.frozen_of_heap h1 i
theorem Plc.set {m : Nat} {s : ByteArray} {p : Nat → Bool} {W : World} (h : Plc m s p W) {j : Nat} (_ : j ≤ s.size) : Plc m s (fun i => p i || i == j) (W.setCell ⟨m, j, none⟩ (.bool true)) := by
  obtain ⟨c, h1, h2⟩ := h
  refine ⟨c.setIfInBounds j (.bool true), by simp [World.setCell, Array.getElem?_modify, h1], fun i hi => ?_⟩
  rw [Array.getElem?_setIfInBounds]
  have := h2 i hi
  have hlt := (Array.getElem?_eq_some_iff.1 this).1
  by_cases e : j = i
  · subst e; rw [if_pos rfl, if_pos hlt]; simp
  · rw [if_neg e, this]
    have : (i == j) = false := by simp; omega
    simp [this]
theorem Plc.congr {m : Nat} {s : ByteArray} {p q : Nat → Bool} {W : World} (h : Plc m s p W) (e : ∀ i, i ≤ s.size → p i = q i) : Plc m s q W := by
  obtain ⟨c, h1, h2⟩ := h
  exact ⟨c, h1, fun i hi => by rw [← e i hi]; exact h2 i hi⟩

theorem units_lt (s : ByteArray) : ∀ f i p, p ∈ unitsF s f i → p.1 < s.size
  | 0, _, p, h => by simp [unitsF] at h
  | f + 1, i, p, h => by
    rw [unitsF] at h
    split at h
    · rcases List.mem_cons.1 h with h | h
      · subst h; assumption
      · exact units_lt s f _ p h
    · simp at h

/-- Which places are marked once the units pre have been gone through. -/
def pcs (s : ByteArray) (pre : List (Nat × Nat)) (i : Nat) : Bool := (pre.map fun p => p.1).contains i || (i == s.size || i == 0)
theorem pcs_snoc (s : ByteArray) (pre : List (Nat × Nat)) (p : Nat × Nat) (i : Nat) : pcs s (pre ++ [p]) i = (pcs s pre i || i == p.1) := by
  unfold pcs
  rw [List.map_append, List.map_cons, List.map_nil, Bool.eq_iff_iff]
  simp
  constructor
  · rintro ((h | h) | h)
    · exact .inl (.inl h)
    · exact .inr h
    · exact .inl (.inr h)
  · rintro ((h | h) | h)
    · exact .inl (.inl h)
    · exact .inr h
    · exact .inl (.inr h)

/-- The numbers of a text, as a list is read. -/
def numsI (s : ByteArray) : List Int := (nums s).map fun x : Nat => (x : Int)
theorem runeCells_I (s : ByteArray) : runeCells s = (numsI s).map fun x => .int .i32 x := by
  simp [runeCells, numsI, nums_units, List.map_map, Function.comp_def]
theorem numsI_len (s : ByteArray) : (numsI s).length = (units s).length := by simp [numsI, nums_units]
theorem mapI_inj : ∀ (a b : List Nat), (a.map fun x : Nat => (x : Int)) = b.map (fun x : Nat => (x : Int)) ↔ a = b
  | [], [] => by simp
  | [], _ :: _ => by simp
  | _ :: _, [] => by simp
  | x :: a, y :: b => by simp [mapI_inj a b, Int.ofNat_inj]
theorem cut_same (s : ByteArray) (a : Nat) (ha : a ≤ s.size) : decide (numsI (s.extract 0 a) ++ numsI (s.extract a s.size) = numsI s) = pcs s (units s) a := by
  have h := cut_iff s a ha
  rw [Bool.eq_iff_iff, decide_eq_true_iff]
  unfold numsI
  rw [← List.map_append, mapI_inj, h]
  unfold pcs
  simp
  constructor
  · rintro (h | h | h)
    · exact .inl h
    · exact .inr (.inr h)
    · exact .inr (.inl h)
  · rintro (h | h | h)
    · exact .inl h
    · exact .inr (.inr h)
    · exact .inr (.inl h)

/-- 'append(v, l2...)' of numbers. -/
theorem append_sl (W : World) (base : Nat) {v : Value} {n : Nat} {l : List Int} (hown : W.ownsRow base 21 1 v n (l.map fun x => .int .i32 x)) (g m c : Nat) (l2 : List Int) (hm : l2.length = m)
    (hc : ∀ i x, l2[i]? = some x → W.cell? ⟨g, i, none⟩ = some (.int .i32 x)) (hb : base ≤ W.heap.size) (h63 : n + m ≤ 35184372088832) :
    ∃ v' W', (∀ ty, (Builtin.append_ #[62, 62] ty #[v, .slice (some ⟨g, 0, none⟩) m c]).run Tryz.prog W = .ok v' W') ∧ W'.ownsRow base 21 1 v' (n + m) ((l ++ l2).map fun x => .int .i32 x) ∧
      Keep (fun b => v.ownBlock = some b) W W' := by
  obtain ⟨i, hi, hz, hs1, hb1⟩ := info_parts tinfo21
  obtain ⟨v', W', hrun, h1, h2, _⟩ := run_append_own (P := Tryz.prog) W base 62 0 21 i (.int .i32 0) 1 4 Tryz.underlying62 hi hz hs1 hb1 rfl (by omega) v n (l.map fun x => .int .i32 x) hown ⟨g, 0, none⟩ m c (l2.map fun x => .int .i32 x)
    (by simp [hm]) (fun j u hj => by
      simp only [List.getElem?_map, Option.map_eq_some_iff] at hj
      obtain ⟨x, hx, rfl⟩ := hj
      rw [Addr.add_lit]; simpa using hc j x hx) (by intro u hu; simp at hu; obtain ⟨x, _, rfl⟩ := hu; rfl) (by unfold maxLen; omega) (by omega) hb
  refine ⟨v', W', fun ty => hrun, ?_, keep_grown h2⟩
  rw [List.map_append]; exact h1
theorem own_base {Y : Nat → Prop} {e : TypeId} {size n base : Nat} {v : Value} {xs : List Value} {W : World} (h : OwnS Y e size v n xs W) (hY : ∀ b, Y b → base ≤ b) : W.ownsRow base e size v n xs := by
  obtain ⟨⟨hl, h2⟩, hY'⟩ := h
  refine ⟨hl, ?_⟩
  rcases h2 with h2 | ⟨g, cap, cur, rfl, hb, hg, rest⟩
  · exact .inl h2
  · exact .inr ⟨g, cap, cur, rfl, hY g (hY' g rfl), hg, rest⟩
theorem own_of_base {e : TypeId} {size n base : Nat} {v : Value} {xs : List Value} {W : World} (h : W.ownsRow base e size v n xs) : OwnS (fun b => base ≤ b) e size v n xs W := by
  obtain ⟨hl, h2⟩ := h
  refine ⟨⟨hl, ?_⟩, fun g hg => ?_⟩
  · rcases h2 with h2 | ⟨g, cap, cur, rfl, hb, hg, rest⟩
    · exact .inl h2
    · exact .inr ⟨g, cap, cur, rfl, Nat.zero_le _, hg, rest⟩
  · rcases h2 with ⟨h2, _⟩ | ⟨g', cap, cur, h2, hb, _⟩
    · rw [h2] at hg; cases hg
    · rw [h2] at hg; cases hg; exact hb
theorem _root_.Go.Kt.Keep.drewN {X : Nat → Prop} {A B : World} (h : Keep X A B) (j : Nat) : Keep X A (B.drewN j) := h.trans ⟨rfl, rfl, rfl, Nat.le_refl _, fun _ _ _ => rfl⟩
theorem Sl.drewN {k : IntKind} {W : World} {v : Value} {l : List Int} (h : Sl k W v l) (j : Nat) : Sl k (W.drewN j) v l := h

theorem make_bools (W : World) (n : Nat) (hn : n ≤ 2001) :
    (Instr.makeSlice 34 (.int .i64 (n : Int)) (.int .i64 (n : Int))).run Tryz.prog W = .ok (.slice (some ⟨W.heap.size, 0, none⟩) n n) (W.alloc (.cells (madeCells #[.bool false] n) 4)) := by
  obtain ⟨i, hi, hz, hs1, hb1⟩ := info_parts tinfo4
  have := run_makeSlice W 34 4 i (.bool false) Tryz.underlying34 hi hz .i64 .i64 (n : Int) (n : Int) (by omega) (Int.le_refl _) (by rw [hs1]; omega) (by rw [hb1]; omega) (by omega)
  rw [hs1] at this
  simpa [Value.cells] using this

end Go.Proofs.YthhepebkfokddaaGreatDoor
/- The document's text of numbers. -/
namespace Go.Proofs.YthhepebkfokddaaGreatDoor
open Go Go.RowKit Go.Kt Go.Shelf

theorem conv1 (W : World) (x : Int) (hx : 0 ≤ x) (hx' : x < 256) :
    (convert 203 9 (.slice (some ⟨W.heap.size, 0, none⟩) 1 1)).run Tryz.prog (W.alloc (.cells #[.int .u8 x] 5)) = .ok (.string ⟨#[UInt8.ofNat x.toNat]⟩) (W.alloc (.cells #[.int .u8 x] 5)) := by
  have := run_convert_bytes_back (P := Tryz.prog) (W.alloc (.cells #[.int .u8 x] 5)) 203 9 5 ⟨W.heap.size, 0, none⟩ 1 [UInt8.ofNat x.toNat] Tryz.underlying203 Tryz.underlying5 Tryz.underlying9 (fun j hj => by
    simp at hj; subst hj
    rw [Addr.add_lit, Lib.cell_of_heap (World.alloc_heap_new W _)]
    simp; omega)
  simpa using this
theorem conv2 (W : World) (x y : Int) (hx : 0 ≤ x) (hx' : x < 256) (hy : 0 ≤ y) (hy' : y < 256) :
    (convert 203 9 (.slice (some ⟨W.heap.size, 0, none⟩) 2 2)).run Tryz.prog (W.alloc (.cells #[.int .u8 x, .int .u8 y] 5)) = .ok (.string ⟨#[UInt8.ofNat x.toNat, UInt8.ofNat y.toNat]⟩) (W.alloc (.cells #[.int .u8 x, .int .u8 y] 5)) := by
  have := run_convert_bytes_back (P := Tryz.prog) (W.alloc (.cells #[.int .u8 x, .int .u8 y] 5)) 203 9 5 ⟨W.heap.size, 0, none⟩ 2 [UInt8.ofNat x.toNat, UInt8.ofNat y.toNat] Tryz.underlying203 Tryz.underlying5 Tryz.underlying9 (fun j hj => by
    simp at hj
    rw [Addr.add_lit, Lib.cell_of_heap (World.alloc_heap_new W _)]
    rcases (by omega : j = 0 ∨ j = 1) with rfl | rfl <;> simp <;> omega)
  simpa using this
theorem conv3 (W : World) (x y z : Int) (hx : 0 ≤ x) (hx' : x < 256) (hy : 0 ≤ y) (hy' : y < 256) (hz : 0 ≤ z) (hz' : z < 256) :
    (convert 203 9 (.slice (some ⟨W.heap.size, 0, none⟩) 3 3)).run Tryz.prog (W.alloc (.cells #[.int .u8 x, .int .u8 y, .int .u8 z] 5)) = .ok (.string ⟨#[UInt8.ofNat x.toNat, UInt8.ofNat y.toNat, UInt8.ofNat z.toNat]⟩) (W.alloc (.cells #[.int .u8 x, .int .u8 y, .int .u8 z] 5)) := by
  have := run_convert_bytes_back (P := Tryz.prog) (W.alloc (.cells #[.int .u8 x, .int .u8 y, .int .u8 z] 5)) 203 9 5 ⟨W.heap.size, 0, none⟩ 3 [UInt8.ofNat x.toNat, UInt8.ofNat y.toNat, UInt8.ofNat z.toNat] Tryz.underlying203 Tryz.underlying5 Tryz.underlying9 (fun j hj => by
    simp at hj
    rw [Addr.add_lit, Lib.cell_of_heap (World.alloc_heap_new W _)]
    rcases (by omega : j = 0 ∨ j = 1 ∨ j = 2) with rfl | rfl | rfl <;> simp <;> omega)
  simpa using this
theorem conv4 (W : World) (x y z u : Int) (hx : 0 ≤ x) (hx' : x < 256) (hy : 0 ≤ y) (hy' : y < 256) (hz : 0 ≤ z) (hz' : z < 256) (hu : 0 ≤ u) (hu' : u < 256) :
    (convert 203 9 (.slice (some ⟨W.heap.size, 0, none⟩) 4 4)).run Tryz.prog (W.alloc (.cells #[.int .u8 x, .int .u8 y, .int .u8 z, .int .u8 u] 5)) = .ok (.string ⟨#[UInt8.ofNat x.toNat, UInt8.ofNat y.toNat, UInt8.ofNat z.toNat, UInt8.ofNat u.toNat]⟩) (W.alloc (.cells #[.int .u8 x, .int .u8 y, .int .u8 z, .int .u8 u] 5)) := by
  have := run_convert_bytes_back (P := Tryz.prog) (W.alloc (.cells #[.int .u8 x, .int .u8 y, .int .u8 z, .int .u8 u] 5)) 203 9 5 ⟨W.heap.size, 0, none⟩ 4 [UInt8.ofNat x.toNat, UInt8.ofNat y.toNat, UInt8.ofNat z.toNat, UInt8.ofNat u.toNat] Tryz.underlying203 Tryz.underlying5 Tryz.underlying9 (fun j hj => by
    simp at hj
    rw [Addr.add_lit, Lib.cell_of_heap (World.alloc_heap_new W _)]
    rcases (by omega : j = 0 ∨ j = 1 ∨ j = 2 ∨ j = 3) with rfl | rfl | rfl | rfl <;> simp <;> omega)
  simpa using this

/-- The bytes of a character's number. -/
def encC (c : Int) : ByteArray :=
  if c < 128 then ⟨#[UInt8.ofNat c.toNat]⟩
  else if c < 2048 then ⟨#[UInt8.ofNat (192 + c / 64).toNat, UInt8.ofNat (128 + c % 64).toNat]⟩
  else if c < 65536 then ⟨#[UInt8.ofNat (224 + c / 4096).toNat, UInt8.ofNat (128 + c / 64 % 64).toNat, UInt8.ofNat (128 + c % 64).toNat]⟩
  else ⟨#[UInt8.ofNat (240 + c / 262144).toNat, UInt8.ofNat (128 + c / 4096 % 64).toNat, UInt8.ofNat (128 + c / 64 % 64).toNat, UInt8.ofNat (128 + c % 64).toNat]⟩
theorem encode_C (r : Int) : Utf8.encode r = encC (if Utf8.valid r then r else 65533) := by
  unfold Utf8.encode encC
  have hr : Utf8.valid r = true → 0 ≤ r ∧ r ≤ 1114111 := by unfold Utf8.valid; simp; omega
  by_cases h : Utf8.valid r = true
  · obtain ⟨h0, h1⟩ := hr h
    obtain ⟨c, rfl⟩ := Int.eq_ofNat_of_zero_le h0
    simp only [h, if_true, Int.toNat_natCast]
    by_cases a1 : c < 128
    · rw [if_pos a1, if_pos (show (c : Int) < 128 by omega)]
    · rw [if_neg a1, if_neg (show ¬ (c : Int) < 128 by omega)]
      by_cases a2 : c < 2048
      · rw [if_pos a2, if_pos (show (c : Int) < 2048 by omega)]
        congr 5
      · rw [if_neg a2, if_neg (show ¬ (c : Int) < 2048 by omega)]
        by_cases a3 : c < 65536
        · rw [if_pos a3, if_pos (show (c : Int) < 65536 by omega)]
          congr 5
        · rw [if_neg a3, if_neg (show ¬ (c : Int) < 65536 by omega)]
          congr 5
  · simp only [h, if_false, Bool.false_eq_true]
    rfl

end Go.Proofs.YthhepebkfokddaaGreatDoor
/- What is read and made again: the bytes of a character; the text of a text's numbers; mended texts. -/
namespace Go.Proofs.YthhepebkfokddaaGreatDoor
open Go

/-- The bytes of s from i on, up to j. -/
def seg (s : ByteArray) (i j : Nat) : List UInt8 := (s.extract i j).data.toList
theorem seg_eq (s : ByteArray) (i j : Nat) : seg s i j = (s.data.toList.take j).drop i := by
  simp [seg, List.drop_take]
theorem seg_len (s : ByteArray) (i j : Nat) (_h : i ≤ j) (hj : j ≤ s.size) : (seg s i j).length = j - i := by
  have : s.data.toList.length = s.size := by simp
  rw [seg_eq]; simp; omega
theorem seg_app (s : ByteArray) (i j k : Nat) (h1 : i ≤ j) (h2 : j ≤ k) : seg s i j ++ seg s j k = seg s i k := by
  simp only [seg_eq]
  rw [← List.take_append_drop (j - i) ((s.data.toList.take k).drop i), List.drop_drop, List.take_drop, Nat.add_sub_cancel' h1, List.take_take, Nat.min_eq_left h2]
theorem seg_self (s : ByteArray) (i : Nat) : seg s i i = [] := by
  rw [seg_eq]; apply List.drop_eq_nil_of_le; simp; omega
theorem seg_all (s : ByteArray) : seg s 0 s.size = s.data.toList := by
  have : s.data.toList.length = s.size := by simp
  rw [seg_eq, List.drop_zero, List.take_of_length_le (by omega)]
theorem seg_range (s : ByteArray) (i w : Nat) (h : i + w ≤ s.size) : seg s i (i + w) = (List.range w).map fun j => UInt8.ofNat (B s (i + j)) := by
  have hl : s.data.toList.length = s.size := by simp
  apply List.ext_getElem?
  intro j
  rw [seg_eq, List.getElem?_drop, List.getElem?_take, List.getElem?_map]
  by_cases hj : j < w
  · rw [if_pos (by omega), List.getElem?_range hj]
    have hlt : i + j < s.data.toList.length := by omega
    unfold B
    rw [Option.map_some, List.getD_eq_getElem?_getD, List.getElem?_eq_getElem hlt]
    simp
  · rw [if_neg (by omega), List.getElem?_eq_none (by simpa using hj)]
    rfl

/-- A character's own bytes. -/
theorem encode_decode (s : ByteArray) (i w : Nat) (hi : i < s.size) (hw1 : 1 ≤ w) (hw4 : w ≤ 4) (h : wideI s i = w) : (Utf8.encode (Utf8.decode s i).1).data.toList = seg s i (i + w) ∧ Utf8.valid (Utf8.decode s i).1 = true := by
  obtain ⟨hs, hc⟩ := (wide_iff s i w hi hw1 hw4).1 h
  have hd : ((Utf8.decode s i).1 : Int) = numT w (B s i) (B s (i + 1)) (B s (i + 2)) (B s (i + 3)) := by
    rcases unit_at s i hi with ⟨q, _⟩ | ⟨u, _, _, _, e1, _, e3⟩
    · omega
    · obtain rfl : u = w := by omega
      exact e3
  rw [seg_range s i w hs]
  have b0 := B_lt s i
  have b1 := B_lt s (i + 1)
  have b2 := B_lt s (i + 2)
  have b3 := B_lt s (i + 3)
  generalize (Utf8.decode s i).1 = c at hd
  have hv : Utf8.valid c = true := by
    unfold numT at hd
    simp only [Utf8.valid, Bool.or_eq_true, Bool.and_eq_true, decide_eq_true_iff]
    rcases hc with ⟨rfl, h1⟩ | ⟨rfl, h1⟩ | ⟨rfl, h1⟩ | ⟨rfl, h1⟩
    · simp at hd; omega
    · simp at hd; omega
    · simp at hd; omega
    · simp at hd; omega
  refine ⟨?_, hv⟩
  rw [encode_C, if_pos hv]
  unfold encC
  unfold numT at hd
  rcases hc with ⟨rfl, h1⟩ | ⟨rfl, h1⟩ | ⟨rfl, h1⟩ | ⟨rfl, h1⟩
  · simp at hd
    rw [if_pos (by omega)]
    simp [List.range_succ]
    rw [show (c : Nat) = B s i by omega]
  · simp at hd
    rw [if_neg (by omega), if_pos (by omega)]
    simp [List.range_succ]
    exact ⟨by rw [show (192 + (c : Int) / 64).toNat = B s i by omega], by rw [show (128 + (c : Int) % 64).toNat = B s (i + 1) by omega]⟩
  · simp at hd
    rw [if_neg (by omega), if_neg (by omega), if_pos (by omega)]
    simp [List.range_succ]
    exact ⟨by rw [show (224 + (c : Int) / 4096).toNat = B s i by omega], by rw [show (128 + (c : Int) / 64 % 64).toNat = B s (i + 1) by omega], by rw [show (128 + (c : Int) % 64).toNat = B s (i + 2) by omega]⟩
  · simp at hd
    rw [if_neg (by omega), if_neg (by omega), if_neg (by omega)]
    simp [List.range_succ]
    exact ⟨by rw [show (240 + (c : Int) / 262144).toNat = B s i by omega], by rw [show (128 + (c : Int) / 4096 % 64).toNat = B s (i + 1) by omega], by rw [show (128 + (c : Int) / 64 % 64).toNat = B s (i + 2) by omega], by rw [show (128 + (c : Int) % 64).toNat = B s (i + 3) by omega]⟩

/-- The text of the numbers from i on. -/
def fixF (s : ByteArray) : Nat → Nat → List UInt8
  | 0, _ => []
  | f + 1, i => if i < s.size then (Utf8.encode (Utf8.decode s i).1).data.toList ++ fixF s f (i + (Utf8.decode s i).2) else []
def fffd : List UInt8 := [239, 191, 189]
theorem enc_fffd : (Utf8.encode (65533 : Nat)).data.toList = fffd := by kernel_rfl
theorem runesBytes_cons (x : Int) (l : List Int) : runesBytes (x :: l) = Utf8.encode x ++ runesBytes l := by
  have : ∀ (l : List Int) (a : ByteArray), l.foldl (fun r n => r ++ Utf8.encode n) a = a ++ l.foldl (fun r n => r ++ Utf8.encode n) ByteArray.empty := by
    intro l
    induction l with
    | nil => intro a; simp
    | cons x l ih => intro a; simp only [List.foldl_cons]; rw [ih, ih (ByteArray.empty ++ _)]; simp [ByteArray.append_assoc]
  unfold runesBytes
  rw [List.foldl_cons, this]
  simp
theorem fix_runes (s : ByteArray) : ∀ f i, (runesBytes ((numsF s f i).map fun x : Nat => (x : Int))).data.toList = fixF s f i
  | 0, i => rfl
  | f + 1, i => by
    rcases Nat.lt_or_ge i s.size with hi | hi
    · rw [numsF_in s f i hi, List.map_cons, runesBytes_cons, fixF, if_pos hi, ← fix_runes s f]
      simp
    · rw [numsF_end s _ i hi, fixF, if_neg (by omega)]; rfl

theorem ill_iff (s : ByteArray) (i : Nat) : illB s i = true ↔ wideI s i = 0 := by simp [illB]
/-- A unit: a character, or an ill-formed byte. -/
theorem unit_cases (s : ByteArray) (i : Nat) (hi : i < s.size) :
    (illB s i = true ∧ wideI s i = 0 ∧ Utf8.decode s i = (65533, 1)) ∨ (∃ w : Nat, 1 ≤ w ∧ w ≤ 4 ∧ i + w ≤ s.size ∧ illB s i = false ∧ wideI s i = w ∧ (Utf8.decode s i).2 = w ∧ (Utf8.encode (Utf8.decode s i).1).data.toList = seg s i (i + w) ∧ Utf8.valid (Utf8.decode s i).1 = true) := by
  rcases decode_wide s i hi with ⟨h1, h2⟩ | ⟨w, h1, h4, h5, h6, h7⟩
  · exact .inl ⟨(ill_iff s i).2 h1, h1, h2⟩
  · refine .inr ⟨w, h1, h4, h5, ?_, h6, h7, (encode_decode s i w hi h1 h4 h6).1, (encode_decode s i w hi h1 h4 h6).2⟩
    cases hb : illB s i
    · rfl
    · have := (ill_iff s i).1 hb; omega
/-- The text of the numbers is the text just where nothing is ill-formed. -/
theorem fix_len (s : ByteArray) : ∀ f i, s.size ≤ f + i → i ≤ s.size → (okF s f i = true ∧ fixF s f i = seg s i s.size) ∨ (okF s f i = false ∧ s.size - i < (fixF s f i).length)
  | 0, i, hf, h => by
    obtain rfl : i = s.size := by omega
    exact .inl ⟨rfl, (seg_self s s.size).symm⟩
  | f + 1, i, hf, h => by
    rcases Nat.lt_or_ge i s.size with hi | hi
    · rw [okF, if_pos hi, fixF, if_pos hi]
      rcases unit_cases s i hi with ⟨h1, _, h3⟩ | ⟨w, h1, h4, h5, h6, _, h7, h8, _⟩
      · refine .inr ⟨by rw [if_pos h1], ?_⟩
        rw [h3]
        simp only [List.length_append]
        rw [enc_fffd]
        have hfl : fffd.length = 3 := rfl
        rcases fix_len s f (i + 1) (by omega) (by omega) with ⟨_, h⟩ | ⟨_, h⟩
        · rw [h, seg_len s _ _ (by omega) (Nat.le_refl _)]; omega
        · omega
      · rw [h6, h7, h8]
        simp only [Bool.false_eq_true, if_false]
        rcases fix_len s f (i + w) (by omega) (by omega) with ⟨ho, h⟩ | ⟨ho, h⟩
        · exact .inl ⟨ho, by rw [h, seg_app s i _ _ (by omega) h5]⟩
        · refine .inr ⟨ho, ?_⟩
          rw [List.length_append, seg_len s i (i + w) (by omega) h5]; omega
    · obtain rfl : i = s.size := by omega
      refine .inl ⟨by rw [okF, if_neg (by omega)], by rw [fixF, if_neg (by omega), seg_self]⟩
theorem text_runes (s : ByteArray) : (runesBytes (numsI s)).data.toList = fixF s s.size 0 := fix_runes s s.size 0
theorem back_iff (s : ByteArray) : runesBytes (numsI s) = s ↔ okB s = true := by
  have ht := text_runes s
  have hl : s.data.toList.length = s.size := by simp
  rcases fix_len s s.size 0 (by omega) (by omega) with ⟨h1, h2⟩ | ⟨h1, h2⟩
  · unfold okB
    rw [h1]
    rw [h2, seg_all] at ht
    refine ⟨fun _ => rfl, fun _ => ?_⟩
    apply ByteArray.ext
    exact Array.ext' ht
  · unfold okB
    rw [h1]
    refine ⟨fun h => ?_, fun h => by cases h⟩
    rw [h] at ht
    rw [← ht] at h2; omega
end Go.Proofs.YthhepebkfokddaaGreatDoor
/- Mended texts: how long they are; that they are right; U+FFFD byte by byte. -/
namespace Go.Proofs.YthhepebkfokddaaGreatDoor
open Go

def mendR (s by' : ByteArray) (whole : Bool) : Nat → Nat → List UInt8
  | 0, _ => []
  | f + 1, i => if i < s.size then (if wideI s i = 0 then rep by'.data.toList (if whole then 1 else badK s i) ++ mendR s by' whole f (i + badK s i) else seg s i (i + (wideI s i).toNat) ++ mendR s by' whole f (i + (wideI s i).toNat)) else []
theorem badsF_step (s : ByteArray) (f i : Nat) (hi : i < s.size) : badsF s (f + 1) i = if wideI s i = 0 then (i, badK s i) :: badsF s f (i + badK s i) else badsF s f (i + (wideI s i).toNat) := by simp only [badsF]; rw [if_pos hi]
theorem badsF_end (s : ByteArray) (f i : Nat) (hi : s.size ≤ i) : badsF s f i = [] := by
  cases f with
  | zero => rfl
  | succ f => rw [badsF, if_neg (by omega)]
theorem mendR_end (s by' : ByteArray) (whole : Bool) (f i : Nat) (hi : s.size ≤ i) : mendR s by' whole f i = [] := by
  cases f with
  | zero => rfl
  | succ f => rw [mendR, if_neg (by omega)]

theorem mend_fold (s by' : ByteArray) (whole : Bool) : ∀ f i acc e, e ≤ i → i ≤ s.size → s.size ≤ f + i →
    ((badsF s f i).foldl (mendStep s by' whole) (acc, e)).1 ++ seg s ((badsF s f i).foldl (mendStep s by' whole) (acc, e)).2 s.size = acc ++ seg s e i ++ mendR s by' whole f i
  | 0, i, acc, e, he, hi, hf => by
    obtain rfl : i = s.size := by omega
    simp [badsF, mendR]
  | f + 1, i, acc, e, he, hi, hf => by
    rcases Nat.lt_or_ge i s.size with hlt | hge
    · rw [badsF_step s f i hlt, mendR, if_pos hlt]
      obtain ⟨k1, k2, _⟩ := badK_bd s i hlt
      have wb := wideI_bd s i hlt
      by_cases hw : wideI s i = 0
      · rw [if_pos hw, if_pos hw, List.foldl_cons]
        have := mend_fold s by' whole f (i + badK s i) (acc ++ seg s e i ++ rep by'.data.toList (if whole then 1 else badK s i)) (i + badK s i) (Nat.le_refl _) k2 (by omega)
        show (List.foldl (mendStep s by' whole) (mendStep s by' whole (acc, e) (i, badK s i)) _).1 ++ seg s (List.foldl (mendStep s by' whole) (mendStep s by' whole (acc, e) (i, badK s i)) _).2 s.size = _
        have e1 : mendStep s by' whole (acc, e) (i, badK s i) = (acc ++ seg s e i ++ rep by'.data.toList (if whole then 1 else badK s i), i + badK s i) := rfl
        rw [e1, this, seg_self]
        simp [List.append_assoc]
      · rw [if_neg hw, if_neg hw]
        rw [mend_fold s by' whole f _ acc e (by omega) (by omega) (by omega), ← seg_app s e i (i + (wideI s i).toNat) he (by omega)]
        simp [List.append_assoc]
    · obtain rfl : i = s.size := by omega
      rw [badsF_end s _ _ (Nat.le_refl _), mendR_end s by' whole _ _ (Nat.le_refl _)]
      simp
theorem mendL_R (s by' : ByteArray) (whole : Bool) : mendL s by' whole = mendR s by' whole s.size 0 := by
  have := mend_fold s by' whole s.size 0 [] 0 (Nat.le_refl _) (Nat.zero_le _) (by omega)
  rw [seg_self] at this
  exact this

def sumK (l : List (Nat × Nat)) : Nat := (l.map (·.2)).sum
theorem sumK_cons (p : Nat × Nat) (l : List (Nat × Nat)) : sumK (p :: l) = p.2 + sumK l := by simp [sumK]
theorem sumK_snoc (l : List (Nat × Nat)) (p : Nat × Nat) : sumK (l ++ [p]) = sumK l + p.2 := by simp [sumK]
theorem mend_len (s by' : ByteArray) : ∀ f i, i ≤ s.size → s.size ≤ f + i →
    (mendR s by' true f i).length + sumK (badsF s f i) = (s.size - i) + (badsF s f i).length * by'.size ∧
    (mendR s by' false f i).length + sumK (badsF s f i) = (s.size - i) + sumK (badsF s f i) * by'.size ∧ sumK (badsF s f i) ≤ s.size - i
  | 0, i, hi, hf => by
    obtain rfl : i = s.size := by omega
    simp [badsF, mendR, sumK]
  | f + 1, i, hi, hf => by
    rcases Nat.lt_or_ge i s.size with hlt | hge
    · rw [badsF_step s f i hlt, mendR, mendR, if_pos hlt, if_pos hlt]
      obtain ⟨k1, k2, _⟩ := badK_bd s i hlt
      have wb := wideI_bd s i hlt
      have hb : by'.data.toList.length = by'.size := by simp
      by_cases hw : wideI s i = 0
      · rw [if_pos hw, if_pos hw, if_pos hw]
        obtain ⟨h1, h2, h3⟩ := mend_len s by' f (i + badK s i) k2 (by omega)
        simp only [List.length_append, rep_len, hb, sumK_cons, List.length_cons, if_true, Bool.false_eq_true, if_false]
        refine ⟨?_, ?_, by omega⟩
        · rw [Nat.add_mul, Nat.one_mul]; omega
        · rw [Nat.add_mul]; omega
      · rw [if_neg hw, if_neg hw, if_neg hw]
        obtain ⟨h1, h2, h3⟩ := mend_len s by' f (i + (wideI s i).toNat) (by omega) (by omega)
        simp only [List.length_append]
        rw [seg_len s i _ (by omega) (by omega)]
        refine ⟨by omega, by omega, by omega⟩
    · obtain rfl : i = s.size := by omega
      rw [badsF_end s _ _ (Nat.le_refl _), mendR_end s by' _ _ _ (Nat.le_refl _), mendR_end s by' _ _ _ (Nat.le_refl _)]
      simp [sumK]

theorem bads_ok (s : ByteArray) : ∀ f i, (badsF s f i = [] ↔ okF s f i = true)
  | 0, i => by simp [badsF, okF]
  | f + 1, i => by
    rcases Nat.lt_or_ge i s.size with hlt | hge
    · rw [badsF_step s f i hlt, okF, if_pos hlt]
      rcases unit_cases s i hlt with ⟨h1, h2, h3⟩ | ⟨w, h1, h4, h5, h6, h7, h8, _, _⟩
      · rw [if_pos h2, if_pos h1]; simp
      · rw [h6, if_neg (by omega)]
        simp only [Bool.false_eq_true, if_false]
        rw [h8, h7, Int.toNat_natCast]
        exact bads_ok s f (i + w)
    · rw [badsF_end s _ _ hge, okF, if_neg (by omega)]; simp
theorem mend_ok (s by' : ByteArray) (whole : Bool) : ∀ f i, i ≤ s.size → s.size ≤ f + i → badsF s f i = [] → mendR s by' whole f i = seg s i s.size
  | 0, i, hi, hf, _ => by
    obtain rfl : i = s.size := by omega
    simp [mendR, seg_self]
  | f + 1, i, hi, hf, h => by
    rcases Nat.lt_or_ge i s.size with hlt | hge
    · rw [badsF_step s f i hlt] at h
      rw [mendR, if_pos hlt]
      have wb := wideI_bd s i hlt
      by_cases hw : wideI s i = 0
      · rw [if_pos hw] at h; cases h
      · rw [if_neg hw] at h ⊢
        rw [mend_ok s by' whole f _ (by omega) (by omega) h, seg_app s i _ _ (by omega) (by omega)]
    · obtain rfl : i = s.size := by omega
      rw [mendR_end s by' _ _ _ (Nat.le_refl _), seg_self]

/-- A row of ill-formed bytes. -/
theorem fix_run (s : ByteArray) : ∀ k g i, i + k ≤ s.size → (∀ q, i ≤ q → q < i + k → wideI s q = 0) → s.size ≤ g + i → ∃ g', s.size ≤ g' + (i + k) ∧ fixF s g i = rep fffd k ++ fixF s g' (i + k)
  | 0, g, i, _, _, hf => ⟨g, by omega, by simp [rep]⟩
  | k + 1, g, i, hk, hq, hf => by
    obtain ⟨g1, rfl⟩ : ∃ g1, g = g1 + 1 := ⟨g - 1, by omega⟩
    have e := decode_ill s i (by omega) (hq i (by omega) (by omega))
    obtain ⟨g', hg, hl⟩ := fix_run s k g1 (i + 1) (by omega) (fun q h1 h2 => hq q (by omega) (by omega)) (by omega)
    refine ⟨g', by omega, ?_⟩
    rw [fixF, if_pos (by omega), e]
    simp only
    rw [enc_fffd, hl, show i + 1 + k = i + (k + 1) by omega, ← List.append_assoc]
    congr 1
    have : ∀ k, fffd ++ rep fffd k = rep fffd (k + 1) := by
      intro k
      induction k with
      | zero => simp [rep]
      | succ k ih => rw [rep, ← List.append_assoc, ih]; rfl
    exact this k
theorem mend_fix (s by' : ByteArray) (hb : by'.data.toList = fffd) : ∀ f i g, i ≤ s.size → s.size ≤ f + i → s.size ≤ g + i → mendR s by' false f i = fixF s g i
  | 0, i, g, hi, hf, _ => by
    obtain rfl : i = s.size := by omega
    cases g with
    | zero => rfl
    | succ g => simp [mendR, fixF]
  | f + 1, i, g, hi, hf, hg => by
    rcases Nat.lt_or_ge i s.size with hlt | hge
    · rw [mendR, if_pos hlt]
      obtain ⟨k1, k2, _⟩ := badK_bd s i hlt
      rcases unit_cases s i hlt with ⟨h1, h2, h3⟩ | ⟨w, h1, h4, h5, h6, h7, h8, h9, _⟩
      · rw [if_pos h2]
        obtain ⟨g', hg', hl⟩ := fix_run s (badK s i) g i k2 (fun q h1 h2' => by
          rcases Nat.eq_or_lt_of_le h1 with e | e
          · subst e; exact h2
          · have := badK_cont s i (q - i) hlt (by omega) (by omega)
            rw [Nat.add_sub_cancel' h1] at this
            exact wide_cont s q this.1 this.2) hg
        rw [hl, hb, mend_fix s by' hb f _ g' k2 (by omega) hg']
        simp
      · rw [if_neg (by omega), h7, Int.toNat_natCast]
        obtain ⟨g1, rfl⟩ : ∃ g1, g = g1 + 1 := ⟨g - 1, by omega⟩
        rw [fixF, if_pos hlt, h8, h9, mend_fix s by' hb f (i + w) g1 h5 (by omega) (by omega)]
    · obtain rfl : i = s.size := by omega
      rw [mendR_end s by' _ _ _ (Nat.le_refl _)]
      cases g with
      | zero => rfl
      | succ g => simp [fixF]
end Go.Proofs.YthhepebkfokddaaGreatDoor
/- Texts that are right: made of characters; one behind the other; mended ones. -/
namespace Go.Proofs.YthhepebkfokddaaGreatDoor
open Go

/-- A byte of a list. -/
def bt (l : List UInt8) (i : Nat) : Nat := (l.getD i 0).toNat
/-- A character's bytes. -/
def Chr (c : List UInt8) : Prop := 1 ≤ c.length ∧ c.length ≤ 4 ∧ CharAt c.length (bt c 0) (bt c 1) (bt c 2) (bt c 3)
inductive Vd : List UInt8 → Prop
  | nil : Vd []
  | cons (c l : List UInt8) : Chr c → Vd l → Vd (c ++ l)
theorem Vd.append {a b : List UInt8} (ha : Vd a) (hb : Vd b) : Vd (a ++ b) := by
  induction ha with
  | nil => exact hb
  | cons c l hc _ ih => rw [List.append_assoc]; exact .cons c _ hc ih
theorem Vd.rep {a : List UInt8} (ha : Vd a) : ∀ n, Vd (rep a n)
  | 0 => .nil
  | n + 1 => (Vd.rep ha n).append ha

theorem bt_seg (s : ByteArray) (i w j : Nat) (h : i + w ≤ s.size) (hj : j < w) : bt (seg s i (i + w)) j = B s (i + j) := by
  unfold bt
  rw [seg_range s i w h, List.getD_eq_getElem?_getD, List.getElem?_map, List.getElem?_range hj]
  have := B_lt s (i + j)
  simp
  omega
theorem seg_chr (s : ByteArray) (i w : Nat) (hi : i < s.size) (h1 : 1 ≤ w) (h4 : w ≤ 4) (h : wideI s i = w) : Chr (seg s i (i + w)) := by
  obtain ⟨hs, hc⟩ := (wide_iff s i w hi h1 h4).1 h
  have hl := seg_len s i (i + w) (by omega) hs
  rw [Nat.add_sub_cancel_left] at hl
  refine ⟨by omega, by omega, ?_⟩
  rw [hl]
  exact char_congr (by rw [bt_seg s i w 0 hs (by omega)]; rfl) (fun h => (bt_seg s i w 1 hs h).symm) (fun h => (bt_seg s i w 2 hs h).symm) (fun h => (bt_seg s i w 3 hs h).symm) hc
theorem ok_vd (s : ByteArray) : ∀ f i, i ≤ s.size → s.size ≤ f + i → okF s f i = true → Vd (seg s i s.size)
  | 0, i, hi, hf, _ => by
    obtain rfl : i = s.size := by omega
    rw [seg_self]; exact .nil
  | f + 1, i, hi, hf, h => by
    rcases Nat.lt_or_ge i s.size with hlt | hge
    · rw [okF, if_pos hlt] at h
      rcases unit_cases s i hlt with ⟨h1, h2, h3⟩ | ⟨w, h1, h4, h5, h6, h7, h8, h9, _⟩
      · rw [if_pos h1] at h; cases h
      · rw [h6] at h
        simp only [Bool.false_eq_true, if_false] at h
        rw [h8] at h
        rw [← seg_app s i (i + w) s.size (by omega) h5]
        exact .cons _ _ (seg_chr s i w hlt h1 h4 h7) (ok_vd s f (i + w) h5 (by omega) h)
    · obtain rfl : i = s.size := by omega
      rw [seg_self]; exact .nil

theorem ill_dec (s : ByteArray) (i : Nat) (hi : i < s.size) : illB s i = decide (Utf8.decode s i = (65533, 1)) := by
  rcases unit_at s i hi with ⟨h1, h2⟩ | ⟨w, h1, h4, h5, h6, h7, h8⟩
  · rw [(ill_iff s i).2 h1, h2]; simp
  · have hn : illB s i = false := by
      cases hb : illB s i
      · rfl
      · have := (ill_iff s i).1 hb; omega
    rw [hn]
    symm
    rw [decide_eq_false_iff_not]
    intro e
    rw [e] at h7 h8
    simp only at h7 h8
    subst h7
    have hc := ((wide_iff s i 1 hi (by omega) (by omega)).1 h6).2
    unfold numT at h8
    rcases hc with ⟨_, h⟩ | ⟨h, _⟩ | ⟨h, _⟩ | ⟨h, _⟩
    · simp at h8; omega
    · cases h
    · cases h
    · cases h
theorem okF_fuel (s : ByteArray) : ∀ f g i, s.size ≤ f + i → s.size ≤ g + i → okF s f i = okF s g i
  | 0, g, i, h, _ => by
    cases g with
    | zero => rfl
    | succ g => rw [okF, okF, if_neg (by omega)]
  | f + 1, 0, i, _, h => by rw [okF, okF, if_neg (by omega)]
  | f + 1, g + 1, i, h, h' => by
    rcases Nat.lt_or_ge i s.size with hi | hi
    · have := dec_width s i hi
      rw [okF, okF, if_pos hi, if_pos hi, okF_fuel s f g _ (by omega) (by omega)]
    · rw [okF, okF, if_neg (by omega), if_neg (by omega)]
theorem okF_behind (s : ByteArray) (a : Nat) (ha : a ≤ s.size) : ∀ f j, okF (s.extract a s.size) f j = okF s f (a + j)
  | 0, _ => rfl
  | f + 1, j => by
    have hz := tail_size s a ha
    rcases Nat.lt_or_ge j (s.size - a) with hj | hj
    · rw [okF, okF, if_pos (show j < (s.extract a s.size).size by omega), if_pos (show a + j < s.size by omega), ill_dec (s.extract a s.size) j (by omega), ill_dec s (a + j) (by omega), decode_behind s a j ha, okF_behind s a ha f, Nat.add_assoc]
    · rw [okF, okF, if_neg (by omega), if_neg (by omega)]

theorem vd_ok {l : List UInt8} (h : Vd l) : okB ⟨l.toArray⟩ = true := by
  induction h with
  | nil => rfl
  | cons c l hc _ ih =>
    obtain ⟨h1, h4, hc⟩ := hc
    obtain ⟨s, hs⟩ : ∃ s : ByteArray, s = ⟨(c ++ l).toArray⟩ := ⟨_, rfl⟩
    rw [← hs]
    have hd : s.data.toList = c ++ l := by rw [hs]
    have hsz : s.size = c.length + l.length := by
      have : s.data.toList.length = s.size := by simp
      rw [← this, hd, List.length_append]
    have hB : ∀ j, j < c.length → bt c j = B s (0 + j) := fun j hj => by
      unfold bt B
      rw [hd, Nat.zero_add, List.getD_eq_getElem?_getD, List.getD_eq_getElem?_getD, List.getElem?_append_left hj]
    have hwide : wideI s 0 = c.length := (wide_iff s 0 c.length (by omega) h1 h4).2 ⟨by omega, char_congr (hB 0 (by omega)) (fun h => hB 1 h) (fun h => hB 2 h) (fun h => hB 3 h) hc⟩
    have hex : s.extract c.length s.size = ⟨l.toArray⟩ := by
      apply ByteArray.ext
      apply Array.ext'
      show seg s c.length s.size = l
      rw [seg_eq, hd, List.take_of_length_le (by rw [List.length_append]; omega), List.drop_left]
    unfold okB
    rw [hsz]
    obtain ⟨f, hf⟩ : ∃ f, c.length + l.length = f + 1 := ⟨c.length + l.length - 1, by omega⟩
    rw [hf, okF, if_pos (by omega)]
    rcases unit_cases s 0 (by omega) with ⟨_, h, _⟩ | ⟨w, _, _, _, h6, h7, h8, _, _⟩
    · omega
    · obtain rfl : w = c.length := by omega
      rw [h6, h8]
      simp only [Bool.false_eq_true, if_false]
      have hb := okF_behind s c.length (by omega) f 0
      rw [Nat.add_zero] at hb
      rw [Nat.zero_add, ← hb, hex]
      have : (⟨l.toArray⟩ : ByteArray).size = l.length := by show l.toArray.size = _; simp
      rw [okF_fuel _ f (⟨l.toArray⟩ : ByteArray).size 0 (by omega) (by omega)]
      exact ih

/-- What is mended by what is right is right. -/
theorem mend_vd (s by' : ByteArray) (whole : Bool) (hb : Vd by'.data.toList) : ∀ f i, i ≤ s.size → Vd (mendR s by' whole f i)
  | 0, _, _ => .nil
  | f + 1, i, hi => by
    rcases Nat.lt_or_ge i s.size with hlt | hge
    · rw [mendR, if_pos hlt]
      obtain ⟨k1, k2, _⟩ := badK_bd s i hlt
      rcases unit_cases s i hlt with ⟨h1, h2, h3⟩ | ⟨w, h1, h4, h5, h6, h7, h8, h9, _⟩
      · rw [if_pos h2]
        exact (hb.rep _).append (mend_vd s by' whole hb f _ k2)
      · rw [if_neg (by omega), h7, Int.toNat_natCast]
        exact .cons _ _ (seg_chr s i w hlt h1 h4 h7) (mend_vd s by' whole hb f _ h5)
    · rw [mendR_end s by' _ _ _ hge]; exact .nil
theorem mended_ok (s by' : ByteArray) (whole : Bool) (hb : okB by' = true) : okB ⟨(mendL s by' whole).toArray⟩ = true := by
  have := ok_vd by' by'.size 0 (Nat.zero_le _) (by omega) hb
  rw [seg_all] at this
  rw [mendL_R]
  exact vd_ok (mend_vd s by' whole this s.size 0 (Nat.zero_le _))
/-- What is right stays. -/
theorem mended_same (s by' : ByteArray) (whole : Bool) (h : okB s = true) : (⟨(mendL s by' whole).toArray⟩ : ByteArray) = s := by
  have hb := (bads_ok s s.size 0).2 h
  rw [mendL_R, mend_ok s by' whole s.size 0 (Nat.zero_le _) (by omega) hb, seg_all]
/-- U+FFFD in the place of each ill-formed byte: what Go's own conversions make. -/
theorem mended_fffd (s : ByteArray) : (⟨(mendL s ⟨#[239, 191, 189]⟩ false).toArray⟩ : ByteArray) = runesBytes (numsI s) := by
  rw [mendL_R, mend_fix s ⟨#[239, 191, 189]⟩ rfl s.size 0 s.size (Nat.zero_le _) (by omega) (by omega), ← text_runes]
theorem mended_len (s by' : ByteArray) : (mendL s by' true).length + sumK (bads s) = s.size + (bads s).length * by'.size ∧ (mendL s by' false).length + sumK (bads s) = s.size + sumK (bads s) * by'.size ∧ sumK (bads s) ≤ s.size := by
  have := mend_len s by' s.size 0 (Nat.zero_le _) (by omega)
  rw [mendL_R, mendL_R]
  unfold bads
  simpa using this
end Go.Proofs.YthhepebkfokddaaGreatDoor
