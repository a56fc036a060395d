/- Parts of the proof of what the last text says. -/
import Derived.Test.YtbnnhbmnddaafaaGreatDoorGz11
import Derived.Test.YtbnnhbmnddaafaaGreatDoorGz1
import Derived.LaidHandle
import Derived.Test.YtbnnhbmnddaafaaGreatDoorGz3
import Derived.Test.YtbnnhbmnddaafaaGreatDoorGz8
/- What the scanner's step leaves as it was; the scanner's token in any state. -/
namespace Go.Proofs.YtbnnhbmnddaafaaGreatDoor
open Go Go.RowKit Go.Kt Go.Shelf Go.Lib

theorem unitL_len (s : ByteArray) (i : Nat) (hi : i ≤ s.size) : (unitL s i).length ≤ 4 := by
  unfold unitL
  rw [← Lib.size_eq, ByteArray.size_extract]
  have := unitW_bd s i hi
  omega
section
variable {s : ByteArray} {c c' : Sc} {r : Int}
theorem plainS_ok (h92 : r = 92 → c.here.2.2 < s.size) (hi : c.here.2.2 ≤ s.size) (h : plainS s c r = .took c') : c'.here = c.here ∧ c'.from = c.from ∧ c'.toks = c.toks ∧ c'.text.length ≤ c.text.length + 4 := by
  unfold plainS at h
  split at h
  · cases h; exact ⟨rfl, rfl, rfl, by simp⟩
  · split at h
    · rename_i h39 h92'
      split at h
      · cases h
      · rename_i t k hu
        cases h
        have hz : (s.extract c.here.2.2 s.size).size = s.size - c.here.2.2 := by rw [ByteArray.size_extract]; omega
        have := unesc_bd (by have := h92 h92'; omega) hu
        exact ⟨rfl, rfl, rfl, by simp only [List.length_append]; omega⟩
    · split at h
      · cases h
      · split at h
        · cases h
        · cases h
          have := unitL_len s c.here.2.2 hi
          exact ⟨rfl, rfl, rfl, by simp only [List.length_append]; omega⟩
theorem pieceS_ok (h92 : r = 92 → c.here.2.2 < s.size) (hi : c.here.2.2 ≤ s.size) (h : pieceS s c r = .took c') : c'.here = c.here ∧ c'.from = c.from ∧ c'.toks = c.toks ∧ c'.text.length ≤ c.text.length + 4 := by
  unfold pieceS at h
  split at h
  · unfold quotedS at h
    split at h
    · cases h; exact ⟨rfl, rfl, rfl, by simp⟩
    · cases h
      have := unitL_len s c.here.2.2 hi
      exact ⟨rfl, rfl, rfl, by simp only [List.length_append]; omega⟩
  · split at h
    · unfold closingS at h
      split at h
      · cases h; exact ⟨rfl, rfl, rfl, by simp⟩
      · exact plainS_ok h92 hi h
    · split at h
      · unfold escapeS at h
        split at h
        · exact plainS_ok h92 hi h
        · cases h; exact ⟨rfl, rfl, rfl, by simp⟩
      · exact plainS_ok h92 hi h
theorem betweenS_ok (h92 : r = 92 → c.here.2.2 < s.size) (hi : c.here.2.2 ≤ s.size) (h : betweenS s c r = .ok c') : c'.here = c.here ∧ c'.from = c.here ∧ c'.toks = c.toks ∧ c'.text.length ≤ c.text.length + 4 := by
  unfold betweenS at h
  repeat' split at h
  all_goals first | (cases h; done) | (cases h; exact ⟨rfl, rfl, rfl, by simp⟩) | skip
  cases hp : plainS s { c with st := 4, «from» := c.here, text := [] } r with
  | took c2 =>
    rw [hp] at h
    cases h
    obtain ⟨a1, a2, a3, a4⟩ := plainS_ok (c := { c with st := 4, «from» := c.here, text := [] }) h92 hi hp
    exact ⟨a1, a2, a3, by simp only [List.length_nil] at a4; omega⟩
  | left c2 =>
    rw [hp] at h
    cases h
    have hl : pieceS s { c with st := 4, «from» := c.here, text := [] } r = plainS s { c with st := 4, «from» := c.here, text := [] } r := by simp [pieceS]
    have := pieceS_left (hl.trans hp)
    subst this
    exact ⟨rfl, rfl, rfl, by simp⟩
  | bad no p => rw [hp] at h; cases h
theorem tokenS_ok (h92 : r = 92 → c.here.2.2 < s.size) (hi : c.here.2.2 ≤ s.size) (h : tokenS s c r = .ok c') : c'.here = c.here ∧ (c'.from = c.here ∨ c'.from = c.from) ∧ c'.toks.length ≤ c.toks.length + 1 ∧ c'.text.length ≤ c.text.length + 4 := by
  unfold tokenS at h
  split at h
  · obtain ⟨a1, a2, a3, a4⟩ := betweenS_ok h92 hi h
    exact ⟨a1, .inl a2, by rw [a3]; omega, a4⟩
  split at h
  · unfold remarkS at h
    split at h
    · obtain ⟨a1, a2, a3, a4⟩ := betweenS_ok (c := { c with st := 1 }) h92 hi h
      exact ⟨a1, .inl a2, by rw [a3]; simp only; omega, a4⟩
    · cases h; exact ⟨rfl, .inr rfl, by simp, by simp⟩
  split at h
  · unfold signS at h
    split at h
    · cases h; exact ⟨rfl, .inr rfl, by simp, by simp⟩
    · obtain ⟨a1, a2, a3, a4⟩ := betweenS_ok (c := addT { c with st := 2 } 2 (sinceL s c)) h92 hi h
      exact ⟨a1, .inl a2, by rw [a3]; simp [addT], a4⟩
  split at h
  · unfold optionS at h
    split at h
    · cases h; exact ⟨rfl, .inr rfl, by simp [addT], by simp [addT]⟩
    · cases h; exact ⟨rfl, .inr rfl, by simp, by simp⟩
  · unfold textS at h
    cases hp : pieceS s c r with
    | took c2 =>
      rw [hp] at h
      cases h
      obtain ⟨a1, a2, a3, a4⟩ := pieceS_ok h92 hi hp
      exact ⟨a1, .inr a2, by rw [a3]; omega, a4⟩
    | bad no p => rw [hp] at h; cases h
    | left c2 =>
      rw [hp] at h
      have := pieceS_left hp
      subst this
      obtain ⟨a1, a2, a3, a4⟩ := betweenS_ok (c := addT { c with st := 4 } 1 c.text) h92 hi h
      exact ⟨a1, .inl a2, by rw [a3]; simp [addT], a4⟩
end

theorem token_any (s : ByteArray) (c : Sc) (r : Int) (D g : Nat) (w0 w : World) (hD0 : D ≤ w0.heap.size) (hS : ScAt D g s c w) (hE : ∀ X, KeepG D g w0 X → SEnv X) (hW : KeepG D g w0 w) (hr : 0 ≤ r) (h92 : r = 92 → c.here.2.2 < s.size) (hi : c.here.2.2 ≤ s.size) (hf : c.from.2.2 ≤ c.here.2.2) (ho : c.st = 3 → c.from.2.2 < c.here.2.2) (hs : s.size ≤ 1048576) (hm : c.text.length ≤ 8388000) (hn : c.toks.length ≤ 2097152) :
    Calls Tryz.prog 19 #[.pointer (some ⟨g, 0, none⟩), .int .i32 r] w (TokOut D g s w0 (tokenS s c r)) := by
  unfold tokenS
  by_cases h0 : c.st = 0
  · rw [if_pos h0]; exact token_between s c r D g w0 w hD0 h0 hS hE hW hr h92 hi hf hs hm hn
  rw [if_neg h0]
  by_cases h1 : c.st = 1
  · rw [if_pos h1]; exact token_remark s c r D g w0 w hD0 h1 hS hE hW hr h92 hi hf hs hm hn
  rw [if_neg h1]
  by_cases h2 : c.st = 2
  · rw [if_pos h2]; exact token_sign s c r D g w0 w hD0 h2 hS hE hW hr h92 hi hf hs hm hn
  rw [if_neg h2]
  by_cases h3 : c.st = 3
  · rw [if_pos h3]; exact token_option s c r D g w0 w hD0 h3 (ho h3) hS hE hW hr h92 hi hf hs hm hn
  rw [if_neg h3]
  exact token_text s c r D g w0 w hD0 (by omega) hS hE hW hr h92 hi hf hs hm hn
theorem plNext_ix (s : ByteArray) (p : Pl) (i : Nat) : (plNext s p i).2.2 = i ∧ (plNext s p i).1 ≤ p.1 + 1 ∧ (plNext s p i).2.1 ≤ p.2.1 + 1 := by
  unfold plNext
  split
  · exact ⟨rfl, Nat.le_refl _, by simp⟩
  · exact ⟨rfl, Nat.le_succ _, Nat.le_refl _⟩
end Go.Proofs.YtbnnhbmnddaafaaGreatDoor
/- The program's Scan, whole. -/
namespace Go.Proofs.YtbnnhbmnddaafaaGreatDoor
open Go Go.RowKit Go.Kt Go.Shelf Go.Lib
attribute [local go_sem] Oper.semAt_some

def finS : TR → SR
  | .ok c => endS c
  | .bad no p => .bad no p.1 p.2.1
def ScanOut (D : Nat) (o : SR) (e : Ending) (w' : World) : Prop := match o with
  | .bad no l c => e = .returned (.tuple #[.slice none 0 0, fltV no (l : Nat) (c : Nat)])
  | .ok l => ∃ g cap, e = .returned (.tuple #[.slice (some ⟨g, 0, none⟩) l.length cap, .nilIface]) ∧ OwnS (fun b => D ≤ b) 30 5 (.slice (some ⟨g, 0, none⟩) l.length cap) l.length (tksC l) w'

theorem ScAt.keep {D g : Nat} {s : ByteArray} {c : Sc} {A B : World} {X : Nat → Prop} (h : ScAt D g s c A) (hk : Keep X A B) (hg : ¬ X g) (hX : ∀ b, X b → b < D) : ScAt D g s c B := by
  obtain ⟨tv, kv, h1, h2, h3, h4⟩ := h
  exact ⟨tv, kv, hk.heap h1 hg, h2, h3.keep hk (fun b hx hy => by have := hX b hx; omega), h4.keep hk (fun b hx hy => by have := hX b hx; omega)⟩
theorem dec_nl (s : ByteArray) (pos : Nat) (h : pos ≤ s.size) (h92 : (((Utf8.decode (s ++ nlB) pos).1 : Nat) : Int) = 92) : pos < s.size := by
  by_cases he : pos = s.size
  · subst he
    rw [decode_end] at h92
    exact absurd h92 (by decide)
  · omega
set_option maxHeartbeats 4000000 in
set_option maxRecDepth 100000 in
theorem scan_any (s : ByteArray) (w : World) (hE : SEnv w) (hs : s.size ≤ 140737488351232) :
    Calls Tryz.prog 7 #[.string s] w fun e w' => ScanOut w.heap.size (scanS s) e w' ∧ Below w.heap.size w w' := by
  have CT := Lib.hid (tooMany_any s w hs)
  by_cases h1 : 1048576 < s.size
  · have e1 : scanS s = .bad 5 0 0 := by unfold scanS; rw [if_pos h1]
    rw [e1]
    have e2 : tmV s = fltV 5 0 0 := by unfold tmV; rw [if_pos h1]
    rw [e2] at CT
    clear e1 e2 h1 hE hs
    go_enter Tryz.func7, Tryz.ntmps7
    go_wp2_with fail
    refine CT.out.mono ?_
    rintro e w1 ⟨rfl, hb⟩
    have HB := Lib.hid hb
    clear hb
    go_wp2
    go_ret2
    exact ⟨rfl, HB.out⟩
  by_cases h2 : 65536 ≤ nlN s
  · have e1 : scanS s = .bad 5 65537 1 := by unfold scanS; rw [if_neg h1, if_pos h2]
    rw [e1]
    have e2 : tmV s = fltV 5 65537 1 := by unfold tmV; rw [if_neg h1, if_pos h2]
    rw [e2] at CT
    clear e1 e2 h1 h2 hE hs
    go_enter Tryz.func7, Tryz.ntmps7
    go_wp2_with fail
    refine CT.out.mono ?_
    rintro e w1 ⟨rfl, hb⟩
    have HB := Lib.hid hb
    clear hb
    go_wp2
    go_ret2
    exact ⟨rfl, HB.out⟩
  obtain ⟨R, hR⟩ : ∃ R, runS s (s.size + 1) 0 c0S = R := ⟨_, rfl⟩
  have e1 : scanS s = finS R := by unfold scanS; rw [if_neg h1, if_neg h2, hR]; cases R <;> rfl
  have e2 : tmV s = .nilIface := by unfold tmV; rw [if_neg h1, if_neg h2]
  obtain ⟨Y, hY⟩ : ∃ Y, scanS s = Y := ⟨_, rfl⟩
  rw [hY] at e1 ⊢
  rw [e2] at CT
  have HY := Lib.hid e1
  have HR := Lib.hid hR
  have HE := Lib.hid hE
  have hs1 : s.size ≤ 1048576 := by omega
  have hcz : ¬ s.size + 1 > 9223372036854775807 := by omega
  clear e1 e2 h2 hE hs hR hY h1
  go_enter Tryz.func7, Tryz.ntmps7
  go_wp2_with fail
  refine CT.out.mono ?_
  rintro e w1 ⟨rfl, hb⟩
  have HB := Lib.hid hb
  clear hb
  go_wp2_with fail
  obtain ⟨N, hN⟩ : ∃ N, w1.heap.size = N := ⟨_, rfl⟩
  rw [hN]
  have HN := Lib.hid hN
  clear CT
  go_loopw [] (fun wr => ∃ (pos f : Nat) (c : Sc), runS s f pos c = R ∧ s.size + 1 ≤ pos + f ∧ pos ≤ s.size + 1 ∧ (c.here.2.2 < pos ∨ c.st = 0) ∧ c.from.2.2 ≤ c.here.2.2 ∧ c.here.2.2 ≤ pos ∧ c.here.1 ≤ pos + 1 ∧ c.here.2.1 ≤ pos + 1 ∧ c.text.length ≤ 4 * pos ∧ c.toks.length ≤ pos ∧ Below w.heap.size w wr ∧ wr.heap[N + 1]? = some (.stringIter (s ++ nlB) pos) ∧ ScAt (N + 2) N s c wr)
    (fun wr => s.size + 1 - iterPos wr (N + 1))
  case atStart =>
    subst hN
    have b0 : ∀ l, (w1.alloc (.cells l 43 (0, 0))).heap[w1.heap.size]? = some (.cells l 43 (0, 0)) := fun l => World.alloc_heap_new w1 _
    have hz := HB.out.size
    have hbb := HB.out.trans ((((Below.refl _ w1).alloc (Nat.le_refl _) (.cells #[.string s, .int .i64 0, .int .i64 1, .int .i64 0, .int .i64 0, .int .i64 0, .int .i64 0, .int .i64 0, .slice none 0 0, .int .i64 0, .int .i64 0, .int .i64 0, .int .i64 0, .slice none 0 0] 43)).alloc (by simp) (.stringIter (s ++ nlB) 0)).mono hz)
    exact ⟨0, s.size + 1, c0S, HR.out, by omega, by omega, .inr rfl, Nat.le_refl _, Nat.le_refl _, Nat.le_refl _, by decide, by decide, by decide, hbb, alloc_at (by simp), ⟨_, _, alloc_old (b0 _), trivial, own_nil _ _ _ _, own_nil _ _ _ _⟩⟩
  case round =>
    obtain ⟨pos, f, c, hrun, hf, hps, hst, hfr, hhp, hl1, hl2, htx, htk, hb, hit, hS⟩ := hrel
    have hlt : N + 1 < wr.heap.size := (Array.getElem?_eq_some_iff.1 hit).1
    have hSz : (s ++ nlB).size = s.size + 1 := nl_size s
    by_cases hpos : pos < s.size + 1
    · obtain ⟨f', rfl⟩ : ∃ f', f = f' + 1 := ⟨f - 1, by omega⟩
      obtain ⟨v, hv⟩ : ∃ v, (Utf8.decode (s ++ nlB) pos).2 = v := ⟨_, rfl⟩
      obtain ⟨rn, hrn⟩ : ∃ rn, (Utf8.decode (s ++ nlB) pos).1 = rn := ⟨_, rfl⟩
      have hvb := dec_width (s ++ nlB) pos (by omega)
      rw [hv, hSz] at hvb
      obtain ⟨p2, hp2⟩ : ∃ p2, plNext s c.here pos = p2 := ⟨_, rfl⟩
      obtain ⟨x1, x2, x3⟩ := plNext_ix s c.here pos
      rw [hp2] at x1 x2 x3
      obtain ⟨pl, pc, pi⟩ := p2
      simp only at x1 x2 x3
      have hun : runS s (f' + 1) pos c = match tokenS s { c with here := (pl, pc, pi) } (rn : Nat) with
          | .ok c' => runS s f' (pos + v) c'
          | .bad no p => .bad no p := by rw [runS, if_pos hpos, hp2, hrn, hv]; rfl
      rw [hun] at hrun
      obtain ⟨o, ho⟩ : ∃ o, tokenS s { c with here := (pl, pc, pi) } (rn : Nat) = o := ⟨_, rfl⟩
      rw [ho] at hrun
      have h92 : ((rn : Nat) : Int) = 92 → pos < s.size := fun h => dec_nl s pos (by omega) (by rw [hrn]; exact h)
      obtain ⟨W1, hW1⟩ : ∃ W1, wr.putObj (N + 1) (.stringIter (s ++ nlB) (pos + v)) = W1 := ⟨_, rfl⟩
      have hnx : ∀ ty, (Instr.next (.pointer (some ⟨N + 1, 0, none⟩)) true ty).run Tryz.prog wr = .ok (.tuple #[.bool true, .int .i64 pos, .int .i32 rn]) W1 := fun ty => by
        rw [← hW1, ← hv, ← hrn]; exact run_next_str wr (N + 1) (s ++ nlB) pos ty hit (by omega)
      have hNw : w.heap.size ≤ N + 1 := by have h1 := HN.out; have h2 := HB.out.size; omega
      have hb1 : Below w.heap.size w W1 := by rw [← hW1]; exact hb.trans (below_putObj hNw _)
      have hit1 : W1.heap[N + 1]? = some (.stringIter (s ++ nlB) (pos + v)) := by rw [← hW1]; exact World.putObj_heap_same hlt
      have hk1 : Keep (fun b => b = N + 1) wr W1 := by rw [← hW1]; exact Keep.putObj (X := fun b => b = N + 1) (Keep.refl _ wr) (.inl rfl) _
      have hS1 : ScAt (N + 2) N s c W1 := hS.keep hk1 (by omega) (fun b h => by omega)
      obtain ⟨⟨st, ⟨l1, c1, i1⟩, fr, text, quote, bh, toks⟩⟩ : Nonempty Sc := ⟨c⟩
      clear st l1 c1 i1 fr text quote bh toks
      obtain ⟨st, ⟨l1, c1, i1⟩, ⟨l2, c2, i2⟩, text, ⟨l3, c3, i3⟩, bh, toks⟩ := c
      simp only at hst hfr hhp hl1 hl2 htx htk hp2 ho x2 x3
      obtain ⟨tv, kv, hg, _, hR⟩ := hS1
      have hR : Rows (N + 2) N tv kv text toks W1 := hR
      have hgl : N < W1.heap.size := (Array.getElem?_eq_some_iff.1 hg).1
      have k2 : W1.cell? ⟨N, 2, none⟩ = some (.int .i64 (l1 : Nat)) := by rw [Lib.cell_of_heap hg]; rfl
      have k3 : W1.cell? ⟨N, 3, none⟩ = some (.int .i64 (c1 : Nat)) := by rw [Lib.cell_of_heap hg]; rfl
      have k4 : W1.cell? ⟨N, 4, none⟩ = some (.int .i64 (i1 : Nat)) := by rw [Lib.cell_of_heap hg]; rfl
      have CN := Lib.hid (plNext_any s (l1, c1, i1) pos W1 (by omega) (by simp only; omega) (by simp only; omega) (by omega))
      rw [hp2] at CN
      unfold plV at CN
      simp only at CN
      have HD := Lib.hid (And.intro hrun (And.intro hf (And.intro hit (And.intro hit1 (And.intro hb1 (And.intro hg hR))))))
      have HA := Lib.hid (And.intro hst (And.intro hfr (And.intro hhp (And.intro hl1 (And.intro hl2 (And.intro htx (And.intro htk (And.intro x1 (And.intro x2 (And.intro x3 (And.intro h92 (And.intro ho (And.intro hvb (And.intro hlt hpos))))))))))))))
      clear hrun hf hit hit1 hb1 hg hR hst hfr hhp hl1 hl2 htx htk x1 x2 x3 h92 ho hvb hlt hun hW1 hk1 hS hb hp2 hrn hv hSz hNw hcz hpos hps
      go_wp2_with fail
      refine CN.out.mono ?_
      rintro e w2 ⟨rfl, hb2⟩
      obtain ⟨hrun, hf, hit, hit1, hb1, hg, hR⟩ := HD.out
      have hg2 := (hb2.block N hgl).trans hg
      have hR2 := hR.below hb2
      have hB2 := hb1.trans (hb2.mono hb1.size)
      have hi2 := (hb2.block (N + 1) (Array.getElem?_eq_some_iff.1 hit1).1).trans hit1
      have q2 : w2.cell? ⟨N, 2, none⟩ = some (.int .i64 (l1 : Nat)) := by rw [Lib.cell_of_heap hg2]; rfl
      have q3 : w2.cell? ⟨N, 3, none⟩ = some (.int .i64 (c1 : Nat)) := by rw [Lib.cell_of_heap hg2]; rfl
      have q4 : w2.cell? ⟨N, 4, none⟩ = some (.int .i64 (i1 : Nat)) := by rw [Lib.cell_of_heap hg2]; rfl
      have f2 : w2.frozen? ⟨N, 2, none⟩ = false := by simp [World.frozen?, hg2]
      have f3 : w2.frozen? ⟨N, 3, none⟩ = false := by simp [World.frozen?, hg2]
      have f4 : w2.frozen? ⟨N, 4, none⟩ = false := by simp [World.frozen?, hg2]
      have HD2 := Lib.hid (And.intro hg2 (And.intro hR2 (And.intro hB2 (And.intro hi2 (And.intro hrun (And.intro hf hit))))))
      clear hg2 hR2 hB2 hi2 hrun hf hit hit1 hb1 hg hR hb2 HD k2 k3 k4 hgl
      go_wp2_with fail
      obtain ⟨hg2, hR2, hB2, hi2, hrun, hf, hit⟩ := HD2.out
      obtain ⟨hst, hfr, hhp, hl1, hl2, htx, htk, x1, x2, x3, h92, ho, hvb, hlt, hpos⟩ := HA.out
      have hg3 := set_h (a := (pl : Nat)) (b := (pc : Nat)) (c := (pi : Nat)) hg2
      have hk3 : Keep (fun b => b = N) w2 (((w2.setCell ⟨N, 2, none⟩ (.int .i64 (pl : Nat))).setCell ⟨N, 3, none⟩ (.int .i64 (pc : Nat))).setCell ⟨N, 4, none⟩ (.int .i64 (pi : Nat))) := keep_set (g := N) (keep_set (g := N) (keep_set (g := N) (Keep.refl _ w2)))
      have hR3 := hR2.keepg hk3
      have hNw : w.heap.size ≤ N := by have h1 := HN.out; have h2 := HB.out.size; omega
      have hB3 : Below w.heap.size w (((w2.setCell ⟨N, 2, none⟩ (.int .i64 (pl : Nat))).setCell ⟨N, 3, none⟩ (.int .i64 (pc : Nat))).setCell ⟨N, 4, none⟩ (.int .i64 (pi : Nat))) := hB2.trans ⟨hk3.os, hk3.tape, hk3.output, hk3.size, fun k hk => hk3.same k (by have := hB2.size; omega) (by omega)⟩
      have hi3 := hk3.heap hi2 (by omega)
      clear q2 q3 q4 f2 f3 f4 hg2 hR2 hB2 hi2 hk3
      generalize ((w2.setCell ⟨N, 2, none⟩ (.int .i64 (pl : Nat))).setCell ⟨N, 3, none⟩ (.int .i64 (pc : Nat))).setCell ⟨N, 4, none⟩ (.int .i64 (pi : Nat)) = W3 at *
      have hn3 : N + 2 ≤ W3.heap.size := by have := (Array.getElem?_eq_some_iff.1 hi3).1; omega
      have hS3 : ScAt (N + 2) N s ⟨st, (pl, pc, pi), (l2, c2, i2), text, (l3, c3, i3), bh, toks⟩ W3 := .of hg3 trivial hR3
      have hBX : ∀ X, KeepG (N + 2) N W3 X → Below w.heap.size w X := fun X hk => hB3.trans ⟨hk.os, hk.tape, hk.output, hk.size, fun k hk2 => hk.same k (by have := hB3.size; omega) (by omega)⟩
      have CT := token_any s ⟨st, (pl, pc, pi), (l2, c2, i2), text, (l3, c3, i3), bh, toks⟩ (rn : Nat) (N + 2) N W3 W3 hn3 hS3 (fun X hk => HE.out.below (hBX X hk)) (Keep.refl _ _) (by omega) (by simp only; rw [x1]; exact h92) (by simp only; omega) (by simp only; omega) (by simp only; intro h; rcases hst with h2 | h2 <;> omega) hs1 (by simp only; omega) (by simp only; omega)
      rw [ho] at CT
      refine CT.mono ?_
      rintro e w4 ⟨hk4, h4⟩
      have hB4 := hBX _ hk4
      have hi4 := hk4.heap hi3 (by omega)
      clear CT hg3 hR3 hB3 hi3 hS3 hBX hn3
      cases o with
      | bad no p =>
        subst h4
        have HF := Lib.hid (And.intro hB4 hrun)
        clear hB4 hrun hk4 hi4 ho hit hst hfr hhp hl1 hl2 htx htk x1 x2 x3 h92 hvb hlt hf hpos HA HD2
        go_wp2
        go_ret2
        have hY := HY.out
        rw [← HF.out.2] at hY
        rw [hY]
        exact ⟨rfl, HF.out.1⟩
      | ok c4 =>
        obtain ⟨rfl, hS4⟩ := h4
        obtain ⟨y1, y2, y3, y4⟩ := tokenS_ok (c := ⟨st, (pl, pc, pi), (l2, c2, i2), text, (l3, c3, i3), bh, toks⟩) (by simp only; rw [x1]; exact h92) (by simp only; omega) ho
        simp only at y1 y2 y3 y4 hrun
        have HF := Lib.hid (And.intro hB4 (And.intro hrun (And.intro hS4 (And.intro hi4 (And.intro y1 (And.intro y2 (And.intro y3 (And.intro y4 hit))))))))
        clear hB4 hrun hk4 hi4 ho hit hst hfr hhp hl1 hl2 htx htk x1 x2 x3 h92 hvb hlt hf hS4 y1 y2 y3 y4 hpos
        go_wp2
        go_roundw
        case rel =>
          obtain ⟨hB4, hrun, hS4, hi4, y1, y2, y3, y4, hit⟩ := HF.out
          obtain ⟨hst, hfr, hhp, hl1, hl2, htx, htk, x1, x2, x3, h92, ho, hvb, hlt, hpos⟩ := HA.out
          obtain ⟨hg2, hR2, hB2, hi2, hrun0, hf, _⟩ := HD2.out
          refine ⟨pos + v, f', c4, hrun, by omega, by omega, .inl (by rw [y1]; simp only; omega), ?_, by rw [y1]; simp only; omega, by rw [y1]; simp only; omega, by rw [y1]; simp only; omega, by omega, by omega, hB4, hi4, hS4⟩
          rcases y2 with y2 | y2 <;> rw [y2, y1] <;> simp only <;> omega
        case measure =>
          obtain ⟨hB4, hrun, hS4, hi4, y1, y2, y3, y4, hit⟩ := HF.out
          obtain ⟨hst, hfr, hhp, hl1, hl2, htx, htk, x1, x2, x3, h92, ho, hvb, hlt, hpos⟩ := HA.out
          rw [iterPos_eq hi4, iterPos_eq hit]; omega
    · have hnx : ∀ ty, (Instr.next (.pointer (some ⟨N + 1, 0, none⟩)) true ty).run Tryz.prog wr = .ok (.tuple #[.bool false]) wr := fun ty => run_next_str_end wr (N + 1) (s ++ nlB) pos ty hit (by omega)
      have hrc : R = .ok c := by
        rw [← hrun]
        cases f with
        | zero => rfl
        | succ f => rw [runS, if_neg hpos]
      have hY := HY.out
      rw [hrc] at hY
      have hY2 : Y = endS c := hY
      obtain ⟨st, ⟨l1, c1, i1⟩, ⟨l2, c2, i2⟩, text, ⟨l3, c3, i3⟩, bh, toks⟩ := c
      obtain ⟨tv, kv, hg, _, hR⟩ := hS
      have hR : Rows (N + 2) N tv kv text toks wr := hR
      simp only at htk
      have hNw : w.heap.size ≤ N := by have h1 := HN.out; have h2 := HB.out.size; omega
      by_cases hbad : st = 3 ∨ st = 5
      · have CE := Lib.hid (end_bad s (l1 : Nat) (c1 : Nat) (i1 : Nat) (bh : Nat) st l2 c2 i2 l3 c3 i3 tv kv N wr hg hbad)
        have hY3 : ∀ w', ScanOut w.heap.size Y (.returned (.tuple #[.slice none 0 0, if st = 3 then fltV 25 (l2 : Nat) (c2 : Nat) else fltV 10 (l3 : Nat) (c3 : Nat)])) w' := fun w' => by
          rw [hY2]
          unfold endS
          simp only
          rcases hbad with rfl | rfl
          · rw [if_pos rfl, if_pos rfl]; rfl
          · rw [if_neg (by decide), if_pos rfl, if_neg (by decide)]; rfl
        have HF := Lib.hid (And.intro hb hY3)
        clear hrun hrc hY hY2 hY3 hR hg hst hfr hhp hl1 hl2 htx htk hf hb hit hlt hSz hcz hbad HY
        go_wp2_with fail
        refine CE.out.mono ?_
        rintro e w5 ⟨rfl, hb5⟩
        have HB5 := Lib.hid (HF.out.1.trans (hb5.mono HF.out.1.size))
        clear hb5
        generalize (if st = 3 then fltV 25 (l2 : Nat) (c2 : Nat) else fltV 10 (l3 : Nat) (c3 : Nat)) = FV at *
        go_wp2
        go_ret2
        exact ⟨HF.out.2 _, HB5.out⟩
      · have CE := Lib.hid (end_good s (l1 : Nat) (c1 : Nat) (i1 : Nat) (l2 : Nat) (c2 : Nat) (i2 : Nat) (l3 : Nat) (c3 : Nat) (i3 : Nat) (bh : Nat) st tv kv N wr toks.length (tksC toks) hg (hR.2.weaken fun _ h => h.2.1) (by omega) (fun h => hbad (.inl h)) (fun h => hbad (.inr h)))
        have hY3 : Y = .ok (toks ++ [⟨0, [], (l2, c2, i2)⟩]) := by
          rw [hY2]
          unfold endS
          rw [if_neg (fun h => hbad (.inl h)), if_neg (fun h => hbad (.inr h))]
        have HF := Lib.hid (And.intro hb (And.intro hY3 hR))
        clear hrun hrc hY hY2 hY3 hR hg hst hfr hhp hl1 hl2 htx htk hf hb hit hlt hSz hcz hbad HY
        go_wp2_with fail
        refine CE.out.mono ?_
        rintro e w5 ⟨g2, cap, rfl, ho, hk⟩
        have HO := Lib.hid (And.intro ho hk)
        clear ho hk
        go_wp2
        go_ret2
        obtain ⟨hb, hY3, hR⟩ := HF.out
        obtain ⟨ho, hk⟩ := HO.out
        rw [hY3]
        have e1 : toks.length + 1 = (toks ++ [⟨0, [], (l2, c2, i2)⟩] : List Tk).length := by simp
        have e2 : tksC toks ++ [.int .i64 0, .string ⟨#[]⟩, .int .i64 (l2 : Nat), .int .i64 (c2 : Nat), .int .i64 (i2 : Nat)] = tksC (toks ++ [⟨0, [], (l2, c2, i2)⟩]) := by rw [tksC_add]; rfl
        rw [e2] at ho
        refine ⟨⟨g2, cap, by rw [e1]; rfl, ?_⟩, hb.trans ⟨hk.os, hk.tape, hk.output, hk.size, fun k hk2 => hk.same k (by have := hb.size; omega) ?_⟩⟩
        · rw [← e1]
          exact ho.weaken fun b hb2 => by
            rcases hb2.1 with h | h
            · have := (hR.2.2 b h).1; omega
            · have := hb.size; omega
        · rintro (h | h)
          · omega
          · have := (hR.2.2 k h).1; omega
end Go.Proofs.YtbnnhbmnddaafaaGreatDoor
/- What the listed variables of scan's rows give the walks, and the world that their witnesses start in. -/
namespace Go.Proofs.YtbnnhbmnddaafaaGreatDoor
open Go.Lib Go.Shelf Go.Kt.Bits
set_option maxRecDepth 100000

noncomputable def theLaid8 : List (String × DataW Unit) := [("math/bits.deBruijn32tab", Rows.laid_math_bits_deBruijn32tab), ("math/bits.deBruijn64tab", Rows.laid_math_bits_deBruijn64tab), ("internal/strconv.uint64pow10", Rows.laid_internal_strconv_uint64pow10), ("unicode/utf8.acceptRanges", Rows.laid_unicode_utf8_acceptRanges), ("errors.errorType", Rows.laid_errors_errorType), ("strconv.ErrRange", Rows.laid_strconv_ErrRange), ("strconv.ErrSyntax", Rows.laid_strconv_ErrSyntax), ("unicode/utf8.first", Rows.laid_unicode_utf8_first)]
noncomputable def theLaid7 : List (String × DataW Unit) := [("math/bits.deBruijn32tab", Rows.laid_math_bits_deBruijn32tab), ("math/bits.deBruijn64tab", Rows.laid_math_bits_deBruijn64tab), ("internal/strconv.uint64pow10", Rows.laid_internal_strconv_uint64pow10), ("unicode/utf8.acceptRanges", Rows.laid_unicode_utf8_acceptRanges), ("strconv.ErrRange", Rows.laid_strconv_ErrRange), ("strconv.ErrSyntax", Rows.laid_strconv_ErrSyntax), ("unicode/utf8.first", Rows.laid_unicode_utf8_first)]

theorem errIx8 : Tryz.prog.globalNamed "errors.errorType" = some 0 := by kernel_rfl
theorem rtypeIx8 : (Tryz.prog.cutTypes.find? (·.1 == "internal/reflectlite.rtype")).map (·.2) = some 138 := by kernel_rfl
theorem typesN8 : Tryz.prog.types.size = 216 := by kernel_rfl
theorem errRow8 : ((List.range 216).filter fun t => Tryz.prog.rowNamed t [101, 114, 114, 111, 114]) = [25] := by kernel_rfl
theorem errT_of_handles8 {W : World} (h : handlesMet Tryz.prog [("errors.errorType", Rows.laid_errors_errorType)] W) : ErrT W := by
  obtain ⟨name, u, ty, e1, e2, e3, e4, e5⟩ := h _ (List.mem_singleton.2 rfl)
  have en : name = [101, 114, 114, 111, 114] := (Option.some.inj e1).symm
  subst en
  obtain rfl := Option.some.inj (rtypeIx8.symm.trans e2)
  have hm : ty ∈ (List.range 216).filter fun t => Tryz.prog.rowNamed t [101, 114, 114, 111, 114] := List.mem_filter.2 ⟨List.mem_range.2 (by rw [← typesN8]; exact e3), e4⟩
  rw [errRow8] at hm
  obtain rfl := List.mem_singleton.1 hm
  have hh : typeHandle Tryz.prog 25 = tyH 25 := by kernel_rfl
  rw [hh] at e5
  simpa using World.var?_cell errIx8 e5 0

theorem bruijn_eq8 : (Rows.laid_math_bits_deBruijn64tab : DataW Unit) = tabData .u8 (bruijnTab.map fun x : Nat => (x : Int)) := by kernel_rfl
theorem btab_of_reads8 {W : World} (h3 : VarReads Tryz.prog W "math/bits.deBruijn64tab" (tabData .u8 (bruijnTab.map fun x : Nat => (x : Int)))) : BTab W := by
  have c5 : Tryz.prog.cellsOf 5 = 1 := by kernel_rfl
  have c64 : Tryz.prog.cellsOf 178 = 64 := by kernel_rfl
  intro k hk
  obtain ⟨g, t, cs, fuel, p, hg, hty, hvar, hd⟩ := h3
  obtain rfl := Option.some.inj ((show Tryz.prog.globalNamed "math/bits.deBruijn64tab" = some 6 by kernel_rfl).symm.trans hg)
  obtain rfl := Option.some.inj ((show (Tryz.prog.globals[6]?).map (·.type) = some 178 by kernel_rfl).symm.trans hty)
  have hcs := cells_of_tab Tryz.underlying178 Tryz.underlying5 c5 c64 hd
  have := World.var?_cell hg hvar k
  rw [this, ← Array.getElem?_toList, hcs]
  have hl : bruijnTab.length = 64 := rfl
  simp [List.getD_eq_getElem?_getD, hl, hk]

theorem trod_iface8 {H : Type} {enc : TypeId × Value → H} {P : Program} {w : World} {base : Nat} {sp : Nat → Bool} {held : Bool} {fuel : Nat} {t : TypeId} {cs : List Value} {T : String} {D : DataW H} {q : List MemPlace} {ms : Array (String × TypeId)}
    (ht : P.underlying t = some (.interface ms)) (h : DataW.trod enc P w base sp held fuel t cs = some (.iface T D, q)) : ∃ u v, cs = [.iface u v] := by
  cases fuel with
  | zero => simp [DataW.trod] at h
  | succ n =>
    unfold DataW.trod at h
    rw [ht] at h
    split at h <;> simp_all
theorem iface_of_reads8 {W : World} {nm : String} {g : Nat} {T : String} {D : DataW Unit} (hn : Tryz.prog.globalNamed nm = some g) (ht : (Tryz.prog.globals[g]?).map (·.type) = some 25) (h : VarReads Tryz.prog W nm (.iface T D)) : ∃ t p, W.cell? ⟨g, 0, none⟩ = some (.iface t p) := by
  obtain ⟨g', t, cs, fuel, p, hg, hty, hvar, hd⟩ := h
  obtain rfl := Option.some.inj (hn.symm.trans hg)
  obtain rfl := Option.some.inj (ht.symm.trans hty)
  obtain ⟨u, v, e⟩ := trod_iface8 Tryz.underlying25 hd
  refine ⟨u, v, ?_⟩
  rw [World.var?_cell hg hvar 0, ← Array.getElem?_toList, e]
  rfl

def QEnv (W : World) : Prop := SEnv W ∧ BTab W ∧ 6 < W.heap.size
theorem of_laid8 {W : World} (h : laidMetH Tryz.prog theLaid8 W) : QEnv W := by
  have h' : laidMet Tryz.prog theLaid7 W ∧ handlesMet Tryz.prog [("errors.errorType", Rows.laid_errors_errorType)] W := h
  have hb := btab_of_reads8 (bruijn_eq8 ▸ laidMet.reads h'.1 (.tail _ (.head _)))
  have ht := tabs_of_reads (accept_eq ▸ laidMet.reads h'.1 (.tail _ (.tail _ (.tail _ (.head _))))) (Pinned.utf8First_eq ▸ laidMet.reads h'.1 (.tail _ (.tail _ (.tail _ (.tail _ (.tail _ (.tail _ (.head _))))))))
  have e1 := laidMet.reads h'.1 (.tail _ (.tail _ (.tail _ (.tail _ (.head _)))))
  have e2 := laidMet.reads h'.1 (.tail _ (.tail _ (.tail _ (.tail _ (.tail _ (.head _))))))
  exact ⟨⟨ht, errT_of_handles8 h'.2, iface_of_reads8 (by kernel_rfl) (by kernel_rfl) e2, iface_of_reads8 (by kernel_rfl) (by kernel_rfl) e1⟩, hb, Go.Kt.lt_of_cell (hb 0 (by decide))⟩

noncomputable def errWorld8 (os : Os) : World :=
  let w0 := World.holding Tryz.prog os ⟨#[], #[], []⟩
  { w0 with heap := w0.heap.modify 0 fun
      | .cells _ t frozen => .cells #[.iface 138 (.agg #[tyH 25])] t frozen
      | o => o }
theorem laidMet_on8 {P : Program} {w0 : World} {laid : List (String × DataW Unit)} (args : Array Value) (hf : w0.layFits P laid [] = true) (hi : w0.layIfaces P laid (w0.layVars P laid) = true) :
    laidMet P laid ((w0.layVars P laid).forCall (fun _ _ => 0) ⟨#[], args, []⟩).memory := by
  have e1 : (laid.filter fun x => (laid.map (·.1)).contains x.1) = laid := List.filter_eq_self.2 fun x hx => List.contains_iff_mem.2 (List.mem_map.2 ⟨x, hx, rfl⟩)
  have e2 : (laid.filter fun x => !(laid.map (·.1)).contains x.1) = [] := List.filter_eq_nil_iff.2 fun x hx => by rw [List.contains_iff_mem.2 (List.mem_map.2 ⟨x, hx, rfl⟩)]; simp
  have h : laidMet P laid (w0.layVars P laid) := laidMet_layVars (w0 := w0) (laid.map (·.1)) [] (by rw [e1]) (by rw [e1]; exact hf) (by rw [e1]; exact hi) (by rw [e2]; exact LaidIn.none)
  exact h.of_heap (by simp [World.memory, World.forCall, Input.heap])

noncomputable def world8 (os : Os) : World := (errWorld8 os).layVars Tryz.prog theLaid7
theorem world8_os (os : Os) : (world8 os).os = os := World.layVars_os _ _ _
theorem laid_met8 (os : Os) (args : Array Value) : laidMetH Tryz.prog theLaid8 ((world8 os).forCall (fun _ _ => 0) ⟨#[], args, []⟩).memory :=
  laidMetH_of_parts (show laidMet Tryz.prog theLaid7 _ from laidMet_on8 args (by kernel_rfl) (by kernel_rfl)) (by kernel_rfl)
end Go.Proofs.YtbnnhbmnddaafaaGreatDoor
/- A text that is quoted is read as that text: the scanner's run over quoV. No run in this text. -/
namespace Go.Proofs.YtbnnhbmnddaafaaGreatDoor
open Go Go.RowKit Go.Kt Go.Kt.Rg Go.Shelf Go.Lib

theorem decN_pre {N N' b0 b1 b2 b3 d1 d2 d3 r w : Nat} (h : decodeN N b0 b1 b2 b3 = (r, w)) (hne : ¬ (r = 65533 ∧ w = 1)) (hN : w ≤ N') (h1 : 1 < w → d1 = b1) (h2 : 2 < w → d2 = b2) (h3 : 3 < w → d3 = b3) : decodeN N' b0 d1 d2 d3 = (r, w) := by
  unfold decodeN at h ⊢
  split at h
  · rename_i g; rw [if_pos g]; exact h
  rename_i g0
  rw [if_neg g0]
  split at h
  · rename_i g1
    split at h
    · rename_i g2
      cases h
      have e := h1 (by decide); subst e
      rw [if_pos ⟨g1.1, by omega, g1.2.2⟩, if_pos g2]
    · cases h; exact absurd ⟨rfl, rfl⟩ hne
  split at h
  · rename_i g1 g2
    split at h
    · rename_i g3
      cases h
      have e := h1 (by decide); subst e
      have e := h2 (by decide); subst e
      rw [if_neg (by omega), if_pos ⟨g2.1, ⟨by omega, g2.2.1.2⟩, by omega, g2.2.2.2⟩, if_pos g3]
    · cases h; exact absurd ⟨rfl, rfl⟩ hne
  split at h
  · rename_i g1 g2 g3
    split at h
    · rename_i g4
      cases h
      have e := h1 (by decide); subst e
      have e := h2 (by decide); subst e
      have e := h3 (by decide); subst e
      rw [if_neg (by omega), if_neg (by omega), if_pos ⟨g3.1, ⟨by omega, g3.2.1.2⟩, ⟨by omega, g3.2.2.1.2⟩, by omega, g3.2.2.2.2⟩, if_pos g4]
    · cases h; exact absurd ⟨rfl, rfl⟩ hne
  · cases h; exact absurd ⟨rfl, rfl⟩ hne

section
variable {Q : ByteArray} {p : Nat} {E rest : List UInt8}
theorem drop_len (h : Q.data.toList.drop p = E ++ rest) (hp : p ≤ Q.size) : p + E.length ≤ Q.size := by
  have h1 := congrArg List.length h
  rw [List.length_drop, List.length_append, ← Lib.size_eq] at h1
  omega
theorem B_drop (h : Q.data.toList.drop p = E ++ rest) {j : Nat} (hj : j < E.length) : B Q (p + j) = (E.getD j 0).toNat := by
  unfold B
  have h1 : Q.data.toList[p + j]? = E[j]? := by
    rw [← List.getElem?_drop, h, List.getElem?_append_left hj]
  rw [List.getD_eq_getElem?_getD, h1, List.getD_eq_getElem?_getD]
theorem drop_more (h : Q.data.toList.drop p = E ++ rest) : Q.data.toList.drop (p + E.length) = rest := by
  rw [← List.drop_drop, h, List.drop_left]
theorem seg_drop (h : Q.data.toList.drop p = E ++ rest) : seg Q p (p + E.length) = E := by
  rw [seg_eq, List.drop_take, Nat.add_sub_cancel_left, h, List.take_left]
theorem ext_rest (h : Q.data.toList.drop p = E ++ rest) : (Q.extract p Q.size).data.toList = E ++ rest := by
  have : (Q.extract p Q.size).data.toList = seg Q p Q.size := rfl
  rw [this, seg_eq, List.take_of_length_le (by rw [← Lib.size_eq]; omega), h]
end
theorem dec_lo (Q : ByteArray) (p : Nat) (h : B Q p < 128) : Utf8.decode Q p = (B Q p, 1) := by
  rw [decode_B]; unfold decodeN; rw [if_pos h]

structure Bd (p : Nat) (c : Sc) (x : List UInt8) : Prop where
  fr : c.from = (1, 1, 0)
  toks : c.toks = []
  text : c.text = x
  st : c.st = 4 ∨ c.st = 7 ∧ c.behind ≤ p
def okr (r : Int) : Prop := isBlk r = false ∧ (r = 92 ∨ isSgs r = false) ∧ isSgn (encL r) = false
def Rd (Q : ByteArray) (p : Nat) (c : Sc) (x : List UInt8) : Prop :=
  ∃ c1 : Sc, c1.here.2.2 = p ∧ c1.from = (1, 1, 0) ∧ c1.toks = [] ∧ c1.text = x ∧ ∀ r c', okr r → plainS Q c1 r = .took c' → tokenS Q { c with here := plNext Q c.here p } r = .ok c'
theorem Bd.token {p : Nat} {c : Sc} {x : List UInt8} (h : Bd p c x) (Q : ByteArray) (r : Int) : tokenS Q { c with here := plNext Q c.here p } r = textS Q { c with here := plNext Q c.here p } r ∧ pieceS Q { c with here := plNext Q c.here p } r = plainS Q { c with here := plNext Q c.here p } r := by
  have hx := (plNext_ix Q c.here p).1
  rcases h.st with h4 | ⟨h7, hb⟩
  · exact ⟨by unfold tokenS; simp [h4], by unfold pieceS; simp [h4]⟩
  · refine ⟨by unfold tokenS; simp [h7], ?_⟩
    simp [pieceS, escapeS, h7, hx, hb]
theorem Bd.rd {p : Nat} {c : Sc} {x : List UInt8} (h : Bd p c x) (Q : ByteArray) : Rd Q p c x := by
  refine ⟨{ c with here := plNext Q c.here p }, (plNext_ix Q c.here p).1, h.fr, h.toks, h.text, fun r c' _ hp => ?_⟩
  obtain ⟨h1, h2⟩ := h.token Q r
  rw [h1]
  unfold textS
  rw [h2, hp]
theorem rd_first (Q : ByteArray) : Rd Q 0 c0S [] := by
  refine ⟨⟨4, (1, 1, 0), (1, 1, 0), [], (0, 0, 0), 0, []⟩, rfl, rfl, rfl, rfl, fun r c' hr hp => ?_⟩
  obtain ⟨h1, h2, h3⟩ := hr
  have h35 : r ≠ 35 := by rintro rfl; rcases h2 with h | h; cases h; exact absurd h (by decide)
  have h91 : r ≠ 91 := by rintro rfl; rcases h2 with h | h; cases h; exact absurd h (by decide)
  have h93 : r ≠ 93 := by rintro rfl; rcases h2 with h | h; cases h; exact absurd h (by decide)
  have h42 : r ≠ 42 := by rintro rfl; rcases h2 with h | h; cases h; exact absurd h (by decide)
  have e : tokenS Q { c0S with here := plNext Q c0S.here 0 } r = betweenS Q { c0S with here := plNext Q c0S.here 0 } r := by simp [tokenS, c0S]
  rw [e]
  unfold betweenS
  rw [if_neg (by rw [h1]; decide), if_neg h35, if_neg (by rw [h3]; decide), if_neg h91, if_neg h93, if_neg h42]
  show (plainS Q ⟨4, (1, 1, 0), (1, 1, 0), [], (0, 0, 0), 0, []⟩ r).out = _
  rw [hp]
  rfl
theorem runS_one {Q : ByteArray} {f i v r : Nat} {c c' : Sc} (hi : i < Q.size + 1) (hd : Utf8.decode (Q ++ nlB) i = (r, v)) (ht : tokenS Q { c with here := plNext Q c.here i } (r : Nat) = .ok c') : runS Q (f + 1) i c = runS Q f (i + v) c' := by
  rw [runS, if_pos hi, hd, ht]
theorem dec_in {Q : ByteArray} {p : Nat} (h : p < Q.size) (hb : B Q p < 128) : Utf8.decode (Q ++ nlB) p = (B Q p, 1) := by
  rw [decode_nl Q p h, dec_lo Q p hb]
theorem run_pass (Q : ByteArray) : ∀ (n p : Nat) (c : Sc) (F : Nat), (∀ j, j < n → B Q (p + j) < 128) → p + n ≤ Q.size → c.st = 7 → c.behind = p + n → Q.size + 1 ≤ p + F →
    ∃ F' c', runS Q F p c = runS Q F' (p + n) c' ∧ c'.from = c.from ∧ c'.toks = c.toks ∧ c'.text = c.text ∧ c'.st = 7 ∧ c'.behind = p + n ∧ Q.size + 1 ≤ p + n + F' := by
  intro n
  induction n with
  | zero => intro p c F _ _ hs hb hF; exact ⟨F, c, rfl, rfl, rfl, rfl, hs, hb, hF⟩
  | succ n ih =>
    intro p c F hB hp hs hb hF
    obtain ⟨F, rfl⟩ : ∃ f, F = f + 1 := ⟨F - 1, by omega⟩
    have hx := (plNext_ix Q c.here p).1
    have ht : tokenS Q { c with here := plNext Q c.here p } (B Q p : Nat) = .ok { c with here := plNext Q c.here p } := by
      have hnl : ¬ p + (n + 1) ≤ p := by omega
      simp [tokenS, textS, pieceS, escapeS, hs, hx, hb]
      rw [if_neg hnl]
    have hB0 := hB 0 (by omega)
    rw [Nat.add_zero] at hB0
    have h1 := runS_one (f := F) (by omega) (dec_in (by omega) hB0) ht
    obtain ⟨F', c', e1, e2, e3, e4, e5, e6, e7⟩ := ih (p + 1) { c with here := plNext Q c.here p } F (fun j hj => by have := hB (j + 1) (by omega); rw [show p + 1 + j = p + (j + 1) by omega]; exact this) (by omega) hs (by simp only; omega) (by omega)
    refine ⟨F', c', ?_, e2, e3, e4, e5, by omega, by omega⟩
    rw [h1, e1, show p + 1 + n = p + (n + 1) by omega]
theorem run_esc {Q : ByteArray} {p : Nat} {c : Sc} {x E rest t : List UInt8} {F : Nat} (hE : Q.data.toList.drop p = (92 :: E) ++ rest) (hp : p ≤ Q.size) (ha : ∀ b ∈ E, b.toNat < 128) (hF : Q.size + 1 ≤ p + F) (hrd : Rd Q p c x)
    (hu : unescV (Q.extract p Q.size) = some (t, E.length + 1)) :
    ∃ F' c', runS Q F p c = runS Q F' (p + (E.length + 1)) c' ∧ Bd (p + (E.length + 1)) c' (x ++ t) ∧ Q.size + 1 ≤ p + (E.length + 1) + F' := by
  obtain ⟨c1, g1, g2, g3, g4, g5⟩ := hrd
  have hln := drop_len hE hp
  rw [List.length_cons] at hln
  obtain ⟨F, rfl⟩ : ∃ f, F = f + 1 := ⟨F - 1, by omega⟩
  have hB0 : B Q p = 92 := by have := B_drop hE (j := 0) (by simp); simpa using this
  have hpl : plainS Q c1 92 = .took { c1 with st := 7, text := c1.text ++ t, behind := c1.here.2.2 + (E.length + 1) } := by
    unfold plainS
    rw [if_neg (by decide), if_pos rfl, g1, hu]
  have ht := g5 92 _ ⟨by decide, .inl rfl, by decide⟩ hpl
  have h1 := runS_one (f := F) (v := 1) (r := 92) (by omega) (by rw [dec_in (by omega) (by omega), hB0]) ht
  obtain ⟨F', c', e1, e2, e3, e4, e5, e6, e7⟩ := run_pass Q E.length (p + 1) { c1 with st := 7, text := c1.text ++ t, behind := c1.here.2.2 + (E.length + 1) } F (fun j hj => by
      have := B_drop hE (j := j + 1) (by simp; omega)
      rw [show p + 1 + j = p + (j + 1) by omega, this]
      simp only [List.getD_cons_succ]
      rw [List.getD_eq_getElem?_getD, List.getElem?_eq_getElem hj]
      exact ha _ (List.getElem_mem hj)) (by omega) rfl (by simp only; omega) (by omega)
  refine ⟨F', c', ?_, ⟨e2.trans g2, e3.trans g3, by rw [e4]; simp only [g4], .inr ⟨e5, by omega⟩⟩, by omega⟩
  rw [h1, e1, show p + 1 + E.length = p + (E.length + 1) by omega]
theorem run_plain {Q : ByteArray} {p r : Nat} {c : Sc} {x E rest : List UInt8} {F : Nat} (hE : Q.data.toList.drop p = E ++ rest) (hp : p ≤ Q.size) (hl : 1 ≤ E.length) (hd : Utf8.decode (Q ++ nlB) p = (r, E.length)) (hF : Q.size + 1 ≤ p + F) (hrd : Rd Q p c x)
    (h1 : isBlk (r : Nat) = false) (h2 : isSgs (r : Nat) = false) (h3 : isSgn (encL (r : Nat)) = false) :
    ∃ F' c', runS Q F p c = runS Q F' (p + E.length) c' ∧ Bd (p + E.length) c' (x ++ E) ∧ Q.size + 1 ≤ p + E.length + F' := by
  obtain ⟨c1, g1, g2, g3, g4, g5⟩ := hrd
  have hln := drop_len hE hp
  obtain ⟨F, rfl⟩ : ∃ f, F = f + 1 := ⟨F - 1, by omega⟩
  have n39 : ((r : Nat) : Int) ≠ 39 := fun h => by rw [h] at h2; exact absurd h2 (by decide)
  have n92 : ((r : Nat) : Int) ≠ 92 := fun h => by rw [h] at h2; exact absurd h2 (by decide)
  have hw : unitW Q p = E.length := by unfold unitW; rw [if_pos (by omega), ← decode_nl Q p (by omega), hd]
  have hU : unitL Q p = E := by unfold unitL; rw [hw]; exact seg_drop hE
  have hpl : plainS Q c1 (r : Nat) = .took { c1 with st := 4, text := c1.text ++ E } := by
    unfold plainS
    rw [if_neg n39, if_neg n92, if_neg (by rw [h1]; decide), if_neg (by rw [h2]; decide), g1, hU]
  have ht := g5 (r : Nat) _ ⟨h1, .inr h2, h3⟩ hpl
  refine ⟨F, _, runS_one (by omega) hd ht, ⟨g2, g3, by simp only [g4], .inl rfl⟩, by omega⟩

section
variable {X : ByteArray} {rest : List UInt8}
theorem xunit_one {u : UInt8} {a : UInt8} (hX : X.data.toList = a :: u :: rest) (hu : u.toNat < 128) : unitW X 1 = 1 ∧ (decP X 1).1 = (u.toNat : Int) ∧ 2 ≤ X.size := by
  have hz : 2 ≤ X.size := by rw [Lib.size_eq, hX]; simp
  have hB : B X 1 = u.toNat := by unfold B; rw [hX]; rfl
  have hd := dec_lo X 1 (by rw [hB]; exact hu)
  refine ⟨by unfold unitW; rw [if_pos (by omega), hd], ?_, hz⟩
  have := decP_in X 1 (by omega)
  rw [show ((1 : Nat) : Int) = 1 from rfl] at this
  rw [this, hd, hB]
theorem unesc_ill {b : Nat} (hX : X.data.toList = 92 :: (120 :: hexL b) ++ rest) (h : 128 ≤ b) (h2 : b < 256) : unescV X = some ([UInt8.ofNat b], 4) := by
  obtain ⟨e1, e2, e3⟩ := xunit_one hX (by decide)
  have hh := hex_two b h2 (by omega)
  unfold unescV
  rw [e1, if_neg (by decide), e2, if_neg (by decide), if_pos (by decide)]
  unfold illV
  have hd2 : (X.data.toList.drop 2).take 2 = hexL b := by
    rw [hX]
    show (hexL b ++ rest).take 2 = hexL b
    rw [← hh, List.take_left]
  rw [hd2, puV_hex 255 b (by omega) (by omega), if_neg (by rw [hX]; simp [hh])]
  simp only
  rw [if_neg (by omega)]
set_option maxRecDepth 100000 in
theorem unesc_chr {r : Nat} (hX : X.data.toList = 92 :: (117 :: 123 :: hexL r ++ [125]) ++ rest) (h : r < 128) : unescV X = some ([UInt8.ofNat r], 4 + (hexL r).length) := by
  have hX2 : X.data.toList = 92 :: 117 :: (123 :: (hexL r ++ 125 :: rest)) := by rw [hX]; simp
  obtain ⟨e1, e2, e3⟩ := xunit_one hX2 (by decide)
  unfold unescV
  rw [e1, if_neg (by decide), e2, if_pos (by decide)]
  unfold chrV
  have ho : opn X.data.toList = true := by rw [hX2]; rfl
  have hr : rst X.data.toList = hexL r ++ 125 :: rest := by unfold rst; rw [if_pos ho, hX2]; rfl
  have hup : upB (rst X.data.toList) = hexL r := by rw [hr]; exact upB_at _ _ (fun c hc => (hexF_clean 8 r c hc).1)
  have hct : (rst X.data.toList).contains 125 = true := by rw [hr]; simp
  have hpu : puV 16777215 (upB (rst X.data.toList)) = some r := by rw [hup]; exact puV_hex _ _ (by omega) (by omega)
  rw [hpu, hup, ho, hct]
  have hl6 : (hexL r).length ≤ 6 := (by decide +kernel : ∀ r, r < 128 → (hexL r).length ≤ 6) r h
  have hv : Lib.validRune (r : Nat) = true := (by decide +kernel : ∀ r : Nat, r < 128 → Lib.validRune (r : Nat) = true) r h
  have he : (Utf8.encode (r : Nat)).data.toList = [UInt8.ofNat r] := (by decide +kernel : ∀ r : Nat, r < 128 → (Utf8.encode (r : Nat)).data.toList = [UInt8.ofNat r]) r h
  unfold chrO
  simp only
  rw [hv, he, decide_eq_true hl6]
  rfl
theorem unesc_sgs {u : UInt8} (hX : X.data.toList = 92 :: [u] ++ rest) (hu : u.toNat < 128) (h1 : u ≠ 117) (h2 : u ≠ 120) : unescV X = some ([u], 2) := by
  obtain ⟨e1, e2, e3⟩ := xunit_one (X := X) (rest := rest) hX hu
  have n1 : (u.toNat : Int) ≠ 117 := fun h => h1 (by apply UInt8.toNat_inj.1; have : (117 : UInt8).toNat = 117 := rfl; omega)
  have n2 : (u.toNat : Int) ≠ 120 := fun h => h2 (by apply UInt8.toNat_inj.1; have : (120 : UInt8).toNat = 120 := rfl; omega)
  unfold unescV
  rw [e1, if_neg (by decide), e2, if_neg n1, if_neg n2]
  have : (X.extract 1 (1 + 1)).data.toList = [u] := by
    have h3 : (X.extract 1 (1 + 1)).data.toList = seg X 1 (1 + 1) := rfl
    rw [h3, seg_eq, hX]
    rfl
  rw [this]
end

theorem dec_r_lo {s : ByteArray} {i : Nat} (h : (Utf8.decode s i).1 < 128) : B s i = (Utf8.decode s i).1 ∧ (Utf8.decode s i).2 = 1 := by
  rw [decode_B] at h ⊢
  revert h
  unfold decodeN
  repeat' split
  all_goals (intro h; first | exact ⟨rfl, rfl⟩ | (exfalso; simp only at h; omega))
set_option maxRecDepth 100000 in
theorem nsgn {s : ByteArray} {i : Nat} (h : isSgs ((Utf8.decode s i).1 : Nat) = false) (_hi : i < s.size) (hw : ¬ ((Utf8.decode s i).1 = 65533 ∧ (Utf8.decode s i).2 = 1)) : isSgn (encL ((Utf8.decode s i).1 : Nat)) = false := by
  by_cases h1 : (Utf8.decode s i).1 < 128
  · generalize (Utf8.decode s i).1 = r at *
    revert h
    exact (by decide +kernel : ∀ r : Nat, r < 128 → isSgs (r : Nat) = false → isSgn (encL (r : Nat)) = false) r h1
  · have hv : Utf8.valid ((Utf8.decode s i).1 : Nat) = true := by
      rw [decode_B] at hw h1 ⊢
      revert hw h1
      unfold decodeN
      repeat' split
      all_goals (intro hw h1; simp only at hw h1 ⊢; first | (exfalso; omega) | (simp only [Utf8.valid, Bool.or_eq_true, Bool.and_eq_true, decide_eq_true_iff]; omega) | (exact absurd ⟨rfl, rfl⟩ hw))
    obtain ⟨q1, q2, q3⟩ := enc_hi ((Utf8.decode s i).1 : Nat) (by omega) hv
    have hl : (encL ((Utf8.decode s i).1 : Nat)).length = (Utf8.encode ((Utf8.decode s i).1 : Nat)).size := (Lib.size_eq _).symm
    have hne : encL ((Utf8.decode s i).1 : Nat) ∉ sgnL := by
      intro hm
      have hall : ∀ l ∈ sgnL, ∃ c ∈ l, c.toNat < 128 := by decide
      obtain ⟨c, hc, hlt⟩ := hall _ hm
      have := q3 c hc
      omega
    unfold isSgn
    simpa using hne
theorem one_byte {s : ByteArray} {i : Nat} (hi : i < s.size) : seg s i (i + 1) = [UInt8.ofNat (B s i)] := by
  rw [seg_range s i 1 (by omega)]
  rfl
theorem hexL_lo : ∀ u, u < 256 → ∀ b ∈ hexL u, b.toNat < 128 := by decide +kernel
theorem sgs_lt {r : Nat} (h : isSgs (r : Nat) = true) : r < 128 ∧ r ≠ 117 ∧ r ≠ 120 := by
  by_cases h1 : r < 128
  · refine ⟨h1, ?_, ?_⟩ <;> (rintro rfl; exact absurd h (by decide))
  · rw [isSgs_hi (r : Nat) (by omega)] at h; cases h
theorem unitW_dec {s : ByteArray} {i : Nat} (hi : i < s.size) : unitW s i = (Utf8.decode s i).2 := by unfold unitW; rw [if_pos hi]
theorem run_unit {s Q : ByteArray} {i p : Nat} {c : Sc} {x rest : List UInt8} {F : Nat} (hi : i < s.size) (hQ : Q.data.toList.drop p = quoU s i ++ rest) (hp : p ≤ Q.size) (hF : Q.size + 1 ≤ p + F) (hrd : Rd Q p c x) :
    ∃ F' c', runS Q F p c = runS Q F' (p + (quoU s i).length) c' ∧ Bd (p + (quoU s i).length) c' (x ++ seg s i (i + unitW s i)) ∧ Q.size + 1 ≤ p + (quoU s i).length + F' := by
  have hw := unitW_dec hi
  obtain ⟨d1, d2, d3⟩ := dec_width s i hi
  have hdP : (decP s (i : Nat)).1 = ((Utf8.decode s i).1 : Int) := by rw [decP_in s i hi]
  have hU : quoU s i = escV (seg s i (i + unitW s i)) ((Utf8.decode s i).1 : Nat) := by unfold quoU; rw [hdP]; rfl
  have hln : (seg s i (i + unitW s i)).length = unitW s i := by rw [seg_len s i _ (by omega) (by omega)]; omega
  unfold escV at hU
  by_cases h1 : ((Utf8.decode s i).1 : Int) = 65533 ∧ (seg s i (i + unitW s i)).length = 1
  · rw [if_pos h1] at hU
    obtain ⟨h1, h2⟩ := h1
    have hw1 : unitW s i = 1 := by omega
    have hb : ¬ B s i < 128 := fun hb => by
      have := dec_lo s i hb
      rw [this] at h1
      simp only at h1
      omega
    have hB := B_lt s i
    rw [hw1, one_byte hi] at hU ⊢
    have hU2 : quoU s i = 92 :: (120 :: hexL (B s i)) := by
      rw [hU]
      have : (([UInt8.ofNat (B s i)] : List UInt8).getD 0 0).toNat = B s i := by simp; omega
      rw [this]; rfl
    have hh := hex_two (B s i) hB (by omega)
    rw [hU2] at hQ ⊢
    exact run_esc (t := [UInt8.ofNat (B s i)]) hQ hp (by
      intro b hb2
      rcases List.mem_cons.1 hb2 with rfl | hb2
      · decide
      · exact hexL_lo _ hB b hb2) hF hrd (by rw [unesc_ill (X := Q.extract p Q.size) (ext_rest hQ) (by omega) hB]; simp [hh])
  rw [if_neg h1] at hU
  by_cases h2 : ((Utf8.decode s i).1 : Int) ≤ 32 ∨ ((Utf8.decode s i).1 : Int) = 127
  · rw [if_pos h2] at hU
    obtain ⟨hb, hw1⟩ := dec_r_lo (s := s) (i := i) (by omega)
    have hw1 : unitW s i = 1 := hw.trans hw1
    rw [hw1, one_byte hi]
    have hU2 : quoU s i = 92 :: (117 :: 123 :: hexL (B s i) ++ [125]) := by
      rw [hU, ← hb]; simp
    rw [hU2] at hQ ⊢
    exact run_esc (t := [UInt8.ofNat (B s i)]) hQ hp (by
      intro b hb2
      simp only [List.cons_append, List.mem_cons, List.mem_append, List.not_mem_nil, or_false] at hb2
      rcases hb2 with rfl | rfl | hb2 | rfl
      · decide
      · decide
      · exact hexL_lo _ (by omega) b hb2
      · decide) hF hrd (by rw [unesc_chr (X := Q.extract p Q.size) (ext_rest hQ) (by omega)]; simp; omega)
  rw [if_neg h2] at hU
  by_cases h3 : isSgs ((Utf8.decode s i).1 : Nat) = true
  · rw [if_pos h3] at hU
    obtain ⟨q1, q2, q3⟩ := sgs_lt h3
    obtain ⟨hb, hw1⟩ := dec_r_lo (s := s) (i := i) q1
    have hw1 : unitW s i = 1 := hw.trans hw1
    rw [hw1, one_byte hi] at hU ⊢
    have hu : (UInt8.ofNat (B s i)).toNat = B s i := by simp; omega
    have hU2 : quoU s i = 92 :: [UInt8.ofNat (B s i)] := by rw [hU]; rfl
    rw [hU2] at hQ ⊢
    exact run_esc (t := [UInt8.ofNat (B s i)]) hQ hp (by
      intro b hb2
      rw [List.mem_singleton] at hb2
      subst hb2
      omega) hF hrd (by
        rw [unesc_sgs (X := Q.extract p Q.size) (ext_rest hQ) (by omega) (fun h => by rw [h] at hu; have : (117 : UInt8).toNat = 117 := rfl; omega) (fun h => by rw [h] at hu; have : (120 : UInt8).toNat = 120 := rfl; omega)]
        rfl)
  have h3 : isSgs ((Utf8.decode s i).1 : Nat) = false := by simpa using h3
  rw [if_neg (by rw [h3]; decide)] at hU
  have hne : ¬ ((Utf8.decode s i).1 = 65533 ∧ (Utf8.decode s i).2 = 1) := fun h => h1 ⟨by omega, by omega⟩
  rw [hU] at hQ ⊢
  have hdl := drop_len hQ hp
  have hBj : ∀ j, j < unitW s i → B (Q ++ nlB) (p + j) = B s (i + j) := fun j hj => by
    rw [nl_B Q _ (by omega), B_drop hQ (by omega), seg_range s i _ (by omega), List.getD_eq_getElem?_getD, List.getElem?_map, List.getElem?_range hj]
    have := B_lt s (i + j)
    simp; omega
  have hd : Utf8.decode (Q ++ nlB) p = ((Utf8.decode s i).1, (seg s i (i + unitW s i)).length) := by
    rw [hln, hw, decode_B]
    have hB0 := hBj 0 (by omega)
    rw [Nat.add_zero, Nat.add_zero] at hB0
    rw [hB0]
    have hnz := nl_size Q
    exact decN_pre (by rw [← decode_B]) hne (by omega) (fun h => hBj 1 (by omega)) (fun h => hBj 2 (by omega)) (fun h => hBj 3 (by omega))
  have hbk : isBlk ((Utf8.decode s i).1 : Nat) = false := by
    unfold isBlk
    simp only [Bool.or_eq_false_iff, beq_eq_false_iff_ne]
    refine ⟨⟨⟨?_, ?_⟩, ?_⟩, ?_⟩ <;> omega
  exact run_plain hQ hp (by omega) hd hF hrd hbk h3 (nsgn h3 hi hne)

theorem run_quo (s Q : ByteArray) : ∀ (f i p : Nat) (F : Nat) (c : Sc) (x : List UInt8), Q.data.toList.drop p = quoF s f i → s.size ≤ i + f → i ≤ s.size → p ≤ Q.size → Q.size + 1 ≤ p + F → Bd p c x →
    ∃ F' c', runS Q F p c = runS Q F' Q.size c' ∧ Bd Q.size c' (x ++ seg s i s.size) ∧ 1 ≤ F' := by
  have hend : ∀ (p F : Nat) (c : Sc) (x : List UInt8), Q.data.toList.drop p = [] → p ≤ Q.size → Q.size + 1 ≤ p + F → Bd p c x → ∃ F' c', runS Q F p c = runS Q F' Q.size c' ∧ Bd Q.size c' (x ++ seg s s.size s.size) ∧ 1 ≤ F' := by
    intro p F c x hq hp hF hb
    have : p = Q.size := by
      have h1 := congrArg List.length hq
      rw [List.length_drop, ← Lib.size_eq] at h1
      simp at h1
      omega
    subst this
    exact ⟨F, c, rfl, by rw [seg_self, List.append_nil]; exact hb, by omega⟩
  intro f
  induction f with
  | zero =>
    intro i p F c x hq hf hi hp hF hb
    have : i = s.size := by omega
    subst this
    exact hend p F c x hq hp hF hb
  | succ f ih =>
    intro i p F c x hq hf hi hp hF hb
    rw [quoF] at hq
    by_cases hlt : i < s.size
    · rw [if_pos hlt] at hq
      obtain ⟨u1, u2, u3⟩ := unitW_bd s i hi
      have u3 := u3 hlt
      obtain ⟨F1, c1, e1, e2, e3⟩ := run_unit hlt hq hp hF (hb.rd Q)
      obtain ⟨F2, c2, e4, e5, e6⟩ := ih (i + unitW s i) (p + (quoU s i).length) F1 c1 _ (drop_more hq) (by omega) (by omega) (drop_len hq hp) e3 e2
      refine ⟨F2, c2, e1.trans e4, ?_, e6⟩
      rw [List.append_assoc, seg_app s i _ _ (by omega) (by omega)] at e5
      exact e5
    · rw [if_neg hlt] at hq
      have : i = s.size := by omega
      subst this
      exact hend p F c x hq hp hF hb
theorem run_end {Q : ByteArray} {F : Nat} {c : Sc} {x : List UInt8} (hF : 1 ≤ F) (hb : Bd Q.size c x) : ∃ l k, runS Q F Q.size c = .ok ⟨0, (l, k, Q.size), (l, k, Q.size), x, c.quote, c.behind, [⟨1, x, (1, 1, 0)⟩]⟩ := by
  obtain ⟨F, rfl⟩ : ∃ f, F = f + 1 := ⟨F - 1, by omega⟩
  obtain ⟨h1, h2⟩ := hb.token Q ((10 : Nat) : Int)
  have hx := (plNext_ix Q c.here Q.size).1
  have hpl : plainS Q { c with here := plNext Q c.here Q.size } ((10 : Nat) : Int) = .left { c with st := 4, here := plNext Q c.here Q.size } := by
    unfold plainS
    rw [if_neg (by decide), if_neg (by decide), if_pos (by decide)]
  have ht : tokenS Q { c with here := plNext Q c.here Q.size } ((10 : Nat) : Int) = .ok ⟨0, plNext Q c.here Q.size, plNext Q c.here Q.size, x, c.quote, c.behind, [⟨1, x, (1, 1, 0)⟩]⟩ := by
    rw [h1]
    unfold textS
    rw [h2, hpl]
    unfold betweenS
    simp only
    rw [if_pos (by decide)]
    unfold addT
    simp only [hb.fr, hb.toks, hb.text, List.nil_append]
  refine ⟨(plNext Q c.here Q.size).1, (plNext Q c.here Q.size).2.1, ?_⟩
  rw [runS_one (by omega) (decode_end Q) ht]
  have hp2 : plNext Q c.here Q.size = ((plNext Q c.here Q.size).1, (plNext Q c.here Q.size).2.1, Q.size) := Prod.ext rfl (Prod.ext rfl hx)
  rw [← hp2]
  cases F with
  | zero => rfl
  | succ f => rw [runS, if_neg (by omega)]

theorem dec_hi_bytes {s : ByteArray} {i : Nat} (h : 128 ≤ (Utf8.decode s i).1) (hne : ¬ ((Utf8.decode s i).1 = 65533 ∧ (Utf8.decode s i).2 = 1)) : ∀ j, j < (Utf8.decode s i).2 → 128 ≤ B s (i + j) := by
  rw [decode_B] at h hne ⊢
  revert h hne
  unfold decodeN
  repeat' split
  all_goals (intro h hne j hj; simp only at h hne hj)
  · omega
  · obtain rfl | rfl : j = 0 ∨ j = 1 := by omega
    · rw [Nat.add_zero]; omega
    · omega
  · exact absurd ⟨trivial, trivial⟩ hne
  · obtain rfl | rfl | rfl : j = 0 ∨ j = 1 ∨ j = 2 := by omega
    · rw [Nat.add_zero]; omega
    · omega
    · omega
  · exact absurd ⟨trivial, trivial⟩ hne
  · obtain rfl | rfl | rfl | rfl : j = 0 ∨ j = 1 ∨ j = 2 ∨ j = 3 := by omega
    · rw [Nat.add_zero]; omega
    · omega
    · omega
    · omega
  · exact absurd ⟨trivial, trivial⟩ hne
  · exact absurd ⟨trivial, trivial⟩ hne
theorem quoU_no10 {s : ByteArray} {i : Nat} (hi : i < s.size) : ∀ b ∈ quoU s i, b ≠ 10 := by
  have hx : ∀ n, n < 256 → ∀ b ∈ hexL n, b ≠ 10 := by decide +kernel
  have hw := unitW_dec hi
  obtain ⟨d1, d2, d3⟩ := dec_width s i hi
  have hdP : (decP s (i : Nat)).1 = ((Utf8.decode s i).1 : Int) := by rw [decP_in s i hi]
  have hU : quoU s i = escV (seg s i (i + unitW s i)) ((Utf8.decode s i).1 : Nat) := by unfold quoU; rw [hdP]; rfl
  have hln : (seg s i (i + unitW s i)).length = unitW s i := by rw [seg_len s i _ (by omega) (by omega)]; omega
  rw [hU]
  unfold escV
  split
  · intro b hb
    simp only [List.cons_append, List.nil_append, List.mem_cons] at hb
    rcases hb with rfl | rfl | hb
    · decide
    · decide
    · exact hx _ (UInt8.toNat_lt _) b hb
  · rename_i h1
    split
    · intro b hb
      simp only [List.cons_append, List.nil_append, List.mem_cons, List.mem_append, List.not_mem_nil, or_false] at hb
      rcases hb with rfl | rfl | rfl | hb | rfl
      · decide
      · decide
      · decide
      · exact hx _ (by omega) b hb
      · decide
    · rename_i h2
      have hne : ¬ ((Utf8.decode s i).1 = 65533 ∧ (Utf8.decode s i).2 = 1) := fun h => h1 ⟨by omega, by omega⟩
      have hs : ∀ b ∈ seg s i (i + unitW s i), b ≠ 10 := by
        intro b hb
        rw [seg_range s i _ (by omega)] at hb
        obtain ⟨j, hj, rfl⟩ := List.mem_map.1 hb
        rw [List.mem_range] at hj
        have hBlt := B_lt s (i + j)
        intro h10
        have h10' : B s (i + j) = 10 := by
          have := congrArg UInt8.toNat h10
          simpa [Nat.mod_eq_of_lt hBlt] using this
        by_cases hlo : (Utf8.decode s i).1 < 128
        · obtain ⟨q1, q2⟩ := dec_r_lo hlo
          obtain rfl : j = 0 := by omega
          rw [Nat.add_zero] at h10'
          omega
        · have := dec_hi_bytes (by omega) hne j (by omega)
          omega
      split
      · intro b hb
        simp only [List.cons_append, List.nil_append, List.mem_cons] at hb
        rcases hb with rfl | hb
        · decide
        · exact hs b hb
      · exact hs
theorem quoF_no10 (s : ByteArray) : ∀ (f i : Nat), ∀ b ∈ quoF s f i, b ≠ 10 := by
  intro f
  induction f with
  | zero => intro i b hb; simp [quoF] at hb
  | succ f ih =>
    intro i b hb
    rw [quoF] at hb
    split at hb
    · rename_i h
      rcases List.mem_append.1 hb with hb | hb
      · exact quoU_no10 h b hb
      · exact ih _ b hb
    · simp at hb
theorem nlN_none {Q : ByteArray} (h : ∀ b ∈ Q.data.toList, b ≠ 10) : nlN Q = 0 := by
  unfold nlN
  have h1 : ∀ b ∈ Lib.trimSuffix Q.data.toList [10], b ≠ 10 := by
    intro b hb
    unfold Lib.trimSuffix at hb
    split at hb
    · exact h b (List.mem_of_mem_take hb)
    · exact h b hb
  generalize Lib.trimSuffix Q.data.toList [10] = l at h1
  induction l with
  | nil => rfl
  | cons a l ih =>
    have h2 := h1 a (by simp)
    have h3 := ih (fun b hb => h1 b (by simp [hb]))
    unfold Lib.countByte at h3 ⊢
    simp_all
theorem scan_quo (s : ByteArray) (hz : (quoV s).length ≤ 1048576) : ∃ l k, scanS ⟨(quoV s).toArray⟩ = .ok [⟨1, s.data.toList, (1, 1, 0)⟩, ⟨0, [], (l, k, (quoV s).length)⟩] := by
  by_cases h0 : s.size = 0
  · have hq : quoV s = [39, 39] := by unfold quoV; rw [if_pos h0]
    have hs : s.data.toList = [] := by apply List.eq_nil_of_length_eq_zero; rw [← Lib.size_eq]; exact h0
    rw [hq, hs]
    exact ⟨1, 3, by kernel_rfl⟩
  · have hq : quoV s = quoF s s.size 0 := by unfold quoV; rw [if_neg h0]
    obtain ⟨Q, hQ⟩ : ∃ Q : ByteArray, Q = ⟨(quoV s).toArray⟩ := ⟨_, rfl⟩
    have hQl : Q.data.toList = quoF s s.size 0 := by rw [hQ]; simp [hq]
    have hQz : Q.size = (quoV s).length := by rw [Lib.size_eq, hQl, hq]
    rw [← hQ]
    obtain ⟨n, hn⟩ : ∃ n, s.size = n + 1 := ⟨s.size - 1, by omega⟩
    have hqu : quoF s s.size 0 = quoU s 0 ++ quoF s n (0 + unitW s 0) := by rw [hn, quoF, if_pos (by omega)]
    obtain ⟨u1, u2, u3⟩ := unitW_bd s 0 (by omega)
    have u3 := u3 (by omega)
    have hd0 : Q.data.toList.drop 0 = quoU s 0 ++ quoF s n (0 + unitW s 0) := by rw [List.drop_zero, hQl, hqu]
    obtain ⟨F1, c1, e1, e2, e3⟩ := run_unit (F := Q.size + 1) (by omega) hd0 (by omega) (by omega) (rd_first Q)
    obtain ⟨F2, c2, e4, e5, e6⟩ := run_quo s Q n (0 + unitW s 0) (0 + (quoU s 0).length) F1 c1 _ (drop_more hd0) (by omega) (by omega) (drop_len hd0 (by omega)) e3 e2
    rw [List.nil_append, seg_app s 0 _ _ (by omega) (by omega), seg_all] at e5
    obtain ⟨l, k, e7⟩ := run_end e6 e5
    refine ⟨l, k, ?_⟩
    have hn10 : nlN Q = 0 := nlN_none (by rw [hQl]; exact quoF_no10 s _ _)
    unfold scanS
    rw [if_neg (by omega), if_neg (by omega), e1, e4, e7]
    simp only [endS]
    rw [if_neg (by decide), if_neg (by decide), hQz]
    rfl
end Go.Proofs.YtbnnhbmnddaafaaGreatDoor
