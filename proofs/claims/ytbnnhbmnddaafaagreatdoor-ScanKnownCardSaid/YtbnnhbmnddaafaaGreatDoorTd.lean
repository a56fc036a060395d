/- What the scanner's run makes of a text; of the next token. No run in this text. -/
import Derived.Test.YtbnnhbmnddaafaaGreatDoorGz16
namespace Go.Proofs.YtbnnhbmnddaafaaGreatDoor
open Go Go.RowKit Go.Kt Go.Kt.Rg Go.Shelf Go.Lib

section
variable {s : ByteArray} {T : List Tk} {fr : Pl}
theorem txO_took {c1 c2 : Sc} {r : Int} (h : plainS s c1 r = .took c2) : txO s c1 r = .ok c2 := by unfold txO; rw [h]
theorem txO_bad {c1 : Sc} {r : Int} {no : Nat} {p : Pl} (h : plainS s c1 r = .bad no p) : txO s c1 r = .bad no p := by unfold txO; rw [h]
theorem txO_left {c1 c2 : Sc} {r : Int} (h : plainS s c1 r = .left c2) : txO s c1 r = betweenS s (addT c2 1 c2.text) r := by unfold txO; rw [h]
theorem esc_pass {i k : Nat} {c : Sc} {f : Nat} (ha : Ahead s (i + 1) c) (hb : Bdy s (i + k)) (hk : i + k ≤ s.size) (h2 : 2 ≤ k) (h7 : c.st = 7) (hbh : c.behind = i + k) (hf : Fu s (i + 1) f) :
    ∃ c' f', Ahead s (i + k) c' ∧ TX s (i + k) c' c.from c.toks c.text ∧ Fu s (i + k) f' ∧ runS s f (i + 1) c = runS s f' (i + k) c' := by
  obtain ⟨c', f', g1, ⟨g2, g3, g4, g5, g6⟩, g7, g8⟩ := run_hold (s := s) (fun _ c2 => c2.st = 7 ∧ c2.behind = i + k ∧ c2.from = c.from ∧ c2.toks = c.toks ∧ c2.text = c.text) (i + 1) (i + k) hk (fun q c2 h1 h3 h4 hq hc => by
    obtain ⟨e1, e2, e3, e4, e5⟩ := hc
    refine ⟨hq.fits hb h3, { c2 with here := plNext s c2.here q }, ?_, e1, e2, e3, e4, e5⟩
    unfold tokenS
    rw [if_neg (by simp [e1]), if_neg (by simp [e1]), if_neg (by simp [e1]), if_neg (by simp [e1])]
    unfold textS pieceS
    rw [if_neg (by simp [e1]), if_neg (by simp [e1]), if_pos (by simp [e1])]
    unfold escapeS
    rw [if_neg (by simp only [(plNext_ix s c2.here q).1, e2]; omega)]) (k - 1) (i + 1) c f (by omega) (Nat.le_refl _) (by omega) ha ⟨h7, hbh, rfl, rfl, rfl⟩ hf
  exact ⟨c', f', g1, (TX.of7 (s := s) g2 (by omega)).cast g4 g5 g6, g7, g8⟩

theorem xtext_run : ∀ (g i : Nat) (x : List UInt8) (c : Sc) (f : Nat), s.size ≤ i + g → Ahead s i c → TX s i c fr T x → Fu s i f →
    match xtextF s g i x with
    | .ok y next => next ≤ s.size ∧ i ≤ next ∧ (i < s.size → (B s i = 39 ∨ B s i = 92 ∨ isBlk (B s i : Nat) = false ∧ isSgs (B s i : Nat) = false) → i < next) ∧ ∃ c' f', Ahead s next c' ∧ BT s next c' (T ++ [⟨1, y, fr⟩]) ∧ Fu s next f' ∧ runS s f i c = runS s f' next c'
    | .bad no j => ∃ pa : Pl, (∃ n, plN s n = pa) ∧ pa.2.2 = j ∧ finS (runS s f i c) = .bad no pa.1 pa.2.1 := by
  intro g
  induction g using Nat.strongRecOn with
  | ind g ih =>
    intro i x c f hg ha hX hf
    have hle := ha.le
    by_cases hi : i < s.size
    · obtain ⟨g, rfl⟩ : ∃ g', g = g' + 1 := ⟨g - 1, by omega⟩
      obtain ⟨c1, b1, b2, b3, b4, b5⟩ := hX
      have hx1 : c1.here.2.2 = i := by rw [b1]; exact (plNext_ix s c.here i).1
      -- what follows a piece that was taken
      have after : ∀ (j : Nat) (y : List UInt8) (c' : Sc) (f' : Nat), i < j → j ≤ s.size → Ahead s j c' → TX s j c' fr T y → Fu s j f' → runS s f i c = runS s f' j c' →
          ∀ g', g' < g + 1 → s.size ≤ j + g' → match xtextF s g' j y with
          | .ok y next => next ≤ s.size ∧ i ≤ next ∧ (i < s.size → (B s i = 39 ∨ B s i = 92 ∨ isBlk (B s i : Nat) = false ∧ isSgs (B s i : Nat) = false) → i < next) ∧ ∃ c' f', Ahead s next c' ∧ BT s next c' (T ++ [⟨1, y, fr⟩]) ∧ Fu s next f' ∧ runS s f i c = runS s f' next c'
          | .bad no j => ∃ pa : Pl, (∃ n, plN s n = pa) ∧ pa.2.2 = j ∧ finS (runS s f i c) = .bad no pa.1 pa.2.1 := fun j y c' f' h1 h2 h3 h4 h5 h6 g' h7 h8 => by
        have := ih g' h7 j y c' f' h8 h3 h4 h5
        rw [h6]
        cases hz : xtextF s g' j y with
        | ok z next =>
          rw [hz] at this
          obtain ⟨q1, q2, q3, q4⟩ := this
          exact ⟨q1, by omega, fun _ _ => by omega, q4⟩
        | bad no m => rw [hz] at this; exact this
      rw [xtextF, if_pos hi]
      by_cases h39 : B s i = 39
      · rw [if_pos h39]
        have hr : rU s i = 39 := (rU_is hi (by decide)).2 h39
        have hpl : plainS s c1 (rU s i : Nat) = .took { c1 with st := 5, quote := c1.here } := by rw [hr]; rfl
        obtain ⟨f', e, ha2, hf2, _⟩ := run_step ha hi hf (b5.trans (txO_took hpl))
        have hw : (Utf8.decode s i).2 = 1 := by rw [dec_lo s i (by omega)]
        rw [hw] at e ha2 hf2
        have hq := quo_run (s := s) (fr := fr) (T := T) (x0 := x) (qp := c1.here) s.size (i + 1) [] _ f' (by omega) ha2 rfl b2 b3 (by simp only [b4, List.append_nil]) rfl hf2
        unfold xquoV
        cases hv : xquoF s s.size (i + 1) [] with
        | none =>
          rw [hv] at hq
          obtain ⟨hn1, hn2⟩ := ha.pl
          exact ⟨c1.here, by rw [b1]; exact hn1, hx1, by rw [e]; exact hq⟩
        | some r =>
          obtain ⟨y, next⟩ := r
          rw [hv] at hq
          obtain ⟨q1, q2, c', f'', q3, q4, q5, q6⟩ := hq
          exact after next (x ++ y) c' f'' (by omega) q1 q3 q4 q5 (e.trans q6) g (by omega) (by omega)
      rw [if_neg h39]
      by_cases h92 : B s i = 92
      · rw [if_pos h92]
        have hr : rU s i = 92 := (rU_is hi (by decide)).2 h92
        cases hu : unescV (s.extract i s.size) with
        | none =>
          have hpl : plainS s c1 (rU s i : Nat) = .bad 9 c1.here := by
            rw [hr]
            unfold plainS
            rw [if_neg (by decide), if_pos (by decide), hx1, hu]
          obtain ⟨hn1, hn2⟩ := ha.pl
          refine ⟨c1.here, by rw [b1]; exact hn1, hx1, ?_⟩
          rw [run_bad hle hf (b5.trans (txO_bad hpl))]
          rfl
        | some r =>
          obtain ⟨t, k⟩ := r
          have hpl : plainS s c1 (rU s i : Nat) = .took { c1 with st := 7, text := c1.text ++ t, behind := i + k } := by
            rw [hr]
            unfold plainS
            rw [if_neg (by decide), if_pos (by decide), hx1, hu]
          obtain ⟨f', e, ha2, hf2, _⟩ := run_step ha hi hf (b5.trans (txO_took hpl))
          have hw : (Utf8.decode s i).2 = 1 := by rw [dec_lo s i (by omega)]
          rw [hw] at e ha2 hf2
          obtain ⟨k1, k2, k3⟩ := esc_bdy ha.bdy hi h92 hu
          obtain ⟨c', f'', q3, q4, q5, q6⟩ := esc_pass ha2 k1 k3 k2 rfl rfl hf2
          exact after (i + k) (x ++ t) c' f'' (by omega) k3 q3 (q4.cast b2 b3 (by rw [← b4])) q5 (e.trans q6) g (by omega) (by omega)
      rw [if_neg h92]
      have n39 : ((rU s i : Nat) : Int) ≠ 39 := fun h => h39 ((rU_is hi (by decide)).1 (by omega))
      have n92 : ((rU s i : Nat) : Int) ≠ 92 := fun h => h92 ((rU_is hi (by decide)).1 (by omega))
      by_cases hbs : isBlk (B s i : Nat) = true ∨ isSgs (B s i : Nat) = true
      · rw [if_pos hbs]
        have hpl : plainS s c1 (rU s i : Nat) = .left { c1 with st := 4 } := by
          unfold plainS
          rw [if_neg n39, if_neg n92, rU_blk hi, rU_sgs hi]
          by_cases h1 : isBlk (B s i : Nat) = true
          · rw [if_pos h1]
          · rw [if_neg h1, if_pos (hbs.resolve_left h1)]
        refine ⟨hle, Nat.le_refl _, fun _ h => ?_, c, f, ha, ⟨addT { c1 with st := 4 } 1 c1.text, b1, ?_, b5.trans (txO_left hpl)⟩, hf, rfl⟩
        · exfalso
          rcases h with h | h | ⟨h1, h2⟩
          · exact h39 h
          · exact h92 h
          · rcases hbs with h | h
            · rw [h1] at h; cases h
            · rw [h2] at h; cases h
        · unfold addT
          simp only [b2, b3, b4]
      · rw [if_neg hbs]
        have hpl : plainS s c1 (rU s i : Nat) = .took { c1 with st := 4, text := c1.text ++ unitL s i } := by
          unfold plainS
          rw [if_neg n39, if_neg n92, rU_blk hi, rU_sgs hi, if_neg (fun h => hbs (.inl h)), if_neg (fun h => hbs (.inr h)), hx1]
        obtain ⟨f', e, ha2, hf2, _⟩ := run_step ha hi hf (b5.trans (txO_took hpl))
        rw [← unitW_dec hi] at e ha2 hf2
        obtain ⟨u1, u2, u3⟩ := unitW_bd s i hle
        have := u3 hi
        exact after (i + unitW s i) (x ++ seg s i (i + unitW s i)) _ f' (by omega) (by omega) ha2 ((TX.of4 (s := s) rfl).cast b2 b3 (by simp only [b4]; rfl)) hf2 e g (by omega) (by omega)
    · obtain rfl : i = s.size := by omega
      have hz : xtextF s g s.size x = .ok x s.size := by
        cases g with
        | zero => rfl
        | succ g => rw [xtextF, if_neg hi]
      rw [hz]
      obtain ⟨c1, b1, b2, b3, b4, b5⟩ := hX
      have hr : rU s s.size = 10 := rU_out hi
      have hpl : plainS s c1 (rU s s.size : Nat) = .left { c1 with st := 4 } := by rw [hr]; exact plain_10
      refine ⟨Nat.le_refl _, Nat.le_refl _, fun h => absurd h hi, c, f, ha, ⟨addT { c1 with st := 4 } 1 c1.text, b1, ?_, b5.trans (txO_left hpl)⟩, hf, rfl⟩
      unfold addT
      simp only [b2, b3, b4]

inductive X1 where
  | fin
  | tok (k : Nat) (x : List UInt8) (next : Nat)
  | bad (no i : Nat)
def xoneV (s : ByteArray) (p : Nat) : X1 :=
  if p < s.size then
    (if B s p = 93 then .bad 25 p else if B s p = 42 then .bad 4 p
     else if B s p = 91 then (if xfindI s (93 : Nat) p < 0 then .bad 25 p else .tok 3 (evnV (s.extract (p + 1) (xfindI s (93 : Nat) p).toNat)) ((xfindI s (93 : Nat) p).toNat + 1))
     else if sgnN s p ≠ 0 then .tok 2 (seg s p (p + sgnN s p)) (p + sgnN s p)
     else match xtextV s p with | .ok x next => .tok 1 x next | .bad no i => .bad no i)
  else .fin
theorem one_run {p : Nat} {c : Sc} {f : Nat} (ha : Ahead s p c) (hb : BT s p c T) (hf : Fu s p f) (hp : p < s.size → isBlk (B s p : Nat) = false ∧ B s p ≠ 35) :
    match xoneV s p with
    | .fin => p = s.size ∧ finS (runS s f p c) = .ok (T ++ [⟨0, [], plNext s c.here p⟩])
    | .tok k x next => (k = 1 ∨ k = 2 ∨ k = 3) ∧ p < next ∧ next ≤ s.size ∧ ∃ c' f', Ahead s next c' ∧ BT s next c' (T ++ [⟨k, x, plNext s c.here p⟩]) ∧ Fu s next f' ∧ runS s f p c = runS s f' next c'
    | .bad no j => ∃ pa : Pl, (∃ n, plN s n = pa) ∧ pa.2.2 = j ∧ finS (runS s f p c) = .bad no pa.1 pa.2.1 := by
  have hle := ha.le
  unfold xoneV
  by_cases hps : p < s.size
  · rw [if_pos hps]
    obtain ⟨hk, h35⟩ := hp hps
    have r35 : ((rU s p : Nat) : Int) ≠ 35 := fun h => h35 ((rU_is hps (by decide)).1 (by omega))
    have hbk : ¬ isBlk (rU s p : Nat) = true := by rw [rU_blk hps, hk]; decide
    by_cases h93 : B s p = 93
    · rw [if_pos h93]
      have hr : rU s p = 93 := (rU_is hps (by decide)).2 h93
      obtain ⟨cc, b1, b2, b3⟩ := hb
      have hbs : betweenS s cc (rU s p : Nat) = .bad 25 cc.here := by
        rw [hr]
        unfold betweenS
        rw [if_neg (by decide), if_neg (by decide), if_neg (by decide), if_neg (by decide), if_pos (by decide)]
      obtain ⟨hn1, hn2⟩ := ha.pl
      refine ⟨cc.here, by rw [b1]; exact hn1, by rw [b1]; exact hn2, ?_⟩
      rw [run_bad hle hf (b3.trans hbs)]
      rfl
    rw [if_neg h93]
    by_cases h42 : B s p = 42
    · rw [if_pos h42]
      have hr : rU s p = 42 := (rU_is hps (by decide)).2 h42
      obtain ⟨cc, b1, b2, b3⟩ := hb
      have hbs : betweenS s cc (rU s p : Nat) = .bad 4 cc.here := by
        rw [hr]
        unfold betweenS
        rw [if_neg (by decide), if_neg (by decide), if_neg (by decide), if_neg (by decide), if_neg (by decide), if_pos (by decide)]
      obtain ⟨hn1, hn2⟩ := ha.pl
      refine ⟨cc.here, by rw [b1]; exact hn1, by rw [b1]; exact hn2, ?_⟩
      rw [run_bad hle hf (b3.trans hbs)]
      rfl
    rw [if_neg h42]
    by_cases h91 : B s p = 91
    · rw [if_pos h91]
      obtain ⟨o1, o2⟩ := option_run ha hb hf hps h91
      rcases xfindI_spec s 93 p hle with ⟨e1, h1⟩ | ⟨j, e1, h1, h2, h3, h4⟩
      · rw [e1, if_pos (by decide)]
        obtain ⟨hn1, hn2⟩ := ha.pl
        exact ⟨_, hn1, hn2, o2 h1⟩
      · rw [e1, if_neg (by omega), Int.toNat_natCast]
        exact ⟨.inr (.inr rfl), by omega, by omega, o1 j h1 h2 h3 h4⟩
    rw [if_neg h91]
    by_cases hsg : sgnN s p ≠ 0
    · rw [if_pos hsg]
      have := (sgn_stop s p hsg).1
      exact ⟨.inr (.inl rfl), by omega, this, sign_run ha hb hf hps hk h35 hsg⟩
    · rw [if_neg hsg]
      have hsn : ¬ isSgn (encL (rU s p : Nat)) = true := fun h => hsg ((sgn_first hps).1 h)
      have hfirst : B s p = 39 ∨ B s p = 92 ∨ isBlk (B s p : Nat) = false ∧ isSgs (B s p : Nat) = false := by
        by_cases h39 : B s p = 39
        · exact .inl h39
        by_cases h92 : B s p = 92
        · exact .inr (.inl h92)
        refine .inr (.inr ⟨hk, ?_⟩)
        have h0 : sgnN s p = 0 := by omega
        have hs : ∀ b : Nat, b ≠ 39 → b ≠ 92 → b ≠ 93 → b ≠ 42 → b ≠ 91 → b ≠ 35 → b ≠ 60 → b ≠ 61 → b ≠ 38 → b ≠ 47 → b ≠ 45 → isSgs (b : Nat) = false := fun b a1 a2 a3 a4 a5 a6 a7 a8 a9 a10 a11 => by
          unfold isSgs sgsI
          rw [← Bool.not_eq_true, List.contains_iff_mem]
          intro h
          simp only [List.mem_cons, List.not_mem_nil, or_false] at h
          omega
        have hne : B s p ≠ 60 ∧ B s p ≠ 61 ∧ B s p ≠ 38 ∧ B s p ≠ 47 ∧ B s p ≠ 45 := by
          unfold sgnN at h0
          refine ⟨fun h => ?_, fun h => ?_, fun h => ?_, fun h => ?_, fun h => ?_⟩
          · rw [if_pos h] at h0; repeat' split at h0
            all_goals omega
          · rw [if_neg (by omega), if_pos h] at h0; split at h0 <;> omega
          · rw [if_neg (by omega), if_neg (by omega), if_pos (.inl h)] at h0; omega
          · rw [if_neg (by omega), if_neg (by omega), if_pos (.inr (.inl h))] at h0; omega
          · rw [if_neg (by omega), if_neg (by omega), if_pos (.inr (.inr h))] at h0; omega
        exact hs _ h39 h92 h93 h42 h91 h35 hne.1 hne.2.1 hne.2.2.1 hne.2.2.2.1 hne.2.2.2.2
      obtain ⟨cc, b1, b2, b3⟩ := hb
      have r91 : ((rU s p : Nat) : Int) ≠ 91 := fun h => h91 ((rU_is hps (by decide)).1 (by omega))
      have r93 : ((rU s p : Nat) : Int) ≠ 93 := fun h => h93 ((rU_is hps (by decide)).1 (by omega))
      have r42 : ((rU s p : Nat) : Int) ≠ 42 := fun h => h42 ((rU_is hps (by decide)).1 (by omega))
      have hnl : ∀ c2, plainS s { cc with st := 4, «from» := cc.here, text := [] } (rU s p : Nat) ≠ .left c2 := fun c2 h => by
        unfold plainS at h
        rw [rU_blk hps, rU_sgs hps] at h
        split at h
        · cases h
        rename_i g39
        split at h
        · split at h <;> cases h
        rename_i g92
        rcases hfirst with h1 | h1 | ⟨h1, h2⟩
        · exact g39 (by rw [(rU_is hps (by decide)).2 h1]; rfl)
        · exact g92 (by rw [(rU_is hps (by decide)).2 h1]; rfl)
        · rw [if_neg (by rw [h1]; decide), if_neg (by rw [h2]; decide)] at h
          cases h
      have hX : TX s p c (plNext s c.here p) T [] := by
        refine ⟨{ cc with st := 4, «from» := cc.here, text := [] }, b1, b1, b2, rfl, b3.trans ?_⟩
        unfold betweenS
        rw [if_neg hbk, if_neg r35, if_neg hsn, if_neg r91, if_neg r93, if_neg r42]
        unfold txO
        cases hpl : plainS s { cc with st := 4, «from» := cc.here, text := [] } (rU s p : Nat) with
        | took c2 => rfl
        | bad no z => rfl
        | left c2 => exact absurd hpl (hnl c2)
      have := xtext_run (s := s) (fr := plNext s c.here p) (T := T) s.size p [] c f (by omega) ha hX hf
      unfold xtextV
      cases hz : xtextF s s.size p [] with
      | ok y next =>
        rw [hz] at this
        obtain ⟨q1, q2, q3, q4⟩ := this
        exact ⟨.inl rfl, q3 hps hfirst, q1, q4⟩
      | bad no j => rw [hz] at this; exact this
  · rw [if_neg hps]
    obtain rfl : p = s.size := by omega
    obtain ⟨cc, b1, b2, b3⟩ := hb
    rw [rU_out hps] at b3
    have h10 : betweenS s cc ((10 : Nat) : Int) = .ok { cc with st := 0, «from» := cc.here } := between10 s cc
    refine ⟨rfl, ?_⟩
    rw [run_fin hf (b3.trans h10)]
    show endS _ = _
    unfold endS
    rw [if_neg (by simp), if_neg (by simp)]
    simp only [b1, b2]

def XS (s : ByteArray) (i : Nat) (T : List Tk) (R : SR) : Prop := ∃ c f, Ahead s i c ∧ BT s i c T ∧ Fu s i f ∧ finS (runS s f i c) = R
theorem XS.first (s : ByteArray) : XS s 0 [] (finS (runS s (s.size + 1) 0 c0S)) := ⟨c0S, s.size + 1, .inl ⟨rfl, rfl⟩, BT.of0 (s := s) (i := 0) (c := c0S) rfl, by unfold Fu; omega, rfl⟩
theorem XS.step {i : Nat} {R : SR} (h : XS s i T R) : i ≤ xpastF s (s.size + 1) i ∧ xpastF s (s.size + 1) i ≤ s.size ∧ ∃ pl : Pl, (∃ n, plN s n = pl) ∧ pl.2.2 = xpastF s (s.size + 1) i ∧
    match xoneV s (xpastF s (s.size + 1) i) with
    | .fin => xpastF s (s.size + 1) i = s.size ∧ R = .ok (T ++ [⟨0, [], pl⟩])
    | .tok k x next => (k = 1 ∨ k = 2 ∨ k = 3) ∧ xpastF s (s.size + 1) i < next ∧ next ≤ s.size ∧ XS s next (T ++ [⟨k, x, pl⟩]) R
    | .bad no j => ∃ pa : Pl, (∃ n, plN s n = pa) ∧ pa.2.2 = j ∧ R = .bad no pa.1 pa.2.1 := by
  obtain ⟨c, f, ha, hb, hf, hR⟩ := h
  obtain ⟨p1, p2, p3, c', f', q1, q2, q3, q4⟩ := past_run (s := s) (T := T) (s.size + 1) i c f ha hb (by omega) hf
  rw [q4] at hR
  refine ⟨p2, p1, plNext s c'.here (xpastF s (s.size + 1) i), q1.pl.1, q1.pl.2, ?_⟩
  have := one_run q1 q2 q3 p3
  cases hz : xoneV s (xpastF s (s.size + 1) i) with
  | fin => rw [hz] at this; exact ⟨this.1, hR.symm.trans this.2⟩
  | tok k x next =>
    rw [hz] at this
    obtain ⟨a1, a2, a3, c2, f2, a4, a5, a6, a7⟩ := this
    exact ⟨a1, a2, a3, c2, f2, a4, a5, a6, by rw [← a7]; exact hR⟩
  | bad no j =>
    rw [hz] at this
    obtain ⟨pa, a1, a2, a3⟩ := this
    exact ⟨pa, a1, a2, hR.symm.trans a3⟩
end
end Go.Proofs.YtbnnhbmnddaafaaGreatDoor
