/- Parts of the proof of what the last text says. -/
import Derived.Test.YtdmimdiffjpjpaaGreatDoorGz7
import Derived.Laws.IdiomCopy
import Derived.Lib.SliceRun
/- slices.BinarySearch and slices.Compact on rising numbers of 32 bits. -/
namespace Go.Proofs.YtdmimdiffjpjpaaGreatDoor
open Go Go.RowKit Go.Kt Go.Kt.Os Go.Sort

theorem oNaN2 (x : Int) (w : World) : Calls Tryz.prog 173 #[.int .i32 x] w fun e w' => e = .returned (.bool false) ∧ w' = w := by
  go_enter Tryz.func173, Tryz.ntmps173
  go_wp2
  go_ret
  exact ⟨by simp, rfl⟩

set_option maxRecDepth 100000 in
set_option maxHeartbeats 2000000 in
theorem oSearch (blk off cap n : Nat) (G : Nat → Int) (x : Int) (w : World) (hc : ∀ t, t < n → w.cell? ⟨blk, off + t, none⟩ = some (.int .i32 (G t))) (hs : ∀ i j, i ≤ j → j < n → G i ≤ G j) (hsz : n < 4611686018427387904) :
    Calls Tryz.prog 129 #[.slice (some ⟨blk, off, none⟩) n cap, .int .i32 x] w fun e w' =>
      ∃ (p : Nat) (f : Value), e = .returned (.tuple #[.int .i64 p, f]) ∧ p ≤ n ∧ (∀ t, t < p → G t < x) ∧ (∀ t, p ≤ t → t < n → x ≤ G t) ∧ Below w.heap.size w w' := by
  have HS := Lib.hid hs
  clear hs
  go_enter Tryz.func129, Tryz.ntmps129
  go_wp2
  go_loopw [7, 8] (fun vi vj wr => ∃ (i j q : Nat), vi = .int .i64 i ∧ vj = .int .i64 j ∧ i ≤ j ∧ j ≤ n ∧ Hid ((∀ t, t < i → G t < x) ∧ (∀ t, j ≤ t → t < n → x ≤ G t)) ∧ wr = w.drewN q) (fun vi vj _ => (RowKit.intOf vj).toNat - (RowKit.intOf vi).toNat)
  case atStart => exact ⟨0, n, 0, rfl, rfl, by omega, Nat.le_refl _, Lib.hid ⟨fun t h => absurd h (by omega), fun t h1 h2 => absurd h2 (by omega)⟩, rfl⟩
  case round =>
    obtain ⟨i, j, q, rfl, rfl, hij, hjn, hh, hw⟩ := hrel
    have hcw : ∀ t, t < n → wr.cell? ⟨blk, off + t, none⟩ = some (.int .i32 (G t)) := fun t ht => by rw [hw]; exact hc t ht
    have HW := Lib.hid hw
    clear hw
    by_cases hlt : i < j
    · have hltz : (i : Int) < (j : Int) := by omega
      obtain ⟨h, hh2⟩ : ∃ h, h = (i + j) / 2 := ⟨_, rfl⟩
      have hhz : ((i : Int) + (j : Int)) / 2 = (h : Int) := by omega
      have hm1 : i ≤ h := by omega
      have hm2 : h < j := by omega
      have HZ := Lib.hid hhz
      have HH := Lib.hid hh2
      clear hh2 hhz
      go_wp2_with fail
      rw [HZ.out, ← HH.out]
      refine (oLess _ _ _).mono ?_
      rintro e w2 ⟨rfl, rfl⟩
      cases hl : ltInt (G h) x
      · go_wp2
        go_roundw
        case rel => exact ⟨i, h, q, rfl, rfl, hm1, by omega, Lib.hid ⟨hh.out.1, fun t h1 h2 => by
          have e1 := HS.out h t h1 h2
          have e2 : x ≤ G h := by simpa [ltInt] using hl
          omega⟩, HW.out⟩
        case measure => simp [RowKit.intOf]; omega
      · go_wp2
        go_roundw
        case rel => exact ⟨h + 1, j, q, by go_num, rfl, by omega, hjn, Lib.hid ⟨fun t h1 => by
          have e1 := HS.out t h (by omega) (by omega)
          have e2 : G h < x := by simpa [ltInt] using hl
          omega, hh.out.2⟩, HW.out⟩
        case measure => simp [RowKit.intOf]; omega
    · have e : i = j := by omega
      subst e
      have hltz : ¬ (i : Int) < (i : Int) := by omega
      by_cases hin : i < n
      · have hinz : (i : Int) < (n : Int) := by omega
        cases hq : (G i == x)
        · go_wp2_with (go_at_call 173; refine (oNaN2 _ _).mono ?_; rintro e w2 ⟨rfl, rfl⟩)
          go_ret2
          first | exact ⟨i, ⟨_, rfl⟩, hjn, hh.out.1, hh.out.2, by rw [HW.out]; exact below_drewN (Below.refl _ _) _⟩ | exact ⟨i, rfl, hjn, hh.out.1, hh.out.2, by rw [HW.out]; exact below_drewN (Below.refl _ _) _⟩ | exact ⟨i, _, rfl, hjn, hh.out.1, hh.out.2, by rw [HW.out]; exact below_drewN (Below.refl _ _) _⟩
        · go_wp2_with (go_at_call 173; refine (oNaN2 _ _).mono ?_; rintro e w2 ⟨rfl, rfl⟩)
          go_ret2
          first | exact ⟨i, ⟨_, rfl⟩, hjn, hh.out.1, hh.out.2, by rw [HW.out]; exact below_drewN (Below.refl _ _) _⟩ | exact ⟨i, rfl, hjn, hh.out.1, hh.out.2, by rw [HW.out]; exact below_drewN (Below.refl _ _) _⟩ | exact ⟨i, _, rfl, hjn, hh.out.1, hh.out.2, by rw [HW.out]; exact below_drewN (Below.refl _ _) _⟩
      · have hinz : (n : Int) ≤ (i : Int) := by omega
        go_wp2
        go_ret2
        first | exact ⟨i, ⟨_, rfl⟩, hjn, hh.out.1, hh.out.2, by rw [HW.out]; exact below_drewN (Below.refl _ _) _⟩ | exact ⟨i, rfl, hjn, hh.out.1, hh.out.2, by rw [HW.out]; exact below_drewN (Below.refl _ _) _⟩ | exact ⟨i, _, rfl, hjn, hh.out.1, hh.out.2, by rw [HW.out]; exact below_drewN (Below.refl _ _) _⟩
end Go.Proofs.YtdmimdiffjpjpaaGreatDoor
/- slices.Compact on rising numbers of 32 bits. -/
namespace Go.Proofs.YtdmimdiffjpjpaaGreatDoor
open Go Go.RowKit Go.Kt Go.Kt.Os Go.Sort

/-- What stands in the first i places of H are the numbers of the first p of G, each once; behind p - 1 nothing has turned. -/
structure Cpt (n : Nat) (G : Nat → Int) (i p : Nat) (H : Nat → Int) : Prop where
  i1 : 1 ≤ i
  ip : i + 1 ≤ p
  pn : p ≤ n
  rise : ∀ j k, j < k → k < i → H j < H k
  last : H (i - 1) = G (p - 1)
  same : ∀ t, p ≤ t + 1 → t < n → H t = G t
  mem : ∀ x, (∃ t, t < i ∧ H t = x) ↔ ∃ t, t < p ∧ G t = x

theorem Cpt.start {n : Nat} {G : Nat → Int} {i : Nat} (h1 : 1 ≤ i) (hn : i < n) (hr : ∀ j k, j < k → k < i → G j < G k) (he : G i = G (i - 1)) : Cpt n G i (i + 1) G where
  i1 := h1
  ip := Nat.le_refl _
  pn := hn
  rise := hr
  last := he.symm
  same := fun _ _ _ => rfl
  mem := fun x => ⟨fun ⟨t, ht, e⟩ => ⟨t, by omega, e⟩, fun ⟨t, ht, e⟩ => by
    rcases Nat.lt_or_ge t i with h | h
    · exact ⟨t, h, e⟩
    · exact ⟨i - 1, by omega, by rw [← he, ← e]; congr 1; omega⟩⟩
theorem Cpt.skip {n : Nat} {G H : Nat → Int} {i p : Nat} (h : Cpt n G i p H) (hp : p < n) (he : G p = G (p - 1)) : Cpt n G i (p + 1) H where
  i1 := h.i1
  ip := by have := h.ip; omega
  pn := hp
  rise := h.rise
  last := h.last.trans he.symm
  same := fun t h1 h2 => h.same t (by omega) h2
  mem := fun x => (h.mem x).trans ⟨fun ⟨t, ht, e⟩ => ⟨t, by omega, e⟩, fun ⟨t, ht, e⟩ => by
    have := h.ip
    rcases Nat.lt_or_ge t p with k | k
    · exact ⟨t, k, e⟩
    · exact ⟨p - 1, by omega, by rw [← he, ← e]; congr 1; omega⟩⟩
theorem Cpt.take {n : Nat} {G H : Nat → Int} {i p : Nat} (h : Cpt n G i p H) (hs : ∀ i j, i ≤ j → j < n → G i ≤ G j) (hp : p < n) (hne : G p ≠ G (p - 1)) : Cpt n G (i + 1) (p + 1) (fun t => if t = i then G p else H t) where
  i1 := by omega
  ip := by have := h.ip; omega
  pn := hp
  rise := fun j k hjk hk => by
    have hlt : ∀ j, j < i → H j < G p := fun j hj => by
      have e1 : H j ≤ H (i - 1) := by
        rcases Nat.lt_or_ge j (i - 1) with k | k
        · exact Int.le_of_lt (h.rise j (i - 1) k (by have := h.i1; omega))
        · have : j = i - 1 := by omega
          subst this; exact Int.le_refl _
      have e2 := hs (p - 1) p (by omega) hp
      have e3 := h.last
      omega
    have hj : j ≠ i := by omega
    simp only [if_neg hj]
    by_cases hki : k = i
    · simp only [if_pos hki]
      exact hlt j (by omega)
    · simp only [if_neg hki]
      exact h.rise j k hjk (by omega)
  last := by simp
  same := fun t h1 h2 => by
    have := h.ip
    simp only [if_neg (show t ≠ i by omega)]
    exact h.same t (by omega) h2
  mem := fun x => by
    constructor
    · rintro ⟨t, ht, e⟩
      by_cases hti : t = i
      · simp only [if_pos hti] at e
        exact ⟨p, by omega, e⟩
      · simp only [if_neg hti] at e
        obtain ⟨u, hu, e2⟩ := (h.mem x).1 ⟨t, by omega, e⟩
        exact ⟨u, by omega, e2⟩
    · rintro ⟨t, ht, e⟩
      rcases Nat.lt_or_ge t p with k | k
      · obtain ⟨u, hu, e2⟩ := (h.mem x).2 ⟨t, k, e⟩
        exact ⟨u, by omega, by simp only [if_neg (show u ≠ i by omega)]; exact e2⟩
      · exact ⟨i, by omega, by simp only [if_true]; rw [← e]; congr 1; omega⟩

/-- A row of numbers, that may be written. -/
def RW (blk off n : Nat) (G : Nat → Int) (W : World) : Prop := ∀ t, t < n → W.cell? ⟨blk, off + t, none⟩ = some (.int .i32 (G t)) ∧ W.frozen? ⟨blk, off + t, none⟩ = false
theorem RW.set {blk off n : Nat} {G : Nat → Int} {W : World} (h : RW blk off n G W) {i : Nat} (hi : i < n) (x : Int) : RW blk off n (fun t => if t = i then x else G t) (W.setCell ⟨blk, off + i, none⟩ (.int .i32 x)) := fun t ht => by
  refine ⟨?_, (World.frozen?_setCell _ _ _ _).trans (h t ht).2⟩
  by_cases e : t = i
  · subst e
    simp only [if_true]
    exact World.cell?_setCell_same _ _ _ (h t ht).1
  · simp only [if_neg e]
    exact (World.cell?_setCell_other _ _ _ _ (fun k => by injection k with _ k; omega)).trans (h t ht).1
theorem keep_drewN {X : Nat → Prop} {A B : World} (h : Keep X A B) (q : Nat) : Keep X A (B.drewN q) := h.trans ⟨rfl, rfl, rfl, Nat.le_refl _, fun _ _ _ => rfl⟩
theorem keep_setCells {X : Nat → Prop} {A : World} (b : Nat) (hb : X b) : ∀ (vs : List Value) (o : Nat) (B : World), Keep X A B → Keep X A (B.setCells b o vs)
  | [], _, _, h => h
  | v :: r, o, _, h => keep_setCells b hb r (o + 1) _ (h.setCell (p := ⟨b, o, none⟩) hb v)

/-- What Compact answers. -/
def CptOut (blk off cap n : Nat) (G : Nat → Int) (w : World) (e : Ending) (w' : World) : Prop :=
  ∃ (m : Nat) (H : Nat → Int), e = .returned (.slice (some ⟨blk, off, none⟩) m cap) ∧ 1 ≤ m ∧ m ≤ n ∧ (∀ j k, j < k → k < m → H j < H k) ∧ (∀ x, (∃ t, t < m ∧ H t = x) ↔ ∃ t, t < n ∧ G t = x) ∧ (∀ t, t < m → w'.cell? ⟨blk, off + t, none⟩ = some (.int .i32 (H t))) ∧ Keep (fun b => b = blk) w w'

set_option maxRecDepth 100000 in
set_option maxHeartbeats 2000000 in
theorem oCompact (blk off cap n : Nat) (G : Nat → Int) (w : World) (hR : RW blk off n G w) (hs : ∀ i j, i ≤ j → j < n → G i ≤ G j) (hn : 1 ≤ n) (hcap : n ≤ cap) (hsz : cap < 9223372036854775808) :
    Calls Tryz.prog 170 #[.slice (some ⟨blk, off, none⟩) n cap] w fun e w' => CptOut blk off cap n G w e w' := by
  have HR := Lib.hid hR
  have HS := Lib.hid hs
  clear hR hs
  by_cases h2 : n < 2
  · have h2z : (n : Int) < 2 := by omega
    go_enter Tryz.func170, Tryz.ntmps170
    go_wp2
    go_ret
    exact (show CptOut _ _ _ _ _ _ _ _ from ⟨n, G, rfl, hn, Nat.le_refl _, fun j k h1 h3 => absurd h3 (by omega), fun x => Iff.rfl, fun t ht => (HR.out t ht).1, Keep.refl _ _⟩)
  · have h2z : (2 : Int) ≤ (n : Int) := by omega
    go_enter Tryz.func170, Tryz.ntmps170
    go_wp2
    go_loopw [3] (fun vi wr => ∃ (i q : Nat), vi = .int .i64 i ∧ 1 ≤ i ∧ i ≤ n ∧ Hid ((∀ j k, j < k → k < i → G j < G k)) ∧ wr = w.drewN q) (fun vi _ => n - (RowKit.intOf vi).toNat)
    case atStart => exact ⟨1, 0, rfl, Nat.le_refl _, hn, Lib.hid (fun j k h1 h3 => absurd h3 (by omega)), rfl⟩
    case round =>
      obtain ⟨i, q, rfl, hi1, hin, hh, hw⟩ := hrel
      have hcw : ∀ t, t < n → wr.cell? ⟨blk, off + t, none⟩ = some (.int .i32 (G t)) := fun t ht => by rw [hw]; exact (HR.out t ht).1
      have HW := Lib.hid hw
      clear hw
      by_cases hlt : i < n
      · have hltz : (i : Int) < (n : Int) := by omega
        by_cases he : G i = G (i - 1)
        · have heb : (G i == G (i - 1)) = true := beq_iff_eq.2 he
          have HC := Lib.hid (Cpt.start hi1 hlt hh.out he)
          have HRW : Hid (RW blk off n G wr) := Lib.hid (fun t ht => by rw [HW.out]; exact HR.out t ht)
          have HK : Hid (Keep (fun b => b = blk) w wr) := Lib.hid (by rw [HW.out]; exact ⟨rfl, rfl, rfl, Nat.le_refl _, fun _ _ _ => rfl⟩)
          clear HW he
          go_wp2_with fail
          go_big_quiet (fail)
          replace HRW : Hid (RW blk off n G (wr.drewN nq)) := HRW
          replace HK : Hid (Keep (fun b => b = blk) w (wr.drewN nq)) := Lib.hid (HK.out.trans ⟨rfl, rfl, rfl, Nat.le_refl _, fun _ _ _ => rfl⟩)
          clear hcw heb
          generalize wr.drewN nq = w1 at HRW HK ⊢
          clear nq
          have hiz : ¬ (n : Int) < (i : Int) := by omega
          go_wp2_with fail
          go_loopw [3, 5] (fun vi vp wr => ∃ (k s : Nat) (H : Nat → Int), vi = .int .i64 k ∧ vp = .int .i64 s ∧ k ≤ n ∧ 1 ≤ s ∧ s + i ≤ n ∧ k + 1 ≤ i + s ∧ Hid (Cpt n G k (i + s) H ∧ RW blk off n H wr ∧ Keep (fun b => b = blk) w wr)) (fun _ vp _ => n - (RowKit.intOf vp).toNat)
          case atStart => exact ⟨i, 1, G, rfl, rfl, by omega, by omega, by omega, by omega, Lib.hid ⟨HC.out, HRW.out, HK.out⟩⟩
          case round =>
            clear HC HRW HK
            obtain ⟨k, s, H, rfl, rfl, hk, hs1, hs2, hk2, hg⟩ := hrel
            by_cases hsn : s < n - i
            · have hsnz : (s : Int) < ((n - i : Nat) : Int) := by omega
              have hcw : ∀ t, t < n - i → wr.cell? ⟨blk, off + i + t, none⟩ = some (.int .i32 (H (i + t))) := fun t ht => by
                have := (hg.out.2.1 (i + t) (by omega)).1
                rwa [show off + (i + t) = off + i + t by omega] at this
              have hc0 := (hg.out.2.1 k (by omega)).1
              have hf0 := (hg.out.2.1 k (by omega)).2
              have eP : H (i + s) = G (i + s) := hg.out.1.same _ (by omega) (by omega)
              have eQ : H (i + (s - 1)) = G (i + s - 1) := (hg.out.1.same _ (by omega) (by omega)).trans (by congr 1; omega)
              by_cases hne : H (i + s) = H (i + (s - 1))
              · have hneb : (H (i + s) != H (i + (s - 1))) = false := by simp [hne]
                have HC2 := Lib.hid (hg.out.1.skip (by omega) (by rw [← eP, ← eQ]; exact hne))
                clear eP eQ hne
                go_wp2_with fail
                go_big_quiet (fail)
                go_wp2
                go_roundw
                case rel => exact ⟨k, s + 1, H, rfl, by go_num, by omega, by omega, by omega, by omega, Lib.hid ⟨HC2.out, hg.out.2.1, hg.out.2.2.trans ⟨rfl, rfl, rfl, Nat.le_refl _, fun _ _ _ => rfl⟩⟩⟩
                case measure => simp [RowKit.intOf]; omega
              · have hneb : (H (i + s) != H (i + (s - 1))) = true := by simp [hne]
                have HC2 := Lib.hid (hg.out.1.take HS.out (by omega) (by rw [← eP, ← eQ]; exact hne))
                have HR2 := Lib.hid (RW.set (W := wr) hg.out.2.1 (i := k) (by omega) (G (i + s)))
                have EP := Lib.hid eP
                clear eP eQ hne
                go_wp2_with fail
                go_big_quiet (fail)
                go_wp2_with fail
                replace HR2 : Hid (RW blk off n (fun t => if t = k then G (i + s) else H t) ((wr.drewN nq).setCell ⟨blk, off + k, none⟩ (.int .i32 (H (i + s))))) := Lib.hid (by rw [EP.out]; exact HR2.out)
                have HK2 : Hid (Keep (fun b => b = blk) w ((wr.drewN nq).setCell ⟨blk, off + k, none⟩ (.int .i32 (H (i + s))))) := Lib.hid (Keep.setCell (X := fun b => b = blk) (keep_drewN hg.out.2.2 nq) (p := ⟨blk, off + k, none⟩) rfl _)
                go_wp2
                go_roundw
                case rel => exact ⟨k + 1, s + 1, _, by go_num, by go_num, by omega, by omega, by omega, by omega, Lib.hid ⟨HC2.out, HR2.out, HK2.out⟩⟩
                case measure => simp [RowKit.intOf]; omega
            · have hsnz : ((n - i : Nat) : Int) ≤ (s : Int) := by omega
              have es : i + s = n := by omega
              have hkn : k < n := by omega
              have hcl : ∀ ty, (Builtin.clear_ #[22] ty #[.slice (some ⟨blk, off + k, none⟩) (n - k) (cap - k)]).run Tryz.prog wr = .ok (.tuple #[]) (wr.setCells blk (off + k) (List.replicate (n - k) (.int .i32 0))) :=
                fun ty => Lib.run_clear_slice wr _ _ ty _ Tryz.underlying22 Tryz.zeroValue21 rfl rfl blk (off + k) _ _ (by omega) (fun j hj => by rw [show off + k + j = off + (k + j) by omega, (hg.out.2.1 (k + j) (by omega)).1]; rfl) (fun j hj => by rw [show off + k + j = off + (k + j) by omega]; exact (hg.out.2.1 (k + j) (by omega)).2)
              have hkz : ¬ (n : Int) < (k : Int) := by omega
              have hkc : ¬ (cap : Int) < (k : Int) := by omega
              have ES := Lib.hid es
              clear es
              go_wp2
              go_ret
              refine (show CptOut _ _ _ _ _ _ _ _ from ⟨k, H, rfl, hg.out.1.i1, by omega, hg.out.1.rise, by rw [← ES.out]; exact hg.out.1.mem, fun t ht => ?_, keep_setCells (X := fun b => b = blk) blk rfl _ _ _ hg.out.2.2⟩)
              rw [World.cell?_setCells_out blk _ _ _ _ (fun _ _ => Or.inl (by show off + t < off + k; omega))]
              exact (hg.out.2.1 t (by omega)).1
        · have heb : (G i == G (i - 1)) = false := beq_eq_false_iff_ne.2 he
          go_wp2_with fail
          go_big_quiet (fail)
          go_wp2
          go_roundw
          case rel => exact ⟨i + 1, q + nq, by go_num, by omega, by omega, Lib.hid (fun j k h1 h3 => by
            rcases Nat.lt_or_ge k i with e | e
            · exact hh.out j k h1 e
            · have ek : k = i := by omega
              subst ek
              have e1 := HS.out (k - 1) k (by omega) hlt
              have e2 := HS.out j (k - 1) (by omega) (by omega)
              omega), by rw [HW.out, World.drewN_drewN]⟩
          case measure => simp [RowKit.intOf]; omega
      · have hltz : ¬ (i : Int) < (n : Int) := by omega
        have e : i = n := by omega
        subst e
        go_wp2
        go_ret
        exact (show CptOut _ _ _ _ _ _ _ _ from ⟨i, G, rfl, hn, Nat.le_refl _, hh.out, fun x => Iff.rfl, hcw, by rw [HW.out]; exact ⟨rfl, rfl, rfl, Nat.le_refl _, fun _ _ _ => rfl⟩⟩)
end Go.Proofs.YtdmimdiffjpjpaaGreatDoor
