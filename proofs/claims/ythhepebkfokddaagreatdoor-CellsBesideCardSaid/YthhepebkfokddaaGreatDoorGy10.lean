/- Parts of the proof of what the last text says. -/
import Derived.Test.YthhepebkfokddaaGreatDoorGy7
import Derived.Laws.IdiomCopy
import Derived.Lib.SliceRun
import Derived.Test.YthhepebkfokddaaGreatDoorGy6
import Derived.Test.YthhepebkfokddaaGreatDoorGy9
import Derived.OwnWalk
import Derived.Deep.AppendLies
import Derived.Test.YthhepebkfokddaaGreatDoorGy2
import Derived.BigRegionIn
import Derived.LoopIn
import Derived.BigFrameIn
import Derived.Test.YthhepebkfokddaaGreatDoorGy5
import Derived.Test.YthhepebkfokddaaGreatDoorGy4
import Derived.Test.YthhepebkfokddaaGreatDoorGy1
/- slices.BinarySearch and slices.Compact on rising numbers of 32 bits. -/
namespace Go.Proofs.YthhepebkfokddaaGreatDoor
open Go Go.RowKit Go.Kt Go.Kt.Os Go.Sort

theorem oNaN2 (x : Int) (w : World) : Calls Tryz.prog 119 #[.int .i32 x] w fun e w' => e = .returned (.bool false) ∧ w' = w := by
  go_enter Tryz.func119, Tryz.ntmps119
  go_wp2
  go_ret
  exact ⟨by simp, rfl⟩

set_option maxRecDepth 100000 in
set_option maxHeartbeats 2000000 in
theorem oSearch (blk off cap n : Nat) (G : Nat → Int) (x : Int) (w : World) (hc : ∀ t, t < n → w.cell? ⟨blk, off + t, none⟩ = some (.int .i32 (G t))) (hs : ∀ i j, i ≤ j → j < n → G i ≤ G j) (hsz : n < 4611686018427387904) :
    Calls Tryz.prog 89 #[.slice (some ⟨blk, off, none⟩) n cap, .int .i32 x] w fun e w' =>
      ∃ (p : Nat) (f : Value), e = .returned (.tuple #[.int .i64 p, f]) ∧ p ≤ n ∧ (∀ t, t < p → G t < x) ∧ (∀ t, p ≤ t → t < n → x ≤ G t) ∧ Below w.heap.size w w' := by
  have HS := Lib.hid hs
  clear hs
  go_enter Tryz.func89, Tryz.ntmps89
  go_wp2
  go_loopw [7, 8] (fun vi vj wr => ∃ (i j q : Nat), vi = .int .i64 i ∧ vj = .int .i64 j ∧ i ≤ j ∧ j ≤ n ∧ Hid ((∀ t, t < i → G t < x) ∧ (∀ t, j ≤ t → t < n → x ≤ G t)) ∧ wr = w.drewN q) (fun vi vj _ => (RowKit.intOf vj).toNat - (RowKit.intOf vi).toNat)
  case atStart => exact ⟨0, n, 0, rfl, rfl, by omega, Nat.le_refl _, Lib.hid ⟨fun t h => absurd h (by omega), fun t h1 h2 => absurd h2 (by omega)⟩, rfl⟩
  case round =>
    obtain ⟨i, j, q, rfl, rfl, hij, hjn, hh, hw⟩ := hrel
    have hcw : ∀ t, t < n → wr.cell? ⟨blk, off + t, none⟩ = some (.int .i32 (G t)) := fun t ht => by rw [hw]; exact hc t ht
    have HW := Lib.hid hw
    clear hw
    by_cases hlt : i < j
    · have hltz : (i : Int) < (j : Int) := by omega
      obtain ⟨h, hh2⟩ : ∃ h, h = (i + j) / 2 := ⟨_, rfl⟩
      have hhz : ((i : Int) + (j : Int)) / 2 = (h : Int) := by omega
      have hm1 : i ≤ h := by omega
      have hm2 : h < j := by omega
      have HZ := Lib.hid hhz
      have HH := Lib.hid hh2
      clear hh2 hhz
      go_wp2_with fail
      rw [HZ.out, ← HH.out]
      refine (oLess _ _ _).mono ?_
      rintro e w2 ⟨rfl, rfl⟩
      cases hl : ltInt (G h) x
      · go_wp2
        go_roundw
        case rel => exact ⟨i, h, q, rfl, rfl, hm1, by omega, Lib.hid ⟨hh.out.1, fun t h1 h2 => by
          have e1 := HS.out h t h1 h2
          have e2 : x ≤ G h := by simpa [ltInt] using hl
          omega⟩, HW.out⟩
        case measure => simp [RowKit.intOf]; omega
      · go_wp2
        go_roundw
        case rel => exact ⟨h + 1, j, q, by go_num, rfl, by omega, hjn, Lib.hid ⟨fun t h1 => by
          have e1 := HS.out t h (by omega) (by omega)
          have e2 : G h < x := by simpa [ltInt] using hl
          omega, hh.out.2⟩, HW.out⟩
        case measure => simp [RowKit.intOf]; omega
    · have e : i = j := by omega
      subst e
      have hltz : ¬ (i : Int) < (i : Int) := by omega
      by_cases hin : i < n
      · have hinz : (i : Int) < (n : Int) := by omega
        cases hq : (G i == x)
        · go_wp2_with (go_at_call 119; refine (oNaN2 _ _).mono ?_; rintro e w2 ⟨rfl, rfl⟩)
          go_ret2
          first | exact ⟨i, ⟨_, rfl⟩, hjn, hh.out.1, hh.out.2, by rw [HW.out]; exact below_drewN (Below.refl _ _) _⟩ | exact ⟨i, rfl, hjn, hh.out.1, hh.out.2, by rw [HW.out]; exact below_drewN (Below.refl _ _) _⟩ | exact ⟨i, _, rfl, hjn, hh.out.1, hh.out.2, by rw [HW.out]; exact below_drewN (Below.refl _ _) _⟩
        · go_wp2_with (go_at_call 119; refine (oNaN2 _ _).mono ?_; rintro e w2 ⟨rfl, rfl⟩)
          go_ret2
          first | exact ⟨i, ⟨_, rfl⟩, hjn, hh.out.1, hh.out.2, by rw [HW.out]; exact below_drewN (Below.refl _ _) _⟩ | exact ⟨i, rfl, hjn, hh.out.1, hh.out.2, by rw [HW.out]; exact below_drewN (Below.refl _ _) _⟩ | exact ⟨i, _, rfl, hjn, hh.out.1, hh.out.2, by rw [HW.out]; exact below_drewN (Below.refl _ _) _⟩
      · have hinz : (n : Int) ≤ (i : Int) := by omega
        go_wp2
        go_ret2
        first | exact ⟨i, ⟨_, rfl⟩, hjn, hh.out.1, hh.out.2, by rw [HW.out]; exact below_drewN (Below.refl _ _) _⟩ | exact ⟨i, rfl, hjn, hh.out.1, hh.out.2, by rw [HW.out]; exact below_drewN (Below.refl _ _) _⟩ | exact ⟨i, _, rfl, hjn, hh.out.1, hh.out.2, by rw [HW.out]; exact below_drewN (Below.refl _ _) _⟩
end Go.Proofs.YthhepebkfokddaaGreatDoor
/- slices.Compact on rising numbers of 32 bits. -/
namespace Go.Proofs.YthhepebkfokddaaGreatDoor
open Go Go.RowKit Go.Kt Go.Kt.Os Go.Sort

structure Cpt (n : Nat) (G : Nat → Int) (i p : Nat) (H : Nat → Int) : Prop where
  i1 : 1 ≤ i
  ip : i + 1 ≤ p
  pn : p ≤ n
  rise : ∀ j k, j < k → k < i → H j < H k
  last : H (i - 1) = G (p - 1)
  same : ∀ t, p ≤ t + 1 → t < n → H t = G t
  mem : ∀ x, (∃ t, t < i ∧ H t = x) ↔ ∃ t, t < p ∧ G t = x

theorem Cpt.start {n : Nat} {G : Nat → Int} {i : Nat} (h1 : 1 ≤ i) (hn : i < n) (hr : ∀ j k, j < k → k < i → G j < G k) (he : G i = G (i - 1)) : Cpt n G i (i + 1) G where
  i1 := h1
  ip := Nat.le_refl _
  pn := hn
  rise := hr
  last := he.symm
  same := fun _ _ _ => rfl
  mem := fun x => ⟨fun ⟨t, ht, e⟩ => ⟨t, by omega, e⟩, fun ⟨t, ht, e⟩ => by
    rcases Nat.lt_or_ge t i with h | h
    · exact ⟨t, h, e⟩
    · exact ⟨i - 1, by omega, by rw [← he, ← e]; congr 1; omega⟩⟩
theorem Cpt.skip {n : Nat} {G H : Nat → Int} {i p : Nat} (h : Cpt n G i p H) (hp : p < n) (he : G p = G (p - 1)) : Cpt n G i (p + 1) H where
  i1 := h.i1
  ip := by have := h.ip; omega
  pn := hp
  rise := h.rise
  last := h.last.trans he.symm
  same := fun t h1 h2 => h.same t (by omega) h2
  mem := fun x => (h.mem x).trans ⟨fun ⟨t, ht, e⟩ => ⟨t, by omega, e⟩, fun ⟨t, ht, e⟩ => by
    have := h.ip
    rcases Nat.lt_or_ge t p with k | k
    · exact ⟨t, k, e⟩
    · exact ⟨p - 1, by omega, by rw [← he, ← e]; congr 1; omega⟩⟩
theorem Cpt.take {n : Nat} {G H : Nat → Int} {i p : Nat} (h : Cpt n G i p H) (hs : ∀ i j, i ≤ j → j < n → G i ≤ G j) (hp : p < n) (hne : G p ≠ G (p - 1)) : Cpt n G (i + 1) (p + 1) (fun t => if t = i then G p else H t) where
  i1 := by omega
  ip := by have := h.ip; omega
  pn := hp
  rise := fun j k hjk hk => by
    have hlt : ∀ j, j < i → H j < G p := fun j hj => by
      have e1 : H j ≤ H (i - 1) := by
        rcases Nat.lt_or_ge j (i - 1) with k | k
        · exact Int.le_of_lt (h.rise j (i - 1) k (by have := h.i1; omega))
        · have : j = i - 1 := by omega
          subst this; exact Int.le_refl _
      have e2 := hs (p - 1) p (by omega) hp
      have e3 := h.last
      omega
    have hj : j ≠ i := by omega
    simp only [if_neg hj]
    by_cases hki : k = i
    · simp only [if_pos hki]
      exact hlt j (by omega)
    · simp only [if_neg hki]
      exact h.rise j k hjk (by omega)
  last := by simp
  same := fun t h1 h2 => by
    have := h.ip
    simp only [if_neg (show t ≠ i by omega)]
    exact h.same t (by omega) h2
  mem := fun x => by
    constructor
    · rintro ⟨t, ht, e⟩
      by_cases hti : t = i
      · simp only [if_pos hti] at e
        exact ⟨p, by omega, e⟩
      · simp only [if_neg hti] at e
        obtain ⟨u, hu, e2⟩ := (h.mem x).1 ⟨t, by omega, e⟩
        exact ⟨u, by omega, e2⟩
    · rintro ⟨t, ht, e⟩
      rcases Nat.lt_or_ge t p with k | k
      · obtain ⟨u, hu, e2⟩ := (h.mem x).2 ⟨t, k, e⟩
        exact ⟨u, by omega, by simp only [if_neg (show u ≠ i by omega)]; exact e2⟩
      · exact ⟨i, by omega, by simp only [if_true]; rw [← e]; congr 1; omega⟩

def RW (blk off n : Nat) (G : Nat → Int) (W : World) : Prop := ∀ t, t < n → W.cell? ⟨blk, off + t, none⟩ = some (.int .i32 (G t)) ∧ W.frozen? ⟨blk, off + t, none⟩ = false
theorem RW.set {blk off n : Nat} {G : Nat → Int} {W : World} (h : RW blk off n G W) {i : Nat} (hi : i < n) (x : Int) : RW blk off n (fun t => if t = i then x else G t) (W.setCell ⟨blk, off + i, none⟩ (.int .i32 x)) := fun t ht => by
  refine ⟨?_, (World.frozen?_setCell _ _ _ _).trans (h t ht).2⟩
  by_cases e : t = i
  · subst e
    simp only [if_true]
    exact World.cell?_setCell_same _ _ _ (h t ht).1
  · simp only [if_neg e]
    exact (World.cell?_setCell_other _ _ _ _ (fun k => by injection k with _ k; omega)).trans (h t ht).1
theorem keep_drewN {X : Nat → Prop} {A B : World} (h : Keep X A B) (q : Nat) : Keep X A (B.drewN q) := h.trans ⟨rfl, rfl, rfl, Nat.le_refl _, fun _ _ _ => rfl⟩
theorem keep_setCells {X : Nat → Prop} {A : World} (b : Nat) (hb : X b) : ∀ (vs : List Value) (o : Nat) (B : World), Keep X A B → Keep X A (B.setCells b o vs)
  | [], _, _, h => h
  | v :: r, o, _, h => keep_setCells b hb r (o + 1) _ (h.setCell (p := ⟨b, o, none⟩) hb v)

def CptOut (blk off cap n : Nat) (G : Nat → Int) (w : World) (e : Ending) (w' : World) : Prop :=
  ∃ (m : Nat) (H : Nat → Int), e = .returned (.slice (some ⟨blk, off, none⟩) m cap) ∧ 1 ≤ m ∧ m ≤ n ∧ (∀ j k, j < k → k < m → H j < H k) ∧ (∀ x, (∃ t, t < m ∧ H t = x) ↔ ∃ t, t < n ∧ G t = x) ∧ (∀ t, t < m → w'.cell? ⟨blk, off + t, none⟩ = some (.int .i32 (H t))) ∧ Keep (fun b => b = blk) w w'

set_option maxRecDepth 100000 in
set_option maxHeartbeats 2000000 in
theorem oCompact (blk off cap n : Nat) (G : Nat → Int) (w : World) (hR : RW blk off n G w) (hs : ∀ i j, i ≤ j → j < n → G i ≤ G j) (hn : 1 ≤ n) (hcap : n ≤ cap) (hsz : cap < 9223372036854775808) :
    Calls Tryz.prog 116 #[.slice (some ⟨blk, off, none⟩) n cap] w fun e w' => CptOut blk off cap n G w e w' := by
  have HR := Lib.hid hR
  have HS := Lib.hid hs
  clear hR hs
  by_cases h2 : n < 2
  · have h2z : (n : Int) < 2 := by omega
    go_enter Tryz.func116, Tryz.ntmps116
    go_wp2
    go_ret
    exact (show CptOut _ _ _ _ _ _ _ _ from ⟨n, G, rfl, hn, Nat.le_refl _, fun j k h1 h3 => absurd h3 (by omega), fun x => Iff.rfl, fun t ht => (HR.out t ht).1, Keep.refl _ _⟩)
  · have h2z : (2 : Int) ≤ (n : Int) := by omega
    go_enter Tryz.func116, Tryz.ntmps116
    go_wp2
    go_loopw [3] (fun vi wr => ∃ (i q : Nat), vi = .int .i64 i ∧ 1 ≤ i ∧ i ≤ n ∧ Hid ((∀ j k, j < k → k < i → G j < G k)) ∧ wr = w.drewN q) (fun vi _ => n - (RowKit.intOf vi).toNat)
    case atStart => exact ⟨1, 0, rfl, Nat.le_refl _, hn, Lib.hid (fun j k h1 h3 => absurd h3 (by omega)), rfl⟩
    case round =>
      obtain ⟨i, q, rfl, hi1, hin, hh, hw⟩ := hrel
      have hcw : ∀ t, t < n → wr.cell? ⟨blk, off + t, none⟩ = some (.int .i32 (G t)) := fun t ht => by rw [hw]; exact (HR.out t ht).1
      have HW := Lib.hid hw
      clear hw
      by_cases hlt : i < n
      · have hltz : (i : Int) < (n : Int) := by omega
        by_cases he : G i = G (i - 1)
        · have heb : (G i == G (i - 1)) = true := beq_iff_eq.2 he
          have HC := Lib.hid (Cpt.start hi1 hlt hh.out he)
          have HRW : Hid (RW blk off n G wr) := Lib.hid (fun t ht => by rw [HW.out]; exact HR.out t ht)
          have HK : Hid (Keep (fun b => b = blk) w wr) := Lib.hid (by rw [HW.out]; exact ⟨rfl, rfl, rfl, Nat.le_refl _, fun _ _ _ => rfl⟩)
          clear HW he
          go_wp2_with fail
          go_big_quiet (fail)
          replace HRW : Hid (RW blk off n G (wr.drewN nq)) := HRW
          replace HK : Hid (Keep (fun b => b = blk) w (wr.drewN nq)) := Lib.hid (HK.out.trans ⟨rfl, rfl, rfl, Nat.le_refl _, fun _ _ _ => rfl⟩)
          clear hcw heb
          generalize wr.drewN nq = w1 at HRW HK ⊢
          clear nq
          have hiz : ¬ (n : Int) < (i : Int) := by omega
          go_wp2_with fail
          go_loopw [3, 5] (fun vi vp wr => ∃ (k s : Nat) (H : Nat → Int), vi = .int .i64 k ∧ vp = .int .i64 s ∧ k ≤ n ∧ 1 ≤ s ∧ s + i ≤ n ∧ k + 1 ≤ i + s ∧ Hid (Cpt n G k (i + s) H ∧ RW blk off n H wr ∧ Keep (fun b => b = blk) w wr)) (fun _ vp _ => n - (RowKit.intOf vp).toNat)
          case atStart => exact ⟨i, 1, G, rfl, rfl, by omega, by omega, by omega, by omega, Lib.hid ⟨HC.out, HRW.out, HK.out⟩⟩
          case round =>
            clear HC HRW HK
            obtain ⟨k, s, H, rfl, rfl, hk, hs1, hs2, hk2, hg⟩ := hrel
            by_cases hsn : s < n - i
            · have hsnz : (s : Int) < ((n - i : Nat) : Int) := by omega
              have hcw : ∀ t, t < n - i → wr.cell? ⟨blk, off + i + t, none⟩ = some (.int .i32 (H (i + t))) := fun t ht => by
                have := (hg.out.2.1 (i + t) (by omega)).1
                rwa [show off + (i + t) = off + i + t by omega] at this
              have hc0 := (hg.out.2.1 k (by omega)).1
              have hf0 := (hg.out.2.1 k (by omega)).2
              have eP : H (i + s) = G (i + s) := hg.out.1.same _ (by omega) (by omega)
              have eQ : H (i + (s - 1)) = G (i + s - 1) := (hg.out.1.same _ (by omega) (by omega)).trans (by congr 1; omega)
              by_cases hne : H (i + s) = H (i + (s - 1))
              · have hneb : (H (i + s) != H (i + (s - 1))) = false := by simp [hne]
                have HC2 := Lib.hid (hg.out.1.skip (by omega) (by rw [← eP, ← eQ]; exact hne))
                clear eP eQ hne
                go_wp2_with fail
                go_big_quiet (fail)
                go_wp2
                go_roundw
                case rel => exact ⟨k, s + 1, H, rfl, by go_num, by omega, by omega, by omega, by omega, Lib.hid ⟨HC2.out, hg.out.2.1, hg.out.2.2.trans ⟨rfl, rfl, rfl, Nat.le_refl _, fun _ _ _ => rfl⟩⟩⟩
                case measure => simp [RowKit.intOf]; omega
              · have hneb : (H (i + s) != H (i + (s - 1))) = true := by simp [hne]
                have HC2 := Lib.hid (hg.out.1.take HS.out (by omega) (by rw [← eP, ← eQ]; exact hne))
                have HR2 := Lib.hid (RW.set (W := wr) hg.out.2.1 (i := k) (by omega) (G (i + s)))
                have EP := Lib.hid eP
                clear eP eQ hne
                go_wp2_with fail
                go_big_quiet (fail)
                go_wp2_with fail
                replace HR2 : Hid (RW blk off n (fun t => if t = k then G (i + s) else H t) ((wr.drewN nq).setCell ⟨blk, off + k, none⟩ (.int .i32 (H (i + s))))) := Lib.hid (by rw [EP.out]; exact HR2.out)
                have HK2 : Hid (Keep (fun b => b = blk) w ((wr.drewN nq).setCell ⟨blk, off + k, none⟩ (.int .i32 (H (i + s))))) := Lib.hid (Keep.setCell (X := fun b => b = blk) (keep_drewN hg.out.2.2 nq) (p := ⟨blk, off + k, none⟩) rfl _)
                go_wp2
                go_roundw
                case rel => exact ⟨k + 1, s + 1, _, by go_num, by go_num, by omega, by omega, by omega, by omega, Lib.hid ⟨HC2.out, HR2.out, HK2.out⟩⟩
                case measure => simp [RowKit.intOf]; omega
            · have hsnz : ((n - i : Nat) : Int) ≤ (s : Int) := by omega
              have es : i + s = n := by omega
              have hkn : k < n := by omega
              have hcl : ∀ ty, (Builtin.clear_ #[62] ty #[.slice (some ⟨blk, off + k, none⟩) (n - k) (cap - k)]).run Tryz.prog wr = .ok (.tuple #[]) (wr.setCells blk (off + k) (List.replicate (n - k) (.int .i32 0))) :=
                fun ty => Lib.run_clear_slice wr _ _ ty _ Tryz.underlying62 Tryz.zeroValue21 rfl rfl blk (off + k) _ _ (by omega) (fun j hj => by rw [show off + k + j = off + (k + j) by omega, (hg.out.2.1 (k + j) (by omega)).1]; rfl) (fun j hj => by rw [show off + k + j = off + (k + j) by omega]; exact (hg.out.2.1 (k + j) (by omega)).2)
              have hkz : ¬ (n : Int) < (k : Int) := by omega
              have hkc : ¬ (cap : Int) < (k : Int) := by omega
              have ES := Lib.hid es
              clear es
              go_wp2
              go_ret
              refine (show CptOut _ _ _ _ _ _ _ _ from ⟨k, H, rfl, hg.out.1.i1, by omega, hg.out.1.rise, by rw [← ES.out]; exact hg.out.1.mem, fun t ht => ?_, keep_setCells (X := fun b => b = blk) blk rfl _ _ _ hg.out.2.2⟩)
              rw [World.cell?_setCells_out blk _ _ _ _ (fun _ _ => Or.inl (by show off + t < off + k; omega))]
              exact (hg.out.2.1 t (by omega)).1
        · have heb : (G i == G (i - 1)) = false := beq_eq_false_iff_ne.2 he
          go_wp2_with fail
          go_big_quiet (fail)
          go_wp2
          go_roundw
          case rel => exact ⟨i + 1, q + nq, by go_num, by omega, by omega, Lib.hid (fun j k h1 h3 => by
            rcases Nat.lt_or_ge k i with e | e
            · exact hh.out j k h1 e
            · have ek : k = i := by omega
              subst ek
              have e1 := HS.out (k - 1) k (by omega) hlt
              have e2 := HS.out j (k - 1) (by omega) (by omega)
              omega), by rw [HW.out, World.drewN_drewN]⟩
          case measure => simp [RowKit.intOf]; omega
      · have hltz : ¬ (i : Int) < (n : Int) := by omega
        have e : i = n := by omega
        subst e
        go_wp2
        go_ret
        exact (show CptOut _ _ _ _ _ _ _ _ from ⟨i, G, rfl, hn, Nat.le_refl _, hh.out, fun x => Iff.rfl, hcw, by rw [HW.out]; exact ⟨rfl, rfl, rfl, Nat.le_refl _, fun _ _ _ => rfl⟩⟩)
end Go.Proofs.YthhepebkfokddaaGreatDoor
/- props: the edges of rows. -/
namespace Go.Proofs.YthhepebkfokddaaGreatDoor
open Go Go.RowKit Go.Kt Go.Kt.Rg Go.Maps Go.Kt.Os Go.Sort

def RowsV (v : Value) (rows : List (Nat × Nat × Int)) (w : World) : Prop :=
  ∃ g cp, v = .slice (some ⟨g, 0, none⟩) rows.length cp ∧ rows.length ≤ cp ∧ ∀ (i : Nat) (r : Nat × Nat × Int), rows[i]? = some r → w.cell? ⟨g, i * 3, none⟩ = some (.int .i32 r.1) ∧ w.cell? ⟨g, i * 3 + 1, none⟩ = some (.int .i32 r.2.1) ∧ w.cell? ⟨g, i * 3 + 2, none⟩ = some (.int .i64 r.2.2)
theorem RowsV.below {v : Value} {rows : List (Nat × Nat × Int)} {A B : World} (h : RowsV v rows A) (hb : RowKit.Below A.heap.size A B) : RowsV v rows B := by
  obtain ⟨g, cp, rfl, h1, h2⟩ := h
  exact ⟨g, cp, rfl, h1, fun i r hr => ⟨(hb.cell (lt_of_cell (h2 i r hr).1)).trans (h2 i r hr).1, (hb.cell (lt_of_cell (h2 i r hr).2.1)).trans (h2 i r hr).2.1, (hb.cell (lt_of_cell (h2 i r hr).2.2)).trans (h2 i r hr).2.2⟩⟩
def edgL (rows : List (Nat × Nat × Int)) : List Nat := rows.flatMap fun r => [r.1, r.2.1 + 1]
theorem edgL_snoc (l : List (Nat × Nat × Int)) (r : Nat × Nat × Int) : edgL (l ++ [r]) = edgL l ++ [r.1, r.2.1 + 1] := by simp [edgL]
theorem edgL_len (l : List (Nat × Nat × Int)) : (edgL l).length = 2 * l.length := by
  induction l with
  | nil => rfl
  | cons r t ih => simp [edgL] at ih ⊢; omega
theorem edge_mem {E : List Nat} {d d' : Array Int} {n m : Nat} {F : Nat → Int} (hd : (E.map (fun x : Nat => (x : Int))).toArray = d) (hds : d.size = n) (hp : PermIn 0 n d d') (hF : ∀ x, (∃ t, t < m ∧ F t = x) ↔ ∃ t, t < n ∧ d'[t]! = x) (X : Int) :
    (∃ t, t < m ∧ F t = X) ↔ ∃ y ∈ E, (y : Int) = X := by
  obtain ⟨h1, _, h3⟩ := hp
  have hz : d'.size = n := by rw [h1]; exact hds
  have e1 : d'.extract 0 n = d' := by rw [← hz]; simp
  have e2 : d.extract 0 n = d := by rw [← hds]; simp
  rw [e1, e2] at h3
  rw [hF]
  have h5 : (∃ t, t < n ∧ d'[t]! = X) ↔ X ∈ d'.toList := by
    constructor
    · rintro ⟨t, ht, rfl⟩
      rw [getElem!_pos d' t (by omega)]
      exact Array.getElem_mem_toList (by omega)
    · intro h
      obtain ⟨t, ht, he⟩ := List.getElem_of_mem h
      have ht2 : t < d'.size := by simpa using ht
      exact ⟨t, by omega, by rw [getElem!_pos d' t ht2, ← he]; rfl⟩
  rw [h5, h3.mem_iff, ← hd]
  simp [eq_comm]
def EdgI (h : Nat) (rows : List (Nat × Nat × Int)) (w : World) (k : Nat) (v : Value) (wr : World) : Prop :=
  OwnS (fun b => h ≤ b) 21 1 v (2 * k) (encN (edgL (rows.take k))) wr ∧ RowKit.Below h w wr

set_option maxRecDepth 100000 in
set_option maxHeartbeats 4000000 in
theorem pedgesOf (rows : List (Nat × Nat × Int)) (sv : Value) (w : World) (hS : RowsV sv rows w) (hne : rows ≠ []) (hn : rows.length ≤ 1000000) (hr : ∀ r ∈ rows, r.1 ≤ 1114111 ∧ r.2.1 ≤ 1114111) :
    Calls Tryz.prog 86 #[sv] w fun e w' => ∃ (L : List Nat) (v : Value), e = .returned v ∧ RsV w.heap.size v L w' ∧ L.Pairwise (· < ·) ∧ (∀ x, x ∈ L ↔ x ∈ edgL rows) ∧ RowKit.Below w.heap.size w w' := by
  obtain ⟨g, cp, rfl, hcp, hc⟩ := hS
  obtain ⟨n, hl⟩ : ∃ n, rows.length = n := ⟨_, rfl⟩
  have h0 : 1 ≤ n := by rw [← hl]; exact List.length_pos_iff.2 hne
  rw [hl] at hcp hn ⊢
  obtain ⟨h, hh⟩ : ∃ h, w.heap.size = h := ⟨_, rfl⟩
  have HC := Lib.hid hc
  have HR := Lib.hid hr
  have HL := Lib.hid (And.intro hl hne)
  rw [hh]
  have q1 : IntKind.i64.wrap (2 * (n : Int)) = ((2 * n : Nat) : Int) := by rw [IntWalk.i64_in _ (by omega)]; omega
  clear hc hr hl hne
  go_enter Tryz.func86, Tryz.ntmps86
  go_wp2_with (at_make; refine wpList_make_own _ rfl _ _ _ rfl w.heap.size 21 _ (.int .i32 0) 1 Tryz.underlying62 rfl rfl rfl .i64 .i64 (2 * (n : Int)) (2 * n) rfl rfl (by omega) (by show 4 * (2 * n) ≤ _; omega) (by unfold maxLen; omega) (Nat.le_refl _) ?_; intro w1 hown1 hgr1)
  have H1 : Hid (EdgI h rows w 0 (.slice (some ⟨h, 0, none⟩) (2 * 0) (2 * n)) w1) := Lib.hid (by
    try rw [hh] at hown1
    refine ⟨⟨⟨hown1.1, ?_⟩, fun b hb => by simp [Value.ownBlock] at hb; omega⟩, ⟨hgr1.os, hgr1.tape, hgr1.output, hgr1.size, fun x hx => hgr1.block x (by omega) (fun e => by cases e)⟩⟩
    rcases hown1.2 with h2 | ⟨g2, c2, C, e2, h5⟩
    · exact .inl h2
    · exact .inr ⟨g2, c2, C, e2, Nat.zero_le _, h5.2⟩)
  clear hown1 hgr1
  go_loopw [3, 12] (fun v j wr => ∃ (k : Nat) (ao : Option Addr) (cap : Nat), v = .slice ao (2 * k) cap ∧ j = .int .i64 k ∧ k ≤ n ∧ EdgI h rows w k (.slice ao (2 * k) cap) wr) (fun _ j _ => n - (RowKit.intOf j).toNat)
  case atStart => exact ⟨0, _, _, rfl, rfl, by omega, H1.out⟩
  case round =>
    clear H1
    obtain ⟨k, ao, cap, rfl, rfl, hk, hI⟩ := hrel
    by_cases hlt : k < n
    · have hlt' : (k : Int) < (n : Int) := by omega
      obtain ⟨r, hr⟩ : ∃ r, rows[k]? = some r := ⟨_, List.getElem?_eq_getElem (by rw [HL.out.1]; exact hlt)⟩
      have hc := HC.out k r hr
      have hrb := HR.out r (List.mem_of_getElem? hr)
      have htk : edgL (rows.take (k + 1)) = edgL (rows.take k) ++ [r.1, r.2.1 + 1] := by rw [List.take_add_one, hr]; exact edgL_snoc _ _
      obtain ⟨lo, hi, vv⟩ := r
      simp only at hc hrb htk
      obtain ⟨hown, hbw⟩ := hI
      have hs := hbw.size
      have d0 := (hbw.cell (by have := lt_of_cell hc.1; omega)).trans hc.1
      have d1 := (hbw.cell (by have := lt_of_cell hc.2.1; omega)).trans hc.2.1
      have d2 := (hbw.cell (by have := lt_of_cell hc.2.2; omega)).trans hc.2.2
      have q2 : IntKind.i32.wrap ((hi : Int) + 1) = ((hi + 1 : Nat) : Int) := by rw [IntWalk.i32_in _ (by omega)]; omega
      obtain ⟨W1, hW1⟩ : ∃ W1, wr.alloc (.cells #[.int .i32 (lo : Nat), .int .i32 (hi : Nat), .int .i64 vv] 106) = W1 := ⟨_, rfl⟩
      have hb1 : RowKit.Below wr.heap.size wr W1 := by rw [← hW1]; exact (RowKit.Below.refl _ _).alloc (Nat.le_refl _) _
      have hz1 : W1.heap.size = wr.heap.size + 1 := by rw [← hW1]; exact Array.size_push _
      have hx1 : W1.heap[wr.heap.size]? = some (.cells #[.int .i32 (lo : Nat), .int .i32 (hi : Nat), .int .i64 vv] 106 (0, 0)) := by rw [← hW1]; exact heap_alloc_new _ _
      have HW := Lib.hid (And.intro hb1 (And.intro hz1 (And.intro hx1 (And.intro hown (And.intro hbw htk)))))
      have e0 : W1.cell? ⟨wr.heap.size, 0, none⟩ = some (.int .i32 (lo : Nat)) := by rw [Lib.cell_of_heap hx1]; rfl
      have e1 : W1.cell? ⟨wr.heap.size, 1, none⟩ = some (.int .i32 (hi : Nat)) := by rw [Lib.cell_of_heap hx1]; rfl
      obtain ⟨W2, hW2⟩ : ∃ W2, W1.alloc (.cells #[.int .i32 (lo : Nat), .int .i32 ((hi : Int) + 1)] 21) = W2 := ⟨_, rfl⟩
      have hb2 : RowKit.Below h w W2 := by rw [← hW2]; exact (hbw.trans (hb1.mono (by omega))).alloc (by omega) _
      have hz2 : W2.heap.size = wr.heap.size + 2 := by
        have h8 : W2.heap.size = W1.heap.size + 1 := by rw [← hW2]; exact Array.size_push _
        omega
      have hx2 : W2.heap[W1.heap.size]? = some (.cells #[.int .i32 (lo : Nat), .int .i32 ((hi : Int) + 1)] 21 (0, 0)) := by rw [← hW2]; exact heap_alloc_new _ _
      have ho1 := OwnS.keep (X := fun _ => False) hown (Keep.of_all hb1) (fun _ h => h.elim)
      have ho2 := OwnS.keep (X := fun _ => False) ho1 (Keep.of_all (show RowKit.Below W1.heap.size W1 W2 by rw [← hW2]; exact (RowKit.Below.refl _ _).alloc (Nat.le_refl _) _)) (fun _ h => h.elim)
      obtain ⟨ti, hti, hzz, hs1', hbt⟩ := info_parts tinfoI32
      obtain ⟨g2, cap2, w3, hrun, ho3, hgr, hat, hlt3⟩ := run_append_lies (P := Tryz.prog) W2 62 62 0 21 ti (.int .i32 0) 1 4 Tryz.underlying62 hti hzz hs1' hbt rfl (by decide) (.slice ao (2 * k) cap) (2 * k) (encN (edgL (rows.take k))) ho2.1 ⟨W1.heap.size, 0, none⟩ 2 2 [.int .i32 (lo : Nat), .int .i32 ((hi : Int) + 1)] rfl
        (fun j u hj => by rw [Addr.add_lit, Lib.cell_of_heap hx2]; simpa using hj) (by intro u hu; simp at hu; rcases hu with rfl | rfl <;> rfl) (by decide) (by unfold maxLen; omega) (by omega) (Nat.zero_le _) _ rfl
      have hg2 : h ≤ g2 := by
        rcases hat with hx | hx
        · exact ho2.2 g2 hx
        · have := hb2.size; omega
      have hfin : EdgI h rows w (k + 1) (.slice (some ⟨g2, 0, none⟩) (2 * k + 2) cap2) w3 := by
        refine ⟨⟨?_, fun b hb => by simp [Value.ownBlock] at hb; omega⟩, hb2.trans ((keep_grown hgr).below (by have := hb2.size; omega) (fun b hb => ho2.2 b hb))⟩
        have e : encN (edgL (rows.take (k + 1))) = encN (edgL (rows.take k)) ++ [.int .i32 (lo : Nat), .int .i32 ((hi : Int) + 1)] := by
          rw [htk]
          simp [encN]
        rw [e]
        exact ho3
      have HF := Lib.hid hfin
      have HRun := Lib.hid hrun
      have e0 : W1.cell? ⟨wr.heap.size, 0, none⟩ = some (.int .i32 (lo : Nat)) := by rw [Lib.cell_of_heap hx1]; rfl
      have e1 : W1.cell? ⟨wr.heap.size, 1, none⟩ = some (.int .i32 (hi : Nat)) := by rw [Lib.cell_of_heap hx1]; rfl
      clear hc hrb htk hown hbw hs hb1 hz1 hx1 hlt hr hb2 hz2 hx2 ho1 ho2 hti hzz hs1' hbt hrun ho3 hgr hat hlt3 hg2 hfin
      go_wp2_with (at_builtin; refine wpList_append_eq rfl rfl rfl rfl (fun _ => HRun.out) ?_)
      exact ⟨⟨k + 1, some ⟨g2, 0, none⟩, cap2, rfl, by go_num, by omega, HF.out⟩, by simp [RowKit.intOf]; omega⟩
    · have hkn : k = n := by omega
      subst hkn
      have hlt' : ¬ (k : Int) < (k : Int) := by omega
      obtain ⟨hown, hbw⟩ := hI
      have htk : rows.take k = rows := by rw [← HL.out.1]; exact List.take_length
      rw [htk] at hown
      rcases hown.shape with ⟨_, h0'⟩ | ⟨gb, cap', hv, hg, hgl⟩
      · omega
      cases hv
      obtain ⟨d, hd⟩ : ∃ d : Array Int, ((edgL rows).map (fun x : Nat => (x : Int))).toArray = d := ⟨_, rfl⟩
      have hel : (edgL rows).length = 2 * k := by rw [edgL_len, HL.out.1]
      have hds : d.size = 2 * k := by rw [← hd]; simp [hel]
      have hH : Holds E32 wr gb 0 d := fun j hj => by
        have hjl : j < (edgL rows).length := by omega
        refine ⟨?_, by rw [Nat.zero_add]; exact hown.frozen j⟩
        rw [Nat.zero_add]
        refine hown.at0 (i := j) ?_
        have e1 : d[j]! = ((edgL rows)[j] : Int) := by rw [getElem!_pos d j hj]; simp [← hd]
        rw [e1]
        simp [encN, List.getElem?_map, List.getElem?_eq_getElem hjl]
      have C2 := Lib.hid (oSort gb 0 cap (2 * k) d wr hds hH hgl (by omega))
      have hcp : 2 * k ≤ cap ∧ cap ≤ maxLen := by
        rcases hown.1.2 with ⟨hv, _⟩ | ⟨g', cap', cur, hv, _, hgg, hnc, hcm, _⟩
        · cases hv
        · cases hv; exact ⟨hnc, hcm⟩
      have H := Lib.hid (And.intro hbw (And.intro hd (And.intro hds (And.intro hg (And.intro hgl (And.intro hel hcp))))))
      clear hown hbw htk hd hds hH hg hgl hel hcp hlt
      go_wp2_with fail
      refine C2.out.mono ?_
      rintro e w2 ⟨rfl, d', hps, hsw⟩
      have hds' : d'.size = 2 * k := by rw [hps.1.1]; exact H.out.2.2.1
      have hRW : RW gb 0 (2 * k) (fun t => d'[t]!) w2 := fun t ht => hsw.holds t (by omega)
      have hsd : ∀ i j, i ≤ j → j < 2 * k → d'[i]! ≤ d'[j]! := fun i j hij hj => by
        by_cases e : i = j
        · rw [e]; exact Int.le_refl _
        · have := hps.2 i j (Nat.zero_le _) (by omega) hj
          have h7 : ¬ d'[j]! < d'[i]! := by simpa [ltInt] using this
          omega
      have C3 := Lib.hid (oCompact gb 0 cap (2 * k) (fun t => d'[t]!) w2 hRW hsd (by omega) H.out.2.2.2.2.2.2.1 (by have := H.out.2.2.2.2.2.2.2; unfold maxLen at this; omega))
      have H2 := Lib.hid (And.intro hps hsw)
      clear hps hsw hds' hRW hsd
      go_wp2_with fail
      refine C3.out.mono ?_
      rintro e w3 hO
      obtain ⟨m, F, rfl, hm1, hm2, hF1, hF2, hF3, hk3⟩ := hO
      have H3 := Lib.hid (And.intro hm1 (And.intro hm2 (And.intro hF1 (And.intro hF2 (And.intro hF3 hk3)))))
      clear hm1 hm2 hF1 hF2 hF3 hk3
      go_wp2
      go_ret
      obtain ⟨hbw, hd, hds, hg, hgl, hel, hcp1, hcp2⟩ := H.out
      obtain ⟨hps, hsw⟩ := H2.out
      obtain ⟨hm1, hm2, hF1, hF2, hF3, hk3⟩ := H3.out
      have hkey := edge_mem hd hds hps.1 hF2
      have hge : h ≤ gb := hg
      refine ⟨(List.range m).map fun t => (F t).toNat, _, rfl, .inr ⟨gb, cap, by simp only [List.length_map, List.length_range]; rfl, by simp only [List.length_map, List.length_range]; omega, hge, Nat.lt_of_lt_of_le hgl (Nat.le_trans hsw.keep.size hk3.size), fun i x hx => ?_⟩, ?_, fun x => ?_, hbw.trans ((hsw.keep.trans hk3).below (by have := hbw.size; omega) (fun b hb => by omega))⟩
      · have him : i < m := by have := (List.getElem?_eq_some_iff.1 hx).1; simpa using this
        have hxe : (F i).toNat = x := by
          have := (List.getElem?_eq_some_iff.1 hx).2
          simpa using this
        obtain ⟨y, _, hy⟩ := (hkey (F i)).1 ⟨i, him, rfl⟩
        have h9 := hF3 i him
        rw [Nat.zero_add] at h9
        rw [h9, ← hxe, ← hy, Int.toNat_natCast]
      · rw [List.pairwise_map]
        refine List.pairwise_lt_range.imp_of_mem ?_
        intro i j hi hj hij
        rw [List.mem_range] at hi hj
        have h1 := hF1 i j hij hj
        obtain ⟨y, _, hy⟩ := (hkey (F i)).1 ⟨i, hi, rfl⟩
        omega
      · rw [List.mem_map]
        constructor
        · rintro ⟨t, ht, rfl⟩
          rw [List.mem_range] at ht
          obtain ⟨y, hy, he⟩ := (hkey (F t)).1 ⟨t, ht, rfl⟩
          rw [← he, Int.toNat_natCast]
          exact hy
        · intro hx
          obtain ⟨t, ht, he⟩ := (hkey (x : Int)).2 ⟨x, hx, rfl⟩
          exact ⟨t, List.mem_range.2 ht, by rw [he]; simp⟩
end Go.Proofs.YthhepebkfokddaaGreatDoor
/- props: rows from behind (slices.Backward). -/
namespace Go.Proofs.YthhepebkfokddaaGreatDoor
open Go Go.RowKit Go.Kt Go.Kt.Rg Go.Maps
attribute [local go_sem] Oper.semAt_some

def backL (rows : List (Nat × Nat × Int)) : List (Nat × Nat × Nat × Int) := ((List.range rows.length).map fun i => (i, rows.getD i (0, 0, 0))).reverse
theorem backL_len (rows : List (Nat × Nat × Int)) : (backL rows).length = rows.length := by simp [backL]
theorem backL_get (rows : List (Nat × Nat × Int)) {k : Nat} (hk : k < rows.length) : (backL rows)[k]? = some (rows.length - 1 - k, rows.getD (rows.length - 1 - k) (0, 0, 0)) := by
  unfold backL
  rw [List.getElem?_reverse (by simpa using hk)]
  simp only [List.length_map, List.length_range, List.getElem?_map]
  rw [List.getElem?_range (by omega)]
  rfl
def encB (x : Nat × Nat × Nat × Int) : Array Value := #[.int .i64 x.1, .agg #[.int .i32 x.2.1, .int .i32 x.2.2.1, .int .i64 x.2.2.2]]

theorem pback_call (g n cp : Nat) (w : World) :
    Calls Tryz.prog 88 #[.slice (some ⟨g, 0, none⟩) n cp] w fun e w' => e = .returned (.func (.func 117) #[] #[.pointer (some ⟨w.heap.size, 0, none⟩)]) ∧ w.alloc (.cells #[.slice (some ⟨g, 0, none⟩) n cp] 53) = w' := by
  go_enter Tryz.func88, Tryz.ntmps88
  go_wp2
  go_ret
  exact ⟨rfl, rfl⟩
theorem enters_back : ∀ args w, (callFunc 117 args).run Tryz.prog w = .ok (.enter 117 args) w := enters_of Tryz.func117 (by kernel_rfl) rfl

set_option maxRecDepth 100000 in
set_option maxHeartbeats 4000000 in
theorem pback_iter (rows : List (Nat × Nat × Int)) (n g cp bs : Nat) (w0 : World) (hn : rows.length = n) (hbs : w0.cell? ⟨bs, 0, none⟩ = some (.slice (some ⟨g, 0, none⟩) n cp)) (hn2 : n ≤ 1073741824)
    (hc : ∀ (i : Nat) (r : Nat × Nat × Int), rows[i]? = some r → w0.cell? ⟨g, i * 3, none⟩ = some (.int .i32 r.1) ∧ w0.cell? ⟨g, i * 3 + 1, none⟩ = some (.int .i32 r.2.1) ∧ w0.cell? ⟨g, i * 3 + 2, none⟩ = some (.int .i64 r.2.2)) :
    Iter2 Tryz.prog 117 #[.pointer (some ⟨bs, 0, none⟩)] encB (backL rows) (fun x => x = bs ∨ x = g) w0 := by
  intro m X J Jx W hNd hX hsame hsz hJ hJx hSl hY h0
  have q1 : W.cell? ⟨bs, 0, none⟩ = some (.slice (some ⟨g, 0, none⟩) n cp) := (World.cell?_of_block (a := ⟨bs, 0, none⟩) (hsame bs (.inl rfl))).trans hbs
  have HC : Hid (∀ (i : Nat) (r : Nat × Nat × Int), rows[i]? = some r → W.cell? ⟨g, i * 3, none⟩ = some (.int .i32 r.1) ∧ W.cell? ⟨g, i * 3 + 1, none⟩ = some (.int .i32 r.2.1) ∧ W.cell? ⟨g, i * 3 + 2, none⟩ = some (.int .i64 r.2.2)) := Lib.hid fun i r hr => by
    have h := hc i r hr
    have e := hsame g (.inr rfl)
    exact ⟨(World.cell?_of_block (a := ⟨g, _, none⟩) e).trans h.1, (World.cell?_of_block (a := ⟨g, _, none⟩) e).trans h.2.1, (World.cell?_of_block (a := ⟨g, _, none⟩) e).trans h.2.2⟩
  have hXb : Hid (¬ X bs ∧ ¬ X g) := Lib.hid ⟨hNd bs (.inl rfl), hNd g (.inr rfl)⟩
  have HK := Lib.hid (And.intro hX (And.intro hJ (And.intro hJx (And.intro hSl hY))))
  have HG := Lib.hid (fun k (hk : k < rows.length) => backL_get rows hk)
  have HLN : Hid ((backL rows).length = n) := Lib.hid (by rw [backL_len, hn])
  have HN := Lib.hid hn
  obtain ⟨L, hL⟩ : ∃ L, backL rows = L := ⟨_, rfl⟩
  rw [hL] at HK HG HLN ⊢
  have hfn : ∀ k, Fence.wide.fn k := fun _ => trivial
  have hdep : Fence.wide.depth = none := rfl
  have q0 : IntKind.i64.wrap ((n : Int) - 1) = (n : Int) - 1 := IntWalk.i64_in _ (by omega)
  clear hNd hsame hsz hX hJ hJx hSl hY hc hbs hn hL
  refine (callsIn_wide (n := 0)).1 ?_
  refine callsIn_of_wp Tryz.func117 rfl trivial ?_ rfl
  simp only [Tryz.ntmps117, List.size_toArray, List.length_cons, List.length_nil, Nat.reduceAdd, Nat.reduceSub, Array.replicate_succ, Array.replicate_zero, List.push_toArray, List.append_toArray, List.nil_append, List.cons_append]
  gi_wp2_with fail
  gi_loopw [3] (fun x wr => ∃ (k : Nat) (Y : Nat → Prop), x = .int .i64 ((n : Int) - 1 - k) ∧ k ≤ n ∧ (∀ y, Y y → W.heap.size ≤ y) ∧ J (L.take k) Y wr ∧ Keep X W wr) (fun x _ => (RowKit.intOf x + 1).toNat)
  case atStart => exact ⟨0, fun _ => False, by simp, by omega, fun _ h => h.elim, by simpa using h0, Keep.refl _ _⟩
  case round =>
    obtain ⟨k, Y, rfl, hk, hYl, hJs, hkp⟩ := hrel
    have q2 := hkp.cell q1 hXb.out.1
    have HI := Lib.hid (And.intro hYl (And.intro hJs hkp))
    by_cases hlt : k < n
    · obtain ⟨i, hi⟩ : ∃ i, n - 1 - k = i := ⟨_, rfl⟩
      have hii : (n : Int) - 1 - k = (i : Int) := by omega
      have hin : i < n := by omega
      obtain ⟨r, hr⟩ : ∃ r, rows[i]? = some r := ⟨_, List.getElem?_eq_getElem (by rw [HN.out]; exact hin)⟩
      have hg := HG.out k (by rw [HN.out]; exact hlt)
      rw [HN.out, hi, List.getD_eq_getElem?_getD, hr] at hg
      have hcr := HC.out i r hr
      have htk : L.take (k + 1) = L.take k ++ [(i, r)] := by rw [List.take_add_one, hg]; rfl
      have hpx : L.take k ++ [(i, r)] <+: L := by rw [← htk]; exact List.take_prefix _ _
      obtain ⟨lo, hi', vv⟩ := r
      simp only at hcr
      have d0 := hkp.cell hcr.1 hXb.out.2
      have d1 := hkp.cell hcr.2.1 hXb.out.2
      have d2 := hkp.cell hcr.2.2 hXb.out.2
      have b0 : (0 : Int) ≤ (i : Int) := by omega
      have b1 : (i : Int) < (n : Int) := by omega
      have hyy : YieldAt Fence.wide 0 Tryz.prog m #[.int .i64 (i : Nat), .agg #[.int .i32 (lo : Nat), .int .i32 (hi' : Nat), .int .i64 vv]] wr _ := HK.out.2.2.2.2 (L.take k) (i, lo, hi', vv) Y wr hpx hJs hkp.size hYl
      obtain ⟨fn, tmps, assign, body, hy, hR⟩ := hyy
      have q3 : IntKind.i64.wrap ((i : Int) - 1) = (i : Int) - 1 := IntWalk.i64_in _ (by omega)
      have HT := Lib.hid (And.intro htk (And.intro hpx hi))
      rw [hii]
      clear hg hcr htk hpx hYl hJs hkp hr hi hii
      gi_wp2_with fail
      refine hR.mono ?_
      rintro e3 V3 ⟨Y', hk4, hY', (⟨rfl, hJ3⟩ | ⟨rfl, hJx3⟩)⟩
      all_goals have hk3 := HI.out.2.2
      all_goals have hzk := hk3.size
      all_goals have hkW : Keep X W V3 := ⟨hk4.os.trans hk3.os, hk4.tape.trans hk3.tape, hk4.output.trans hk3.output, Nat.le_trans hk3.size hk4.size, fun b hb hx => (hk4.same b (Nat.lt_of_lt_of_le hb hk3.size) (fun h => by rcases h with h | h; exact hx h; have := HI.out.1 b h; omega)).trans (hk3.same b hb hx)⟩
      all_goals have hYl2 : ∀ b, Y' b → W.heap.size ≤ b := fun b hb => by rcases hY' b hb with h | h; exact HI.out.1 b h; omega
      · have HF := Lib.hid (And.intro hYl2 (And.intro hJ3 hkW))
        clear hk4 hk3 hYl2 hJ3 hkW hY'
        gi_wp2_with fail
        go_roundw
        case rel => exact ⟨k + 1, Y', by have := HT.out.2.2; congr 1; omega, by omega, HF.out.1, by rw [HT.out.1]; exact HF.out.2.1, HF.out.2.2⟩
        case measure => (simp [RowKit.intOf] <;> omega)
      · have HF := Lib.hid (And.intro hYl2 (And.intro hJx3 hkW))
        clear hk4 hk3 hYl2 hJx3 hkW hY'
        gi_wp2_with fail
        refine bodyPost_ret (results_none rfl _ _ _) rfl ?_
        exact ⟨⟨_, rfl⟩, HF.out.2.2, .inr ⟨_, Y', HT.out.2.1, HF.out.1, HF.out.2.1⟩⟩
    · have hkn : k = n := by omega
      subst hkn
      have b0 : ¬ (0 : Int) ≤ (k : Int) - 1 - k := by omega
      have e : L.take k = L := by rw [← HLN.out]; exact List.take_length
      rw [e] at HI
      clear hYl hJs hkp e
      gi_wp2_with fail
      go_end0
      exact ⟨⟨_, rfl⟩, HI.out.2.2, .inl ⟨Y, HI.out.1, HI.out.2.1⟩⟩
end Go.Proofs.YthhepebkfokddaaGreatDoor
/- props: numbers that are left (allOf, drop, from). -/
namespace Go.Proofs.YthhepebkfokddaaGreatDoor
open Go Go.RowKit Go.Kt Go.Kt.Rg Go.Maps

structure LftA (n : Nat) (a : Nat → Nat) : Prop where
  up : ∀ i, i < n → i ≤ a i ∧ a i < n
  gap : ∀ i, i < n → ∀ j, i ≤ j → j < a i → a j ≠ j
def LftW (b n : Nat) (P : Nat → Prop) (w : World) : Prop :=
  ∃ a : Nat → Nat, LftA n a ∧ (∀ j, j < n → (P j ↔ a j = j)) ∧ ∀ i, i < n → w.cell? ⟨b, i, none⟩ = some (.int .i64 (a i : Nat)) ∧ w.frozen? ⟨b, i, none⟩ = false
theorem LftW.keep {b n : Nat} {P : Nat → Prop} {X : Nat → Prop} {A B : World} (h : LftW b n P A) (hk : Keep X A B) (hX : ¬ X b) : LftW b n P B := by
  obtain ⟨a, h1, h2, h3⟩ := h
  exact ⟨a, h1, h2, fun i hi => ⟨hk.cell (h3 i hi).1 hX, (hk.frozen (lt_of_cell (h3 i hi).1) hX).trans (h3 i hi).2⟩⟩
def updA (a : Nat → Nat) (x y : Nat) : Nat → Nat := fun i => if i = x then y else a i
theorem updA_drop {n : Nat} {a : Nat → Nat} (h : LftA n a) {i : Nat} (hi : i + 1 < n) : LftA n (updA a i (i + 1)) := by
  refine ⟨fun k hk => ?_, fun k hk j h1 h2 => ?_⟩
  · unfold updA
    split
    · omega
    · exact h.up k hk
  · unfold updA at h2 ⊢
    split
    · omega
    · rename_i hj
      split at h2
      · omega
      · exact h.gap k hk j h1 h2
theorem updA_half {n : Nat} {a : Nat → Nat} (h : LftA n a) {i : Nat} (hi : i < n) (hne : a i ≠ i) : LftA n (updA a i (a (a i))) ∧ i < a (a i) ∧ a (a i) < n := by
  have h1 := h.up i hi
  have h2 := h.up (a i) h1.2
  refine ⟨⟨fun k hk => ?_, fun k hk j h3 h4 => ?_⟩, by omega, h2.2⟩
  · unfold updA
    split
    · omega
    · exact h.up k hk
  · unfold updA at h4 ⊢
    split
    · omega
    · rename_i hj
      split at h4
      · rename_i hki
        by_cases h5 : j < a i
        · exact h.gap i hi j (by omega) h5
        · exact h.gap (a i) h1.2 j (by omega) h4
      · exact h.gap k hk j h3 h4
theorem cells_upd {b n : Nat} {a : Nat → Nat} {w : World} (h : ∀ i, i < n → w.cell? ⟨b, i, none⟩ = some (.int .i64 (a i : Nat)) ∧ w.frozen? ⟨b, i, none⟩ = false) {x : Nat} (hx : x < n) (y : Nat) :
    ∀ i, i < n → (w.setCell ⟨b, x, none⟩ (.int .i64 (y : Nat))).cell? ⟨b, i, none⟩ = some (.int .i64 (updA a x y i : Nat)) ∧ (w.setCell ⟨b, x, none⟩ (.int .i64 (y : Nat))).frozen? ⟨b, i, none⟩ = false := fun i hi => by
  refine ⟨?_, ?_⟩
  · unfold updA
    by_cases e : i = x
    · subst e
      rw [if_pos rfl]
      exact World.cell?_setCell_same _ _ _ (h i hi).1
    · rw [if_neg e]
      exact (World.cell?_setCell_other _ _ _ _ (by intro h; injection h with _ h2 _; exact e h2.symm)).trans (h i hi).1
  · rw [World.frozen?_setCell]
    exact (h i hi).2

set_option maxRecDepth 100000 in
theorem pdrop (b n i cap : Nat) (P : Nat → Prop) (w : World) (h : LftW b n P w) (hi : i + 1 < n) (hn : n ≤ 4611686018427387904) :
    Calls Tryz.prog 91 #[.slice (some ⟨b, 0, none⟩) n cap, .int .i64 (i : Nat)] w fun e w' => e = .returned (.tuple #[]) ∧ LftW b n (fun j => P j ∧ j ≠ i) w' ∧ Keep (fun x => x = b) w w' := by
  obtain ⟨a, h1, h2, h3⟩ := h
  have hc := (h3 i (by omega)).1
  have hf := (h3 i (by omega)).2
  have q1 : IntKind.i64.wrap ((i : Int) + 1) = ((i + 1 : Nat) : Int) := by rw [IntWalk.i64_in _ (by omega)]; omega
  have q2 : (i : Int) < (n : Int) := by omega
  have H := Lib.hid (And.intro h1 (And.intro h2 h3))
  clear h1 h2 h3
  go_enter Tryz.func91, Tryz.ntmps91
  go_wp2
  go_end0
  have e : ((i : Int) + 1) = ((i + 1 : Nat) : Int) := by omega
  rw [e]
  refine ⟨rfl, ⟨_, updA_drop H.out.1 hi, fun j hj => ?_, cells_upd H.out.2.2 (by omega) (i + 1)⟩, Keep.setCell (X := fun x => x = b) (Keep.refl _ w) (p := ⟨b, i, none⟩) rfl _⟩
  unfold updA
  by_cases e2 : j = i
  · rw [if_pos e2]; exact ⟨fun h => absurd e2 h.2, fun h => by omega⟩
  · rw [if_neg e2]; exact ⟨fun h => (H.out.2.1 j hj).1 h.1, fun h => ⟨(H.out.2.1 j hj).2 h, e2⟩⟩

def FromI (b n i : Nat) (P : Nat → Prop) (w : World) (i' : Nat) (wr : World) : Prop :=
  i ≤ i' ∧ i' < n ∧ (∀ j, i ≤ j → j < i' → ¬ P j) ∧ LftW b n P wr ∧ Keep (fun x => x = b) w wr
def FromOut (b n i : Nat) (P : Nat → Prop) (w : World) (e : Ending) (w' : World) : Prop :=
  ∃ j : Nat, e = .returned (.int .i64 (j : Nat)) ∧ FromI b n i P w j w' ∧ P j

set_option maxRecDepth 100000 in
set_option maxHeartbeats 2000000 in
theorem pfrom (b n i cap : Nat) (P : Nat → Prop) (w : World) (h : LftW b n P w) (hi : i < n) (_hn : n ≤ 4611686018427387904) :
    Calls Tryz.prog 90 #[.slice (some ⟨b, 0, none⟩) n cap, .int .i64 (i : Nat)] w fun e w' => FromOut b n i P w e w' := by
  have H := Lib.hid h
  clear h
  go_enter Tryz.func90, Tryz.ntmps90
  go_wp2_with fail
  go_loopw [1] (fun x wr => ∃ i' : Nat, x = .int .i64 i' ∧ FromI b n i P w i' wr) (fun x _ => n - (RowKit.intOf x).toNat)
  case atStart => exact ⟨i, rfl, Nat.le_refl _, hi, fun j h1 h2 => by omega, H.out, Keep.refl _ _⟩
  case round =>
    obtain ⟨k, rfl, hI⟩ := hrel
    obtain ⟨h1, h2, h3, ⟨a, ha, hP, hc⟩, h5⟩ := hI
    have ck := (hc k h2).1
    have fk := (hc k h2).2
    have q2 : (k : Int) < (n : Int) := by omega
    have HI := Lib.hid (And.intro h1 (And.intro h3 (And.intro ha (And.intro hP (And.intro hc h5)))))
    by_cases e : a k = k
    · have b1 : (((a k : Nat) : Int) != (k : Int)) = false := by rw [e]; simp
      clear h1 h3 ha hP hc h5 e
      go_wp2
      go_ret
      have e2 : a k = k := by
        have : ((a k : Nat) : Int) = (k : Int) := by simpa using b1
        omega
      exact ⟨k, rfl, ⟨HI.out.1, h2, HI.out.2.1, ⟨a, HI.out.2.2.1, HI.out.2.2.2.1, HI.out.2.2.2.2.1⟩, HI.out.2.2.2.2.2⟩, (HI.out.2.2.2.1 k h2).2 e2⟩
    · have b1 : (((a k : Nat) : Int) != (k : Int)) = true := by simp; omega
      have hu := ha.up k h2
      obtain ⟨m, hm⟩ : ∃ m, a k = m := ⟨_, rfl⟩
      have cm := (hc (a k) hu.2).1
      obtain ⟨z, hz⟩ : ∃ z, a (a k) = z := ⟨_, rfl⟩
      have hh := updA_half ha h2 e
      have HH := Lib.hid hh
      have HE := Lib.hid (And.intro e (And.intro hm hz))
      rw [hz] at cm
      rw [hm] at cm ck b1
      have q3 : (m : Int) < (n : Int) := by omega
      clear h1 h3 ha hP hc h5 e hu hh hm hz
      go_wp2_with fail
      obtain ⟨h1, h3, ha, hP, hc, h5⟩ := HI.out
      obtain ⟨hh1, hh2, hh3⟩ := HH.out
      obtain ⟨e, hm, hz⟩ := HE.out
      rw [hz] at hh1 hh2 hh3
      refine ⟨⟨z, rfl, by omega, hh3, fun j hj1 hj2 => ?_, ⟨_, hh1, fun j hj => ?_, cells_upd hc h2 z⟩, Keep.setCell (X := fun x => x = b) h5 (p := ⟨b, k, none⟩) rfl _⟩, by simp [RowKit.intOf]; omega⟩
      · by_cases e1 : j < k
        · exact h3 j hj1 e1
        · rw [hP j (by omega)]
          by_cases e2 : j = k
          · rw [e2]; exact e
          · have hz2 : updA a k z k = z := if_pos rfl
            have := hh1.gap k h2 j (by omega) (by rw [hz2]; exact hj2)
            rwa [show updA a k z j = a j from if_neg e2] at this
      · rw [hP j hj]
        by_cases e2 : j = k
        · rw [e2, show updA a k z k = z from if_pos rfl]
          exact ⟨fun h => absurd h e, fun h => by omega⟩
        · rw [show updA a k z j = a j from if_neg e2]

set_option maxRecDepth 100000 in
set_option maxHeartbeats 2000000 in
theorem pallOf (n : Nat) (w : World) (h0 : 0 < n) (hn : n ≤ 16777216) :
    Calls Tryz.prog 87 #[.int .i64 (n : Nat)] w fun e w' => e = .returned (.slice (some ⟨w.heap.size, 0, none⟩) n n) ∧ LftW w.heap.size n (fun _ => True) w' ∧ Below w.heap.size w w' ∧ w.heap.size < w'.heap.size := by
  obtain ⟨h, hh⟩ : ∃ h, w.heap.size = h := ⟨_, rfl⟩
  rw [hh]
  go_enter Tryz.func87, Tryz.ntmps87
  go_wp2_with (at_make; refine wpList_make_full _ rfl _ _ _ rfl w.heap.size 3 _ (.int .i64 0) 1 Tryz.underlying137 rfl rfl rfl .i64 .i64 _ _ n rfl rfl rfl rfl (by show 8 * n ≤ _; omega) (by unfold maxLen; omega) (Nat.le_refl _) ?_; intro w1 hown1 hgr1)
  have H1 : Hid (∃ C : Array Value, Below h w w1 ∧ w1.heap[h]? = some (.cells C 3 (0, 0)) ∧ C.size = n) := Lib.hid (by
    obtain ⟨_, h2⟩ := hown1
    rcases h2 with ⟨h2, _⟩ | ⟨g2, c2, C, e2, _, h3, _, _, h4, _⟩
    · cases h2
    · injection e2 with e3 _ e4
      injection e3 with e3
      injection e3 with e3 _
      subst e3 e4
      rw [hh] at h3
      exact ⟨C, ⟨hgr1.os, hgr1.tape, hgr1.output, hgr1.size, fun x hx => hgr1.block x (by omega) (fun e => by cases e)⟩, h3, by omega⟩)
  clear hown1 hgr1
  go_loopw [9] (fun vk wr => ∃ (k : Nat) (C : Array Value), vk = .int .i64 k ∧ k ≤ n ∧ Hid (Below h w wr ∧ wr.heap[h]? = some (.cells C 3 (0, 0)) ∧ C.size = n ∧ ∀ i, i < k → C[i]? = some (.int .i64 (i : Nat)))) (fun vk _ => n - (RowKit.intOf vk).toNat)
  case atStart =>
    obtain ⟨C, a1, a2, a3⟩ := H1.out
    exact ⟨0, C, rfl, by omega, Lib.hid ⟨a1, a2, a3, fun i hi => by omega⟩⟩
  case round =>
    clear H1
    obtain ⟨k, C, rfl, hk, HI⟩ := hrel
    by_cases hlt : k < n
    · have hlt' : (k : Int) < (n : Int) := by omega
      have ck : wr.cell? ⟨h, k, none⟩ = some C[k]! := by
        rw [Lib.cell_of_heap HI.out.2.1]
        have := HI.out.2.2.1
        rw [getElem!_pos C k (by omega)]
        simp [show k < C.size by omega]
      have fk : wr.frozen? ⟨h, k, none⟩ = false := Lib.frozen_of_heap HI.out.2.1 _
      have hnew := heap_setCell_same wr h k _ _ (.int .i64 (k : Nat)) HI.out.2.1
      have HN := Lib.hid hnew
      clear hnew hlt
      go_wp2_with fail
      refine ⟨⟨k + 1, _, by go_num, by omega, Lib.hid ⟨HI.out.1.setCell (Nat.le_refl _) _, HN.out, by simp [HI.out.2.2.1], fun i hi => ?_⟩⟩, by simp [RowKit.intOf]; omega⟩
      rw [Array.getElem?_setIfInBounds]
      by_cases e : k = i
      · subst e
        rw [if_pos rfl, if_pos (by rw [HI.out.2.2.1]; omega)]
      · rw [if_neg e]
        exact HI.out.2.2.2 i (by omega)
    · have hkn : k = n := by omega
      subst hkn
      have hlt' : ¬ (k : Int) < (k : Int) := by omega
      clear hlt
      go_wp2
      go_ret
      refine ⟨rfl, ⟨fun i => i, ⟨fun i hi => ⟨Nat.le_refl _, hi⟩, fun i hi j h1 h2 => by omega⟩, fun j hj => ⟨fun _ => rfl, fun _ => trivial⟩, fun i hi => ⟨?_, Lib.frozen_of_heap HI.out.2.1 _⟩⟩, HI.out.1, (Array.getElem?_eq_some_iff.1 HI.out.2.1).1⟩
      rw [Lib.cell_of_heap HI.out.2.1]
      exact HI.out.2.2.2 i hi
end Go.Proofs.YthhepebkfokddaaGreatDoor
/- props: runs of rows: what is told of each edge. -/
namespace Go.Proofs.YthhepebkfokddaaGreatDoor
open Go Go.RowKit Go.Kt Go.Kt.Rg Go.Maps Go.Kt.Os Go.Sort

abbrev Rw3 := Nat × Nat × Int
def holdsR (x : Rw3) (e : Nat) : Prop := x.1 ≤ e ∧ e ≤ x.2.1
instance (x : Rw3) (e : Nat) : Decidable (holdsR x e) := inferInstanceAs (Decidable (_ ∧ _))
def lastV : List Rw3 → Nat → Option Int
  | [], _ => none
  | x :: t, e => match lastV t e with
    | some v => some v
    | none => if holdsR x e then some x.2.2 else none
theorem lastV_none {l : List Rw3} {e : Nat} : lastV l e = none ↔ ∀ x ∈ l, ¬ holdsR x e := by
  induction l with
  | nil => exact ⟨fun _ _ h => (by cases h), fun _ => rfl⟩
  | cons x t ih =>
    unfold lastV
    cases h : lastV t e with
    | some v =>
      refine ⟨fun h1 => (by cases h1), fun h1 => ?_⟩
      have := ih.2 (fun y hy => h1 y (List.mem_cons_of_mem _ hy))
      rw [h] at this; cases this
    | none =>
      have h2 := ih.1 h
      simp only
      split
      · rename_i h3
        exact ⟨fun h1 => (by cases h1), fun h1 => absurd h3 (h1 x List.mem_cons_self)⟩
      · rename_i h3
        exact ⟨fun _ y hy => by rcases List.mem_cons.1 hy with rfl | hy; exact h3; exact h2 y hy, fun _ => rfl⟩
def ToldW (E : List Nat) (l : List Rw3) (P : Nat → Prop) (V : Nat → Int) : Prop :=
  ∀ j e, E[j]? = some e → (P j ↔ lastV l e = none) ∧ V j = (lastV l e).getD 0
theorem ToldW.cons {E : List Nat} {l : List Rw3} {P P' : Nat → Prop} {V V' : Nat → Int} (h : ToldW E l P V) {x : Rw3} {first at_ : Nat} (hE : E.Pairwise (· < ·)) (hf : E[first]? = some x.1) (ha : ∀ e, E[at_]? = some e → x.2.1 < e) (hat : at_ < E.length)
    (hb : ∀ j e, first ≤ j → j < at_ → E[j]? = some e → P j → e ≤ x.2.1)
    (hP : ∀ j, j < E.length → (P' j ↔ P j ∧ (j < first ∨ at_ ≤ j))) (hV1 : ∀ j, P j → first ≤ j → j < at_ → V' j = x.2.2) (hV2 : ∀ j, j < E.length → ¬ (P j ∧ first ≤ j ∧ j < at_) → V' j = V j) : ToldW E (x :: l) P' V' := by
  have hlt : ∀ i j a b, E[i]? = some a → E[j]? = some b → i < j → a < b := fun i j a b hi hj hij => by
    have h1 := (List.getElem?_eq_some_iff.1 hi)
    have h2 := (List.getElem?_eq_some_iff.1 hj)
    rw [← h1.2, ← h2.2]
    exact (List.pairwise_iff_getElem.1 hE) i j h1.1 h2.1 hij
  intro j e hj
  have hjl := (List.getElem?_eq_some_iff.1 hj).1
  obtain ⟨h1, h2⟩ := h j e hj
  obtain ⟨ea, hea⟩ : ∃ ea, E[at_]? = some ea := ⟨_, List.getElem?_eq_getElem hat⟩
  have hax := ha ea hea
  rw [hP j hjl]
  unfold lastV
  cases hl : lastV l e with
  | some v =>
    have hp : ¬ P j := fun hp => by have := h1.1 hp; rw [hl] at this; cases this
    rw [hV2 j hjl (fun h => hp h.1), h2, hl]
    exact ⟨⟨fun h => absurd h.1 hp, fun h => (by cases h)⟩, rfl⟩
  | none =>
    have hp : P j := h1.2 hl
    simp only
    by_cases hh : holdsR x e
    · have hjf : first ≤ j := by
        refine Nat.le_of_not_lt fun hlt2 => ?_
        have := hlt j first e x.1 hj hf hlt2
        have := hh.1
        omega
      have hja : j < at_ := by
        refine Nat.lt_of_not_le fun hle => ?_
        have := hh.2
        by_cases e2 : at_ = j
        · subst e2; rw [hea] at hj; cases hj; omega
        · have := hlt at_ j ea e hea hj (by omega)
          omega
      rw [if_pos hh, hV1 j hp hjf hja]
      exact ⟨⟨fun h => (by omega), fun h => (by cases h)⟩, rfl⟩
    · have hn : ¬ (first ≤ j ∧ j < at_) := fun hq => hh (by
        have hle := hb j e hq.1 hq.2 hj hp
        refine ⟨?_, hle⟩
        by_cases e2 : first = j
        · subst e2; rw [hf] at hj; cases hj; exact Nat.le_refl _
        · have := hlt first j x.1 e hf hj (by omega)
          omega)
      rw [if_neg hh, hV2 j hjl (fun h => hn h.2), h2, hl]
      exact ⟨⟨fun _ => rfl, fun _ => ⟨hp, by omega⟩⟩, rfl⟩
end Go.Proofs.YthhepebkfokddaaGreatDoor
/- What is the same of any program: rows of one's own, from a base on; nothing appended. -/
namespace Go.Kt
open Go Go.RowKit

theorem own_from_base {B : Nat} {e : TypeId} {size n : Nat} {v : Value} {xs : List Value} {W : World} (h : W.ownsRow B e size v n xs) : OwnS (fun b => B ≤ b) e size v n xs W := by
  refine ⟨⟨h.1, ?_⟩, fun g hg => ?_⟩
  · rcases h.2 with h1 | ⟨g, cap, cur, rfl, _, rest⟩
    · exact .inl h1
    · exact .inr ⟨g, cap, cur, rfl, Nat.zero_le _, rest⟩
  · rcases h.2 with ⟨rfl, _⟩ | ⟨g', cap, cur, rfl, hb, _⟩
    · cases hg
    · cases hg; exact hb
theorem own_to_base {Y : Nat → Prop} {e : TypeId} {size n base : Nat} {v : Value} {xs : List Value} {W : World} (h : OwnS Y e size v n xs W) (hY : ∀ b, Y b → base ≤ b) : W.ownsRow base e size v n xs := by
  obtain ⟨⟨hl, h2⟩, hY'⟩ := h
  refine ⟨hl, ?_⟩
  rcases h2 with h2 | ⟨g, cap, cur, rfl, hb, hg, rest⟩
  · exact .inl h2
  · exact .inr ⟨g, cap, cur, rfl, hY g (hY' g rfl), hg, rest⟩
theorem append_no_more {w : World} {base : Nat} {P : Program} (t ty e : TypeId) (i : TypeInfo) (size : Nat) (ht : P.underlying t = some (.slice e)) (hi : P.info? e = some i)
    (v : Value) (n : Nat) (xs : List Value) (hown : w.ownsRow base e size v n xs) (c : Nat) :
    (Builtin.append_ #[t, t] ty #[v, .slice none 0 c]).run P w = .ok v w := by
  rcases hown.2 with ⟨rfl, rfl⟩ | ⟨g, cap, cur, rfl, _, _, hnc, _⟩
  · simp [Builtin.append_, run_underlying ht, sizeOf, typeInfo, hi, Builtin.lenOf, Builtin.firstCells]
  · simp [Builtin.append_, run_underlying ht, sizeOf, typeInfo, hi, Builtin.lenOf, Builtin.firstCells, hnc, storeCells]
theorem OwnS.atN {Y : Nat → Prop} {e : TypeId} {size n g cap : Nat} {xs : List Value} {W : World} (h : OwnS Y e size (.slice (some ⟨g, 0, none⟩) n cap) n xs W) {i : Nat} {u : Value} (hi : xs[i]? = some u) : W.cell? ⟨g, i, none⟩ = some u := by
  have := h.1.cells (g := g) rfl i u hi
  rwa [Addr.add_lit, Nat.zero_add] at this
end Go.Kt
