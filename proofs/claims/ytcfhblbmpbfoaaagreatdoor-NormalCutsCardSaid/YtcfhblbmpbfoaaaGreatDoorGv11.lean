/- Parts of the proof of what the last text says. -/
import Derived.Test.YtcfhblbmpbfoaaaGreatDoorGv6
import Derived.Lib.SliceRun
import Derived.OrdersIn
import Derived.OwnWalkIn
import Derived.WalkKit
import Derived.Shelf.SlSortCmp.KitK
import Derived.Sort.WalkB2
import Derived.Sort.WalkB12
import Derived.Deep.LoopGhost
import Derived.Test.YtcfhblbmpbfoaaaGreatDoorGv3
import Derived.Test.YtcfhblbmpbfoaaaGreatDoorProg
import Derived.WalkLawsBesides
import Derived.WalkSpells
import Derived.Lib.Hide
import Derived.RegionTactic
import Derived.BigRegion
import Derived.BigGuard
import Derived.BigCall
import Derived.CellFam
import Derived.Deep.Draws
import Derived.Deep.QuietTactic
import Derived.BigQuiet
import Derived.Sort.LotA
import Derived.Shelf.SlGeneric
import Derived.Shelf.SlicesG.Cmp
import Derived.Ground.SlsfProg
import Derived.Ground.SlgcProg
namespace Go.Proofs.YtcfhblbmpbfoaaaGreatDoor
open Go Go.RowKit Go.Kt Go.Kt.Os Go.Sort

structure Cpt (n : Nat) (G : Nat → Int) (i p : Nat) (H : Nat → Int) : Prop where
  i1 : 1 ≤ i
  ip : i + 1 ≤ p
  pn : p ≤ n
  rise : ∀ j k, j < k → k < i → H j < H k
  last : H (i - 1) = G (p - 1)
  same : ∀ t, p ≤ t + 1 → t < n → H t = G t
  mem : ∀ x, (∃ t, t < i ∧ H t = x) ↔ ∃ t, t < p ∧ G t = x

theorem Cpt.start {n : Nat} {G : Nat → Int} {i : Nat} (h1 : 1 ≤ i) (hn : i < n) (hr : ∀ j k, j < k → k < i → G j < G k) (he : G i = G (i - 1)) : Cpt n G i (i + 1) G where
  i1 := h1
  ip := Nat.le_refl _
  pn := hn
  rise := hr
  last := he.symm
  same := fun _ _ _ => rfl
  mem := fun x => ⟨fun ⟨t, ht, e⟩ => ⟨t, by omega, e⟩, fun ⟨t, ht, e⟩ => by
    rcases Nat.lt_or_ge t i with h | h
    · exact ⟨t, h, e⟩
    · exact ⟨i - 1, by omega, by rw [← he, ← e]; congr 1; omega⟩⟩
theorem Cpt.skip {n : Nat} {G H : Nat → Int} {i p : Nat} (h : Cpt n G i p H) (hp : p < n) (he : G p = G (p - 1)) : Cpt n G i (p + 1) H where
  i1 := h.i1
  ip := by have := h.ip; omega
  pn := hp
  rise := h.rise
  last := h.last.trans he.symm
  same := fun t h1 h2 => h.same t (by omega) h2
  mem := fun x => (h.mem x).trans ⟨fun ⟨t, ht, e⟩ => ⟨t, by omega, e⟩, fun ⟨t, ht, e⟩ => by
    have := h.ip
    rcases Nat.lt_or_ge t p with k | k
    · exact ⟨t, k, e⟩
    · exact ⟨p - 1, by omega, by rw [← he, ← e]; congr 1; omega⟩⟩
theorem Cpt.take {n : Nat} {G H : Nat → Int} {i p : Nat} (h : Cpt n G i p H) (hs : ∀ i j, i ≤ j → j < n → G i ≤ G j) (hp : p < n) (hne : G p ≠ G (p - 1)) : Cpt n G (i + 1) (p + 1) (fun t => if t = i then G p else H t) where
  i1 := by omega
  ip := by have := h.ip; omega
  pn := hp
  rise := fun j k hjk hk => by
    have hlt : ∀ j, j < i → H j < G p := fun j hj => by
      have e1 : H j ≤ H (i - 1) := by
        rcases Nat.lt_or_ge j (i - 1) with k | k
        · exact Int.le_of_lt (h.rise j (i - 1) k (by have := h.i1; omega))
        · have : j = i - 1 := by omega
          subst this; exact Int.le_refl _
      have e2 := hs (p - 1) p (by omega) hp
      have e3 := h.last
      omega
    have hj : j ≠ i := by omega
    simp only [if_neg hj]
    by_cases hki : k = i
    · simp only [if_pos hki]
      exact hlt j (by omega)
    · simp only [if_neg hki]
      exact h.rise j k hjk (by omega)
  last := by simp
  same := fun t h1 h2 => by
    have := h.ip
    simp only [if_neg (show t ≠ i by omega)]
    exact h.same t (by omega) h2
  mem := fun x => by
    constructor
    · rintro ⟨t, ht, e⟩
      by_cases hti : t = i
      · simp only [if_pos hti] at e
        exact ⟨p, by omega, e⟩
      · simp only [if_neg hti] at e
        obtain ⟨u, hu, e2⟩ := (h.mem x).1 ⟨t, by omega, e⟩
        exact ⟨u, by omega, e2⟩
    · rintro ⟨t, ht, e⟩
      rcases Nat.lt_or_ge t p with k | k
      · obtain ⟨u, hu, e2⟩ := (h.mem x).2 ⟨t, k, e⟩
        exact ⟨u, by omega, by simp only [if_neg (show u ≠ i by omega)]; exact e2⟩
      · exact ⟨i, by omega, by simp only [if_true]; rw [← e]; congr 1; omega⟩

def RW (blk off n : Nat) (G : Nat → Int) (W : World) : Prop := ∀ t, t < n → W.cell? ⟨blk, off + t, none⟩ = some (.int .i32 (G t)) ∧ W.frozen? ⟨blk, off + t, none⟩ = false
theorem RW.set {blk off n : Nat} {G : Nat → Int} {W : World} (h : RW blk off n G W) {i : Nat} (hi : i < n) (x : Int) : RW blk off n (fun t => if t = i then x else G t) (W.setCell ⟨blk, off + i, none⟩ (.int .i32 x)) := fun t ht => by
  refine ⟨?_, (World.frozen?_setCell _ _ _ _).trans (h t ht).2⟩
  by_cases e : t = i
  · subst e
    simp only [if_true]
    exact World.cell?_setCell_same _ _ _ (h t ht).1
  · simp only [if_neg e]
    exact (World.cell?_setCell_other _ _ _ _ (fun k => by injection k with _ k; omega)).trans (h t ht).1
theorem keep_drewN {X : Nat → Prop} {A B : World} (h : Keep X A B) (q : Nat) : Keep X A (B.drewN q) := h.trans ⟨rfl, rfl, rfl, Nat.le_refl _, fun _ _ _ => rfl⟩
theorem keep_setCells {X : Nat → Prop} {A : World} (b : Nat) (hb : X b) : ∀ (vs : List Value) (o : Nat) (B : World), Keep X A B → Keep X A (B.setCells b o vs)
  | [], _, _, h => h
  | v :: r, o, _, h => keep_setCells b hb r (o + 1) _ (h.setCell (p := ⟨b, o, none⟩) hb v)

def CptOut (blk off cap n : Nat) (G : Nat → Int) (w : World) (e : Ending) (w' : World) : Prop :=
  ∃ (m : Nat) (H : Nat → Int), e = .returned (.slice (some ⟨blk, off, none⟩) m cap) ∧ 1 ≤ m ∧ m ≤ n ∧ (∀ j k, j < k → k < m → H j < H k) ∧ (∀ x, (∃ t, t < m ∧ H t = x) ↔ ∃ t, t < n ∧ G t = x) ∧ (∀ t, t < m → w'.cell? ⟨blk, off + t, none⟩ = some (.int .i32 (H t))) ∧ Keep (fun b => b = blk) w w'

set_option maxRecDepth 100000 in
set_option maxHeartbeats 2000000 in
theorem oCompact (blk off cap n : Nat) (G : Nat → Int) (w : World) (hR : RW blk off n G w) (hs : ∀ i j, i ≤ j → j < n → G i ≤ G j) (hn : 1 ≤ n) (hcap : n ≤ cap) (hsz : cap < 9223372036854775808) :
    Calls Tryz.prog 173 #[.slice (some ⟨blk, off, none⟩) n cap] w fun e w' => CptOut blk off cap n G w e w' := by
  have HR := Lib.hid hR
  have HS := Lib.hid hs
  clear hR hs
  by_cases h2 : n < 2
  · have h2z : (n : Int) < 2 := by omega
    go_enter Tryz.func173, Tryz.ntmps173
    go_wp2
    go_ret
    exact (show CptOut _ _ _ _ _ _ _ _ from ⟨n, G, rfl, hn, Nat.le_refl _, fun j k h1 h3 => absurd h3 (by omega), fun x => Iff.rfl, fun t ht => (HR.out t ht).1, Keep.refl _ _⟩)
  · have h2z : (2 : Int) ≤ (n : Int) := by omega
    go_enter Tryz.func173, Tryz.ntmps173
    go_wp2
    go_loopw [3] (fun vi wr => ∃ (i q : Nat), vi = .int .i64 i ∧ 1 ≤ i ∧ i ≤ n ∧ Hid ((∀ j k, j < k → k < i → G j < G k)) ∧ wr = w.drewN q) (fun vi _ => n - (RowKit.intOf vi).toNat)
    case atStart => exact ⟨1, 0, rfl, Nat.le_refl _, hn, Lib.hid (fun j k h1 h3 => absurd h3 (by omega)), rfl⟩
    case round =>
      obtain ⟨i, q, rfl, hi1, hin, hh, hw⟩ := hrel
      have hcw : ∀ t, t < n → wr.cell? ⟨blk, off + t, none⟩ = some (.int .i32 (G t)) := fun t ht => by rw [hw]; exact (HR.out t ht).1
      have HW := Lib.hid hw
      clear hw
      by_cases hlt : i < n
      · have hltz : (i : Int) < (n : Int) := by omega
        by_cases he : G i = G (i - 1)
        · have heb : (G i == G (i - 1)) = true := beq_iff_eq.2 he
          have HC := Lib.hid (Cpt.start hi1 hlt hh.out he)
          have HRW : Hid (RW blk off n G wr) := Lib.hid (fun t ht => by rw [HW.out]; exact HR.out t ht)
          have HK : Hid (Keep (fun b => b = blk) w wr) := Lib.hid (by rw [HW.out]; exact ⟨rfl, rfl, rfl, Nat.le_refl _, fun _ _ _ => rfl⟩)
          clear HW he
          go_wp2_with fail
          go_big_quiet (fail)
          replace HRW : Hid (RW blk off n G (wr.drewN nq)) := HRW
          replace HK : Hid (Keep (fun b => b = blk) w (wr.drewN nq)) := Lib.hid (HK.out.trans ⟨rfl, rfl, rfl, Nat.le_refl _, fun _ _ _ => rfl⟩)
          clear hcw heb
          generalize wr.drewN nq = w1 at HRW HK ⊢
          clear nq
          have hiz : ¬ (n : Int) < (i : Int) := by omega
          go_wp2_with fail
          go_loopw [3, 5] (fun vi vp wr => ∃ (k s : Nat) (H : Nat → Int), vi = .int .i64 k ∧ vp = .int .i64 s ∧ k ≤ n ∧ 1 ≤ s ∧ s + i ≤ n ∧ k + 1 ≤ i + s ∧ Hid (Cpt n G k (i + s) H ∧ RW blk off n H wr ∧ Keep (fun b => b = blk) w wr)) (fun _ vp _ => n - (RowKit.intOf vp).toNat)
          case atStart => exact ⟨i, 1, G, rfl, rfl, by omega, by omega, by omega, by omega, Lib.hid ⟨HC.out, HRW.out, HK.out⟩⟩
          case round =>
            clear HC HRW HK
            obtain ⟨k, s, H, rfl, rfl, hk, hs1, hs2, hk2, hg⟩ := hrel
            by_cases hsn : s < n - i
            · have hsnz : (s : Int) < ((n - i : Nat) : Int) := by omega
              have hcw : ∀ t, t < n - i → wr.cell? ⟨blk, off + i + t, none⟩ = some (.int .i32 (H (i + t))) := fun t ht => by
                have := (hg.out.2.1 (i + t) (by omega)).1
                rwa [show off + (i + t) = off + i + t by omega] at this
              have hc0 := (hg.out.2.1 k (by omega)).1
              have hf0 := (hg.out.2.1 k (by omega)).2
              have eP : H (i + s) = G (i + s) := hg.out.1.same _ (by omega) (by omega)
              have eQ : H (i + (s - 1)) = G (i + s - 1) := (hg.out.1.same _ (by omega) (by omega)).trans (by congr 1; omega)
              by_cases hne : H (i + s) = H (i + (s - 1))
              · have hneb : (H (i + s) != H (i + (s - 1))) = false := by simp [hne]
                have HC2 := Lib.hid (hg.out.1.skip (by omega) (by rw [← eP, ← eQ]; exact hne))
                clear eP eQ hne
                go_wp2_with fail
                go_big_quiet (fail)
                go_wp2
                go_roundw
                case rel => exact ⟨k, s + 1, H, rfl, by go_num, by omega, by omega, by omega, by omega, Lib.hid ⟨HC2.out, hg.out.2.1, hg.out.2.2.trans ⟨rfl, rfl, rfl, Nat.le_refl _, fun _ _ _ => rfl⟩⟩⟩
                case measure => simp [RowKit.intOf]; omega
              · have hneb : (H (i + s) != H (i + (s - 1))) = true := by simp [hne]
                have HC2 := Lib.hid (hg.out.1.take HS.out (by omega) (by rw [← eP, ← eQ]; exact hne))
                have HR2 := Lib.hid (RW.set (W := wr) hg.out.2.1 (i := k) (by omega) (G (i + s)))
                have EP := Lib.hid eP
                clear eP eQ hne
                go_wp2_with fail
                go_big_quiet (fail)
                go_wp2_with fail
                replace HR2 : Hid (RW blk off n (fun t => if t = k then G (i + s) else H t) ((wr.drewN nq).setCell ⟨blk, off + k, none⟩ (.int .i32 (H (i + s))))) := Lib.hid (by rw [EP.out]; exact HR2.out)
                have HK2 : Hid (Keep (fun b => b = blk) w ((wr.drewN nq).setCell ⟨blk, off + k, none⟩ (.int .i32 (H (i + s))))) := Lib.hid (Keep.setCell (X := fun b => b = blk) (keep_drewN hg.out.2.2 nq) (p := ⟨blk, off + k, none⟩) rfl _)
                go_wp2
                go_roundw
                case rel => exact ⟨k + 1, s + 1, _, by go_num, by go_num, by omega, by omega, by omega, by omega, Lib.hid ⟨HC2.out, HR2.out, HK2.out⟩⟩
                case measure => simp [RowKit.intOf]; omega
            · have hsnz : ((n - i : Nat) : Int) ≤ (s : Int) := by omega
              have es : i + s = n := by omega
              have hkn : k < n := by omega
              have hcl : ∀ ty, (Builtin.clear_ #[22] ty #[.slice (some ⟨blk, off + k, none⟩) (n - k) (cap - k)]).run Tryz.prog wr = .ok (.tuple #[]) (wr.setCells blk (off + k) (List.replicate (n - k) (.int .i32 0))) :=
                fun ty => Lib.run_clear_slice wr _ _ ty _ Tryz.underlying22 Tryz.zeroValue21 rfl rfl blk (off + k) _ _ (by omega) (fun j hj => by rw [show off + k + j = off + (k + j) by omega, (hg.out.2.1 (k + j) (by omega)).1]; rfl) (fun j hj => by rw [show off + k + j = off + (k + j) by omega]; exact (hg.out.2.1 (k + j) (by omega)).2)
              have hkz : ¬ (n : Int) < (k : Int) := by omega
              have hkc : ¬ (cap : Int) < (k : Int) := by omega
              have ES := Lib.hid es
              clear es
              go_wp2
              go_ret
              refine (show CptOut _ _ _ _ _ _ _ _ from ⟨k, H, rfl, hg.out.1.i1, by omega, hg.out.1.rise, by rw [← ES.out]; exact hg.out.1.mem, fun t ht => ?_, keep_setCells (X := fun b => b = blk) blk rfl _ _ _ hg.out.2.2⟩)
              rw [World.cell?_setCells_out blk _ _ _ _ (fun _ _ => Or.inl (by show off + t < off + k; omega))]
              exact (hg.out.2.1 t (by omega)).1
        · have heb : (G i == G (i - 1)) = false := beq_eq_false_iff_ne.2 he
          go_wp2_with fail
          go_big_quiet (fail)
          go_wp2
          go_roundw
          case rel => exact ⟨i + 1, q + nq, by go_num, by omega, by omega, Lib.hid (fun j k h1 h3 => by
            rcases Nat.lt_or_ge k i with e | e
            · exact hh.out j k h1 e
            · have ek : k = i := by omega
              subst ek
              have e1 := HS.out (k - 1) k (by omega) hlt
              have e2 := HS.out j (k - 1) (by omega) (by omega)
              omega), by rw [HW.out, World.drewN_drewN]⟩
          case measure => simp [RowKit.intOf]; omega
      · have hltz : ¬ (i : Int) < (n : Int) := by omega
        have e : i = n := by omega
        subst e
        go_wp2
        go_ret
        exact (show CptOut _ _ _ _ _ _ _ _ from ⟨i, G, rfl, hn, Nat.le_refl _, hh.out, fun x => Iff.rfl, hcw, by rw [HW.out]; exact ⟨rfl, rfl, rfl, Nat.le_refl _, fun _ _ _ => rfl⟩⟩)
end Go.Proofs.YtcfhblbmpbfoaaaGreatDoor
namespace Go.Kt
open Go

section
variable {F : Fence} {n : Nat} {P : Program} {ops : Array Oper} {Q : Exit → Act → World → Prop} {md : Region.Mode}
theorem wpIn_value {o : Oper} {a : Act} {w w' : World} {v : Value} {K : Act → World → Prop} (hc : ∀ c, o.op ≠ .call c ∧ o.op ≠ .defer c) (h : (execOp a.eval o).run P w = .ok (.value v) w') (hK : K (a.put o.dst v) w') : o.wpIn F n P a w K Q := by
  unfold Oper.wpIn
  refine ⟨fun f hf => ?_, ?_⟩
  · unfold Oper.about at hf
    split at hf
    · rename_i c e; exact absurd e (hc c).1
    · cases hf
  · rw [Oper.semAt_plain F _ _ (fun c => (hc c).2), h]
    exact hK
theorem wpAnyIn_inv (I : Array Bool → Act → World → Prop)
    (step : ∀ listed a w i, I listed a w → i ∈ Region.ready md ops listed → wpOpIn F n P ops Q i (I (listed.setIfInBounds i true)) a w)
    (done : ∀ listed a w, I listed a w → Region.ready md ops listed = [] → Q .normal a w) :
    ∀ fuel listed a w, unlisted listed ops.size ≤ fuel → I listed a w → wpAnyIn F n P md ops Q fuel listed a w := by
  intro fuel
  induction fuel with
  | zero =>
    intro listed a w hf hI
    have hr : Region.ready md ops listed = [] := by
      rcases List.eq_nil_or_concat (Region.ready md ops listed) with h | ⟨l, i, h⟩
      · exact h
      · have hi : i ∈ Region.ready md ops listed := by rw [h]; simp
        obtain ⟨h1, o, ho, _⟩ := mem_ready.1 hi
        have hm : i ∈ (List.range ops.size).filter fun i => !listed.getD i true := by
          rw [List.mem_filter]
          exact ⟨List.mem_range.2 (Array.getElem?_eq_some_iff.1 ho).1, by rw [h1]; rfl⟩
        have := List.length_pos_of_mem hm
        unfold unlisted at hf
        omega
    exact ⟨hr, done _ _ _ hI hr⟩
  | succ fuel ih =>
    intro listed a w hf hI
    refine ⟨done _ _ _ hI, fun i hi => ?_⟩
    obtain ⟨h1, o, ho, _⟩ := mem_ready.1 hi
    have hlt := filter_set_lt listed i h1 (List.range ops.size) (List.mem_range.2 (Array.getElem?_eq_some_iff.1 ho).1)
    refine wpOpIn_mono (fun a' w' h' => ih _ a' w' ?_ h') (step listed a w i hI hi)
    unfold unlisted at hf ⊢
    omega

def DInStep (F : Fence) (n : Nat) (P : Program) (md : Region.Mode) (ops : Array Oper) (Q : Exit → Act → World → Prop) (S : (Nat → Bool) → World → Prop) (p : Nat → Value → World → Prop) (a0 : Act) (i : Nat) (o : Oper) : Prop :=
  ∀ (D : Nat → Bool) a w, D i = false → (∀ j, awaits md ops j i = true → D j = false) → (∀ j, waitsB md o j = true → D j = true) → S D w → Like ops a0 a → (∀ j k, waitsB md o j = true → slotB ops j k = true → p j (a.tmps.getD k undef) w) →
    Region.wanted o (yielded ops a.tmps) = true ∧ o.wpIn F n P a w (fun a' w' => ∃ v, a' = a.put o.dst v ∧ S (fun j => D j || j == i) w' ∧ (∀ j u, D j = true → p j u w → p j u w') ∧ p i v w') Q
def DInSteps (F : Fence) (n : Nat) (P : Program) (md : Region.Mode) (ops : Array Oper) (Q : Exit → Act → World → Prop) (S : (Nat → Bool) → World → Prop) (p : Nat → Value → World → Prop) (a0 : Act) : Nat → List Oper → Prop
  | _, [] => True
  | i, o :: r => DInStep F n P md ops Q S p a0 i o ∧ DInSteps F n P md ops Q S p a0 (i + 1) r
theorem DInSteps.get {S : (Nat → Bool) → World → Prop} {p : Nat → Value → World → Prop} {a0 : Act} : ∀ (l : List Oper) (i : Nat), DInSteps F n P md ops Q S p a0 i l → ∀ j o, l[j]? = some o → DInStep F n P md ops Q S p a0 (i + j) o
  | [], _, _, j, o, h => by simp at h
  | x :: r, i, hs, 0, o, h => by simp at h; subst h; exact hs.1
  | x :: r, i, hs, j + 1, o, h => by
    have := DInSteps.get r (i + 1) hs.2 j o (by simpa using h)
    rw [show i + (j + 1) = i + 1 + j by omega]; exact this
theorem DInSteps.cons {S : (Nat → Bool) → World → Prop} {p : Nat → Value → World → Prop} {a0 : Act} {i : Nat} {o : Oper} {r : List Oper} (h : DInStep F n P md ops Q S p a0 i o) (hr : DInSteps F n P md ops Q S p a0 (i + 1) r) : DInSteps F n P md ops Q S p a0 i (o :: r) := ⟨h, hr⟩
theorem DInSteps.nil {S : (Nat → Bool) → World → Prop} {p : Nat → Value → World → Prop} {a0 : Act} {i : Nat} : DInSteps F n P md ops Q S p a0 i [] := trivial

theorem wpIn_region_done {id : Nat} {a0 : Act} {w0 : World} (S : (Nat → Bool) → World → Prop) (p : Nat → Value → World → Prop) (hm : P.follows .mixedOrders = true) (hap : apartB ops a0.tmps.size = true) (hfw : forwardB .any ops = true)
    (hS : S (fun _ => false) w0.drew) (hs : DInSteps F n P .any ops Q S p a0 0 ops.toList)
    (hd : ∀ D a w, (∀ j, j < ops.size → D j = true) → S D w → Like ops a0 a → (∀ j k, slotB ops j k = true → p j (a.tmps.getD k undef) w) → (∀ j, j < ops.size → ∃ v, p j v w) → Q .normal a w) : (Code.region id ops true).wpIn F n P Q a0 w0 := by
  have hdst : ∀ (i : Nat) (o : Oper) (k : Nat), ops[i]? = some o → o.dst = some k → k < a0.tmps.size ∧ ∀ (j : Nat) (oj : Oper), ops[j]? = some oj → oj.dst = some k → i = j := by
    intro i o k ho hk
    have hi := (Array.getElem?_eq_some_iff.1 ho).1
    have h1 := List.all_eq_true.1 hap i (List.mem_range.2 hi)
    have h2 : ops.getD i default = o := by simp [Array.getD_eq_getD_getElem?, ho]
    rw [h2, hk] at h1
    simp only [Bool.and_eq_true, decide_eq_true_eq] at h1
    refine ⟨h1.1, fun j oj hj hjk => ?_⟩
    have hj' := (Array.getElem?_eq_some_iff.1 hj).1
    have h3 := List.all_eq_true.1 h1.2 j (List.mem_range.2 hj')
    have h4 : ops.getD j default = oj := by simp [Array.getD_eq_getD_getElem?, hj]
    rw [h4, hjk] at h3
    simpa using h3
  refine wpIn_region_any hm ?_
  refine wpAnyIn_inv (fun listed a w => listed.size = ops.size ∧ S (fun j => listed.getD j false) w ∧ (∀ j k, listed.getD j false = true → awaits .any ops j k = true → listed.getD k false = true) ∧ Like ops a0 a ∧ (∀ j, listed.getD j false = true → ∃ v, p j v w) ∧ ∀ j k, listed.getD j false = true → slotB ops j k = true → p j (a.tmps.getD k undef) w) ?_ ?_ _ _ _ _ ?_ ⟨by simp, by rw [show (fun j => (Array.replicate ops.size false).getD j false) = fun _ => false from funext fun j => by simp only [Array.getD_eq_getD_getElem?, Array.getElem?_replicate]; split <;> rfl]; exact hS, ?_, ⟨rfl, rfl, fun _ _ => rfl⟩, ?_, ?_⟩
  · rintro listed a w i ⟨hz, hSw, hC, hL, hE, hP⟩ hi
    obtain ⟨hjun, o, ho, hall⟩ := mem_ready.1 hi
    have hilt := (Array.getElem?_eq_some_iff.1 ho).1
    have hin : listed.getD i false = false := by
      have hi2 : i < listed.size := by omega
      simpa [Array.getD_eq_getD_getElem?, hi2] using hjun
    have hw8 : ∀ j, waitsB .any o j = true → listed.getD j false = true := fun j hj => by
      unfold waitsB at hj
      obtain ⟨e, he, h2⟩ := Array.any_eq_true'.1 hj
      simp only [Bool.and_eq_true, beq_iff_eq] at h2
      have := hall e he h2.2
      rw [h2.1] at this
      exact this
    have hst := DInSteps.get ops.toList 0 hs i o (by simpa using ho)
    rw [Nat.zero_add] at hst
    obtain ⟨hw, hx⟩ := hst (fun j => listed.getD j false) a w hin (fun j hj => by
      cases hl : listed.getD j false with
      | false => rfl
      | true => have := hC j i hl hj; rw [hin] at this; cases this) hw8 hSw hL (fun j k hj hk => hP j k (hw8 j hj) hk)
    unfold wpOpIn
    simp only [ho, hw, if_true]
    refine Oper.wpIn_mono ?_ hx
    rintro a' w' ⟨v, rfl, hS', hR', hpv⟩
    refine ⟨by simpa using hz, by rw [set_done listed i (by omega)]; exact hS', ?_, ⟨?_, ?_, fun k hk => ?_⟩, fun j hj => ?_, fun j k hj hk => ?_⟩
    · intro j k hj hk
      have hd1 := congrFun (set_done listed i (by omega))
      rw [hd1] at hj ⊢
      rw [Bool.or_eq_true] at hj ⊢
      left
      rcases hj with hj | hj
      · exact hC j k hj hk
      · have : j = i := by simpa using hj
        subst this
        unfold awaits at hk
        rw [ho] at hk
        exact hw8 k hk
    · cases h : o.dst <;> exact hL.defers
    · cases h : o.dst
      · exact hL.size
      · simp only [Act.put, Array.size_setIfInBounds]; exact hL.size
    · cases h : o.dst with
      | none => exact hL.far k hk
      | some d =>
        have hne : d ≠ k := fun e => by
          subst e
          unfold outside at hk
          have := Array.all_eq_true.1 hk i hilt
          rw [(Array.getElem?_eq_some_iff.1 ho).2, h] at this
          simp at this
        simp only [Act.put, Array.getD_eq_getD_getElem?, Array.getElem?_setIfInBounds, if_neg hne]
        have := hL.far k hk
        simpa only [Array.getD_eq_getD_getElem?] using this
    · by_cases hji : j = i
      · subst hji; exact ⟨v, hpv⟩
      · have hjl : listed.getD j false = true := by
          simp only [Array.getD_eq_getD_getElem?, Array.getElem?_setIfInBounds, if_neg (Ne.symm hji)] at hj ⊢
          exact hj
        obtain ⟨u, hu⟩ := hE j hjl
        exact ⟨u, hR' j _ hjl hu⟩
    · obtain ⟨oj, hoj, hjk⟩ : ∃ oj, ops[j]? = some oj ∧ oj.dst = some k := by
        unfold slotB at hk
        cases h : ops[j]? with
        | none => rw [h] at hk; cases hk
        | some oj => rw [h] at hk; exact ⟨oj, rfl, by simpa using hk⟩
      by_cases hji : j = i
      · subst hji
        rw [hoj] at ho
        cases ho
        have hkz := (hdst j _ k hoj hjk).1
        rw [hjk]
        have : (a.put (some k) v).tmps.getD k undef = v := by
          have : k < a.tmps.size := by rw [hL.size]; exact hkz
          simp [Act.put, Array.getD_eq_getD_getElem?, this]
        rw [this]
        exact hpv
      · have hjl : listed.getD j false = true := by
          simp only [Array.getD_eq_getD_getElem?, Array.getElem?_setIfInBounds, if_neg (Ne.symm hji)] at hj ⊢
          exact hj
        have h1 := hR' j _ hjl (hP j k hjl hk)
        cases h : o.dst with
        | none => exact h1
        | some d =>
          have hne : d ≠ k := fun e => by
            subst e
            exact hji ((hdst i o d ho h).2 j oj hoj hjk).symm
          simp only [Act.put, Array.getD_eq_getD_getElem?, Array.getElem?_setIfInBounds, if_neg hne] at h1 ⊢
          exact h1
  · rintro listed a w ⟨hz, hSw, hC, hL, hE, hP⟩ hr
    have hall : ∀ n j, j < n → j < ops.size → listed.getD j false = true := by
      intro n
      induction n with
      | zero => intro j h; omega
      | succ n ih =>
        intro j hjn hj
        cases hl : listed.getD j true with
        | true =>
          have : j < listed.size := by omega
          simpa [Array.getD_eq_getD_getElem?, this] using hl
        | false =>
          exfalso
          have hmem : j ∈ Region.ready .any ops listed := mem_ready.2 ⟨hl, ops[j], by simp [hj], fun e he hb => by
            have h1 := List.all_eq_true.1 hfw j (List.mem_range.2 hj)
            have h2 : ops.getD j default = ops[j] := by simp [Array.getD_eq_getD_getElem?, hj]
            rw [h2] at h1
            have h3 := Array.all_eq_true_iff_forall_mem.1 h1 e he
            rw [hb] at h3
            simp at h3
            exact ih e.on (by omega) (by omega)⟩
          rw [hr] at hmem
          cases hmem
    refine hd _ a w (fun j hj => hall (j + 1) j (by omega) hj) hSw hL (fun j k hk => hP j k (hall (j + 1) j (by omega) ?_) hk) (fun j hj => hE j (hall (j + 1) j (by omega) hj))
    unfold slotB at hk
    cases h : ops[j]? with
    | none => rw [h] at hk; cases hk
    | some oj => exact (Array.getElem?_eq_some_iff.1 h).1
  · unfold unlisted
    exact Nat.le_trans (List.length_filter_le _ _) (by simp)
  · intro j k hj
    simp only [Array.getD_eq_getD_getElem?, Array.getElem?_replicate] at hj
    split at hj <;> simp at hj
  · intro j hj
    simp only [Array.getD_eq_getD_getElem?, Array.getElem?_replicate] at hj
    split at hj <;> simp at hj
  · intro j k hj
    simp only [Array.getD_eq_getD_getElem?, Array.getElem?_replicate] at hj
    split at hj <;> simp at hj
end
def RoS (w : World) (_ : Nat → Bool) (X : World) : Prop := X = w
def RoP (val : Nat → Option Value) (i : Nat) (v : Value) (_ : World) : Prop := ∀ u, val i = some u → v = u
theorem RoP.mk {val : Nat → Option Value} {i : Nat} {v : Value} {X : World} (e : val i = some v) : RoP val i v X := fun u h => by rw [e] at h; exact Option.some.inj h
end Go.Kt
namespace Go.Kt.Bits
def dsum (B : Nat) : Nat → Nat → Nat
  | 0, _ => 0
  | n + 1, x => x % B + dsum B n (x / B)
def m0 : Nat → Nat | 0 => 0 | n + 1 => 1 + 4 * m0 n
def m1 : Nat → Nat | 0 => 0 | n + 1 => 3 + 16 * m1 n
def m2 : Nat → Nat | 0 => 0 | n + 1 => 15 + 256 * m2 n
def Dig (B d : Nat) : Nat → Nat → Prop
  | 0, x => x = 0
  | n + 1, x => x % B ≤ d ∧ Dig B d n (x / B)

def pop (x : Nat) : Nat := (List.range 64).countP (fun b => x.testBit b)
def cnt (p : Nat → Bool) (n : Nat) : Nat := (List.range n).countP p
theorem cnt_zero (p : Nat → Bool) : cnt p 0 = 0 := rfl
theorem cnt_succ (p : Nat → Bool) (n : Nat) : cnt p (n + 1) = cnt p n + if p n then 1 else 0 := by
  simp [cnt, List.range_succ, List.countP_append, List.countP_cons]
theorem cnt_le (p : Nat → Bool) (n : Nat) : cnt p n ≤ n := by
  have := List.countP_le_length (p := p) (l := List.range n); simpa [cnt] using this
def IsNth (p : Nat → Bool) (n x : Nat) : Prop := p x = true ∧ cnt p x = n
def MaskOf (p : Nat → Bool) (i m : Nat) : Prop := m < 2 ^ 64 ∧ ∀ b, b < 64 → m.testBit b = p (64 * i + b)
def Strip (x r m : Nat) : Prop := m ≤ x ∧ ∀ b, m.testBit b = (x.testBit b && decide (r ≤ cnt x.testBit b))
theorem count_front (q : Nat → Bool) (hm : ∀ a b, a ≤ b → q a = true → q b = true) : ∀ n, (∀ t, t < cnt (fun i => !q i) n → q t = false) ∧ (∀ t, cnt (fun i => !q i) n ≤ t → t < n → q t = true)
  | 0 => ⟨fun t h => by simp [cnt_zero] at h, fun t _ h => by omega⟩
  | n + 1 => by
    obtain ⟨h1, h2⟩ := count_front q hm n
    have hle := cnt_le (fun i => !q i) n
    rw [cnt_succ]
    by_cases hq : q n = true
    · simp only [hq, Bool.not_true, Bool.false_eq_true, if_false, Nat.add_zero]
      refine ⟨h1, fun t a b => ?_⟩
      rcases Nat.lt_or_eq_of_le (Nat.le_of_lt_succ b) with hb | hb
      · exact h2 t a hb
      · rw [hb]; exact hq
    · simp only [hq]
      have hall : cnt (fun i => !q i) n = n := by
        rcases Nat.lt_or_eq_of_le hle with hl | hl
        · exact absurd (hm _ _ (Nat.le_of_lt hl) (h2 _ (Nat.le_refl _) hl)) hq
        · exact hl
      rw [hall] at h1 ⊢
      simp only [Bool.not_false, if_true]
      refine ⟨fun t ht => ?_, fun t a b => by omega⟩
      rcases Nat.lt_or_eq_of_le (Nat.le_of_lt_succ ht) with hb | hb
      · exact h1 t hb
      · rw [hb]; simpa using hq
def bruijn (k : Nat) : Nat := (2 ^ k * 0x03f79d71b4ca8b09) % 2 ^ 64 / 2 ^ 58
def bruijnTab : List Nat := [0, 1, 56, 2, 57, 49, 28, 3, 61, 58, 42, 50, 38, 29, 17, 4, 62, 47, 59, 36, 45, 43, 51, 22, 53, 39, 33, 30, 24, 18, 12, 5, 63, 55, 48, 27, 60, 41, 37, 16, 46, 35, 44, 21, 52, 32, 23, 11, 54, 26, 40, 15, 34, 20, 31, 10, 25, 14, 19, 9, 13, 8, 7, 6]
open Go Go.RowKit
end Go.Kt.Bits
namespace Go.Kt
open Go Go.RowKit

structure StoB where
  w : World
  H : Nat
  gp : Nat
  js : Nat
  P : Nat → Value → World → Prop
  Fin : World → Prop
variable {F : StoB} {D : Nat → Bool} {X Y W : World} {i : Nat} {v u : Value}
def StoB.S (F : StoB) (D : Nat → Bool) (X : World) : Prop := D F.js = false → Below F.H F.w X
def StoB.p (F : StoB) (i : Nat) (v : Value) (W : World) : Prop := (i ≠ F.js → ∃ W', Below F.H F.w W' ∧ F.P i v W' ∧ Keep (fun b => b = F.gp) W' W) ∧ (i = F.js → F.Fin W)
structure StoB.Ok (F : StoB) : Prop where
  H : F.H = F.w.heap.size
  g : F.gp < F.H
  P : ∀ i v A B, Below A.heap.size A B → F.P i v A → F.P i v B
theorem StoB.get (h : F.p i v X) (hO : F.Ok) (hX : F.S D X) (hD : D F.js = false) (hi : i ≠ F.js) : F.P i v X := by
  obtain ⟨W', h1, h2, h3⟩ := h.1 hi
  have hb := hX hD
  refine hO.P i v W' X ⟨h3.os, h3.tape, h3.output, h3.size, fun x hx => ?_⟩ h2
  by_cases e : x = F.gp
  · subst e
    exact (hb.block F.gp hO.g).trans (h1.block F.gp hO.g).symm
  · exact h3.same x hx e
theorem StoB.go (hO : F.Ok) (hX : F.S D X) (hD : D F.js = false) (hi : i ≠ F.js) (hb : Below X.heap.size X Y) (hv : F.P i v Y) :
    F.S (fun j => D j || j == i) Y ∧ (∀ j u, D j = true → F.p j u X → F.p j u Y) ∧ F.p i v Y := by
  have h0 := hX hD
  have hs : F.H ≤ X.heap.size := by rw [hO.H]; exact h0.size
  have h1 : Below F.H F.w Y := h0.trans (hb.mono hs)
  refine ⟨fun _ => h1, fun j u hj h => ⟨fun hne => ?_, fun e => by rw [e, hD] at hj; cases hj⟩, fun _ => ⟨Y, h1, hv, Keep.refl _ _⟩, fun e => absurd e hi⟩
  obtain ⟨W', a1, a2, a3⟩ := h.1 hne
  exact ⟨W', a1, a2, a3.trans (Keep.of_all hb)⟩
theorem StoB.last (hD : D F.js = false) (hk : Keep (fun b => b = F.gp) X Y) (hv : F.Fin Y) :
    F.S (fun j => D j || j == F.js) Y ∧ (∀ j u, D j = true → F.p j u X → F.p j u Y) ∧ F.p F.js v Y := by
  refine ⟨fun e => by simp at e, fun j u hj h => ⟨fun hne => ?_, fun e => by rw [e, hD] at hj; cases hj⟩, fun h => absurd rfl h, fun _ => hv⟩
  obtain ⟨W', a1, a2, a3⟩ := h.1 hne
  exact ⟨W', a1, a2, a3.trans hk⟩

section
variable {P : Program} {ops : Array Oper} {Q : Exit → Act → World → Prop}
def reachB (ops : Array Oper) : Nat → Nat → Nat → Bool
  | 0, _, _ => false
  | n + 1, j, i => awaits .any ops j i || (List.range ops.size).any fun k => awaits .any ops j k && reachB ops n k i
def ClosedD (ops : Array Oper) (D : Nat → Bool) : Prop := ∀ j i, D j = true → awaits .any ops j i = true → D i = true
theorem ClosedD.reach (h : ClosedD ops D) : ∀ (n j i : Nat), reachB ops n j i = true → D j = true → D i = true
  | 0, _, _, hr, _ => by cases hr
  | n + 1, j, i, hr, hj => by
    unfold reachB at hr
    rw [Bool.or_eq_true] at hr
    rcases hr with hr | hr
    · exact h j i hj hr
    · obtain ⟨k, _, hk⟩ := List.any_eq_true.1 hr
      rw [Bool.and_eq_true] at hk
      exact ClosedD.reach h n k i hk.2 (h j k hj hk.1)
def BStep (P : Program) (ops : Array Oper) (Q : Exit → Act → World → Prop) (F : StoB) (a0 : Act) (i : Nat) (o : Oper) : Prop :=
  ∀ a X, Below F.H F.w X → Like ops a0 a → (∀ j k, j ≠ F.js → waitsB .any o j = true → slotB ops j k = true → F.P j (a.tmps.getD k undef) X) →
    Region.wanted o (yielded ops a.tmps) = true ∧ o.wp P a X (fun a' w' => ∃ v, a' = a.put o.dst v ∧ ((i ≠ F.js ∧ Below X.heap.size X w' ∧ F.P i v w') ∨ (i = F.js ∧ Keep (fun b => b = F.gp) X w' ∧ F.Fin w'))) Q
def BSteps (P : Program) (ops : Array Oper) (Q : Exit → Act → World → Prop) (F : StoB) (a0 : Act) : Nat → List Oper → Prop
  | _, [] => True
  | i, o :: r => BStep P ops Q F a0 i o ∧ BSteps P ops Q F a0 (i + 1) r
theorem BSteps.cons {F : StoB} {a0 : Act} {i : Nat} {o : Oper} {r : List Oper} (h : BStep P ops Q F a0 i o) (hr : BSteps P ops Q F a0 (i + 1) r) : BSteps P ops Q F a0 i (o :: r) := ⟨h, hr⟩
theorem BSteps.nil {F : StoB} {a0 : Act} {i : Nat} : BSteps P ops Q F a0 i [] := trivial
theorem BSteps.done {F : StoB} {a0 : Act} (hO : F.Ok) (hr : ∀ i, i < ops.size → i ≠ F.js → reachB ops ops.size F.js i = true) : ∀ (l : List Oper) (i : Nat), (∀ j o, l[j]? = some o → ops[i + j]? = some o) → BSteps P ops Q F a0 i l →
    DSteps P .any ops Q (fun D X => ClosedD ops D ∧ F.S D X) F.p a0 i l
  | [], _, _, _ => trivial
  | o :: r, i, hl, hs => by
    refine ⟨?_, BSteps.done hO hr r (i + 1) (fun j x hx => by rw [show i + 1 + j = i + (j + 1) by omega]; exact hl (j + 1) x (by simpa using hx)) hs.2⟩
    intro D a X hDi hDa hDw hS hL hd
    have hio : ops[i]? = some o := by have := hl 0 o rfl; simpa using this
    have hD : D F.js = false := by
      by_cases e : i = F.js
      · rw [← e]; exact hDi
      · cases h : D F.js with
        | false => rfl
        | true =>
          have := hS.1.reach _ _ _ (hr i (Array.getElem?_eq_some_iff.1 hio).1 e) h
          rw [hDi] at this; cases this
    obtain ⟨h1, h2⟩ := hs.1 a X (hS.2 hD) hL (fun j k hj hw hk => StoB.get (hd j k hw hk) hO hS.2 hD hj)
    refine ⟨h1, Oper.wp_mono ?_ h2⟩
    rintro a' w' ⟨v, e, hv⟩
    have hcl : ClosedD ops (fun j => D j || j == i) := fun j x hj hx => by
      rw [Bool.or_eq_true] at hj
      rcases hj with hj | hj
      · show (D x || x == i) = true
        rw [hS.1 j x hj hx]; rfl
      · have e2 : j = i := by simpa using hj
        subst e2
        unfold awaits at hx
        rw [hio] at hx
        show (D x || x == j) = true
        rw [hDw x hx]; rfl
    rcases hv with ⟨hi, hb, hv⟩ | ⟨hi, hk, hv⟩
    · obtain ⟨g1, g2, g3⟩ := StoB.go hO hS.2 hD hi hb hv
      exact ⟨v, e, ⟨hcl, g1⟩, g2, g3⟩
    · subst hi
      obtain ⟨g1, g2, g3⟩ := StoB.last (v := v) hD hk hv
      exact ⟨v, e, ⟨hcl, g1⟩, g2, g3⟩
theorem wp_region_stob {id : Nat} {a0 : Act} {w0 : World} (F : StoB) (hm : P.follows .mixedOrders = true) (hap : apartB ops a0.tmps.size = true) (hfw : forwardB .any ops = true)
    (hO : F.Ok) (hr : ((List.range ops.size).all fun i => i == F.js || reachB ops ops.size F.js i) = true) (hjs : F.js < ops.size) (h0 : Below F.H F.w w0.drew) (hs : BSteps P ops Q F a0 0 ops.toList)
    (hd : ∀ a w, Like ops a0 a → F.Fin w → Q .normal a w) : (Code.region id ops true).wp P Q a0 w0 := by
  refine wp_region_done (fun D X => ClosedD ops D ∧ F.S D X) F.p hm hap hfw ⟨fun _ _ h => (by cases h), fun _ => h0⟩
    (BSteps.done hO (fun i hi hne => by
      have := List.all_eq_true.1 hr i (List.mem_range.2 hi)
      rw [Bool.or_eq_true] at this
      rcases this with h | h
      · exact absurd (by simpa using h) hne
      · exact h) ops.toList 0 (fun j o h => by simpa using h) hs) (fun D a w hAll hS hL hP hE => ?_)
  obtain ⟨v, hv⟩ := hE F.js hjs
  exact hd a w hL (hv.2 rfl)
end
end Go.Kt
namespace Go.Proofs.YtcfhblbmpbfoaaaGreatDoor
open Go Go.RowKit Go.Kt Go.Kt.Sg Go.Shelf Go.Lib Go.Sort

def encPn (x : Pt) : List Value := [.int .i32 x.1, .int .i64 x.2]
theorem rowPn {w0 : World} {blk off : Nat} {d : Array Pt} (h : HoldsK encPn 2 w0 blk off d) (hb : blk < w0.heap.size) : RowK encPn 2 w0 blk off d :=
  ⟨fun _ => rfl, fun x v hv => by simp [encPn] at hv; rcases hv with rfl | rfl <;> rfl, h, hb⟩

set_option maxHeartbeats 4000000 in
set_option maxRecDepth 1000000 in
theorem nSwapR_k (k : Nat) (hk : k = 2) (blk off cap a b n : Nat) (d0 d : Array Pt) (w0 w : World) (fv : Value) (R : RowK encPn k w0 blk off d0) (hs : d.size = d0.size) (S : SWK encPn k w0 blk off d w) (hab : a + n ≤ b) (hb : b + n ≤ d.size) (hsz : d.size < 4611686018427387904) :
    Calls Tryz.prog 221 #[.slice (some ⟨blk, off, none⟩) d.size cap, .int .i64 a, .int .i64 b, .int .i64 n, fv] w fun e w' => e = .returned (.tuple #[]) ∧ ∃ d', SWK encPn k w0 blk off d' w' ∧ SwI a b n d d' := by
  have S0 := Lib.hid S
  have zE : ∀ w, (Go.sizeOf 78).run Tryz.prog w = .ok k w := fun w => by rw [hk]; exact Tryz.sizeOf78 w
  clear hk
  have HS := Lib.hid hs
  clear S hs
  go_enter Tryz.func221, Tryz.ntmps221
  go_wp2
  go_loopg [10] n (fun kx s wr => ∃ (i : Nat) (dk : Array Pt), s = .int .i64 i ∧ i ≤ n ∧ n - i ≤ kx ∧ Hid (SWK encPn k w0 blk off dk wr ∧ SwI a b i d dk))
  case atStart => exact ⟨0, d, rfl, Nat.zero_le _, Nat.le_refl _, Lib.hid ⟨S0.out, SwI.none a b d⟩⟩
  case round =>
    clear S0
    obtain ⟨i, dk, rfl, hin, hkx, S1⟩ := hrel
    by_cases hlt : i < n
    · have hltz : (i : Int) < (n : Int) := by omega
      have S2 : Hid (SWK encPn k w0 blk off (swp dk (a + i) (b + i)) ((wr.drew.setCells blk (off + (a + i) * k) (encPn dk[b + i]!)).setCells blk (off + (b + i) * k) (encPn dk[a + i]!)) ∧ SwI a b (i + 1) d (swp dk (a + i) (b + i))) :=
        have hds : dk.size = d.size := S1.out.2.size
        Lib.hid ⟨S1.out.1.swapped R (a + i) (b + i) (by omega) (by omega), S1.out.2.more (by omega) (by omega)⟩
      have l44a := have hds : dk.size = d.size := S1.out.2.size; have hs := HS.out; S1.out.1.ld1 R (by omega) Tryz.prog (a + i) (by omega)
      have l44b := have hds : dk.size = d.size := S1.out.2.size; have hs := HS.out; S1.out.1.ld1 R (by omega) Tryz.prog (b + i) (by omega)
      have s44a := have hds : dk.size = d.size := S1.out.2.size; have hs := HS.out; S1.out.1.st1 R (by omega) Tryz.prog (a + i) (by omega) dk[b + i]!
      have s44b := have hds : dk.size = d.size := S1.out.2.size; have hs := HS.out; S1.out.1.st2 R (by omega) Tryz.prog (a + i) (b + i) (by omega) (by omega) dk[b + i]! dk[a + i]!
      have n44a : (encPn dk[a + i]!).length = k := R.hk _
      have n44b : (encPn dk[b + i]!).length = k := R.hk _
      generalize encPn dk[a + i]! = cI44 at S2 l44a s44b n44a
      generalize encPn dk[b + i]! = cJ44 at S2 l44b s44a s44b n44b
      clear S1
      go_wp2_with fail
      have ea44 : ((a : Int) + (i : Int)).toNat = a + i := by omega
      have pa44 : (0 : Int) ≤ (a : Int) + (i : Int) := by omega
      have ba44 : (a : Int) + (i : Int) < (d.size : Int) := by omega
      have ra44 : IntKind.i64.wrap ((a : Int) + (i : Int)) = (a : Int) + (i : Int) := by rw [IntKind.wrap_i64]; omega
      have ec44 : ((b : Int) + (i : Int)).toNat = b + i := by omega
      have pc44 : (0 : Int) ≤ (b : Int) + (i : Int) := by omega
      have bc44 : (b : Int) + (i : Int) < (d.size : Int) := by omega
      have rc44 : IntKind.i64.wrap ((b : Int) + (i : Int)) = (b : Int) + (i : Int) := by rw [IntKind.wrap_i64]; omega
      go_region
      clear l44a l44b s44a s44b
      generalize (wr.drew.setCells blk (off + (a + i) * k) cJ44).setCells blk (off + (b + i) * k) cI44 = w2 at S2 ⊢
      go_wp2
      go_roundg (n - (i + 1))
      case measure => omega
      case rel => exact ⟨i + 1, _, by simp, by omega, Nat.le_refl _, S2⟩
    · obtain rfl : i = n := by omega
      go_wp2
      go_end0
      exact ⟨rfl, dk, S1.out.1, S1.out.2⟩
theorem nSwapR (blk off cap a b n : Nat) (d0 d : Array Pt) (w0 w : World) (fv : Value) (R : RowK encPn 2 w0 blk off d0) (hs : d.size = d0.size) (S : SWK encPn 2 w0 blk off d w) (hab : a + n ≤ b) (hb : b + n ≤ d.size) (hsz : d.size < 4611686018427387904) :
    Calls Tryz.prog 221 #[.slice (some ⟨blk, off, none⟩) d.size cap, .int .i64 a, .int .i64 b, .int .i64 n, fv] w fun e w' => e = .returned (.tuple #[]) ∧ ∃ d', SWK encPn 2 w0 blk off d' w' ∧ SwI a b n d d' :=
  nSwapR_k 2 rfl blk off cap a b n d0 d w0 w fv R hs S hab hb hsz
end Go.Proofs.YtcfhblbmpbfoaaaGreatDoor
namespace Go.Kt.Sg
open Go.Sort
variable {α : Type} [Inhabited α] {ky : α → Int}
omit [Inhabited α] in
theorem turned_parts {s m e : Nat} {d d1 : List α} (hsm : s ≤ m) (hme : m ≤ e) (hb : e ≤ d.length) (h1 : d1 = d.take s ++ (seg d m e ++ seg d s m) ++ d.drop e) :
    (∀ a, seg d1 a s = seg d a s) ∧ seg d1 s (s + (e - m)) = seg d m e ∧ seg d1 (s + (e - m)) e = seg d s m ∧ ∀ b, seg d1 e b = seg d e b := by
  have ls : (d.take s).length = s := by simp; omega
  have lB := seg_len d m e (by omega)
  have lA := seg_len d s m (by omega)
  have t1 : d1.take s = d.take s := by rw [h1, List.append_assoc, List.take_append_of_le_length (by omega), List.take_of_length_le (by omega)]
  have l9 : (d.take s ++ (seg d m e ++ seg d s m)).length = e := by rw [List.length_append, List.length_append, ls, lB, lA]; omega
  have t2 : d1.drop e = d.drop e := by rw [h1, List.drop_append_of_le_length (by omega), List.drop_of_length_le (by omega)]; simp
  have q2 : seg d1 s e = seg d m e ++ seg d s m := by
    show (d1.take e).drop s = _
    rw [h1, List.take_append_of_le_length (by omega), List.take_of_length_le (by omega), List.drop_append_of_le_length (by omega), List.drop_of_length_le (by omega), List.nil_append]
  have q := seg_add d1 (a := s) (m := s + (e - m)) (b := e) (by omega) (by omega)
  have hlen : d1.length = d.length := by rw [h1, List.length_append, l9, List.length_drop]; omega
  have lB1 := seg_len d1 s (s + (e - m)) (by omega)
  rw [q2] at q
  have q' := List.append_inj q (by omega)
  refine ⟨fun a => ?_, q'.1.symm, q'.2.symm, fun b => ?_⟩
  · unfold seg; rw [t1]
  · unfold seg; rw [List.drop_take, List.drop_take, t2]
structure Cut (ky : α → Int) (d : Array α) (a m b s e : Nat) : Prop where
  lt : ∀ x y, s ≤ x → x < m → m ≤ y → y < e → ky d[y]! < ky d[x]!
  le : ∀ x y, a ≤ x → x < s → e ≤ y → y < b → ky d[x]! ≤ ky d[y]!
theorem Cut.of {d : Array α} {a m b lo hi s p : Nat} (hmb : m ≤ b) (hb : b ≤ d.size) (hA : Rise ky (seg d.toList a m)) (hB : Rise ky (seg d.toList m b))
    (h0 : a ≤ lo) (h1 : lo ≤ s) (h2 : s ≤ hi) (h3 : hi ≤ m) (h4 : p + 1 ≤ lo + b) (h5 : hi + m ≤ p + 1)
    (e1 : lo = a ∨ p + 1 = lo + b) (e2 : hi = m ∨ p + 1 = hi + m)
    (hle : lo < s → ky d[s - 1]! ≤ ky d[p - (s - 1)]!) (hlt : s < hi → ky d[p - s]! < ky d[s]!) : Cut ky d a m b s (p + 1 - s) := by
  constructor
  · intro x y hx hxm hy hye
    rcases Nat.lt_or_ge s hi with k | k
    · have k1 := hlt k
      have k2 := of_rise (by omega) hA (i := s) (j := x) (by omega) hx hxm
      have k3 := of_rise hb hB (i := y) (j := p - s) hy (by omega) (by omega)
      omega
    · have : s = hi := by omega
      subst this
      rcases e2 with e2 | e2 <;> omega
  · intro x y hx hxs hy hyb
    rcases Nat.lt_or_ge lo s with k | k
    · have k1 := hle k
      have k2 := of_rise (by omega) hA (i := x) (j := s - 1) hx (by omega) (by omega)
      have k3 := of_rise hb hB (i := p - (s - 1)) (j := y) (by omega) (by omega) hyb
      omega
    · have : s = lo := by omega
      subst this
      rcases e1 with e1 | e1 <;> omega
structure Turned (ky : α → Int) (d d1 : Array α) (a s m e b : Nat) : Prop where
  size : d1.size = d.size
  row : d1.toList = d.toList.take s ++ (seg d.toList m e ++ seg d.toList s m) ++ d.toList.drop e
  r1 : Rise ky (seg d1.toList a s)
  r2 : Rise ky (seg d1.toList s (s + (e - m)))
  r3 : Rise ky (seg d1.toList (s + (e - m)) e)
  r4 : Rise ky (seg d1.toList e b)
omit [Inhabited α] in
theorem Rise.seg {d : List α} {a b i j : Nat} (h : Rise ky (Sg.seg d a b)) (hi : a ≤ i) (hij : i ≤ j) (hj : j ≤ b) : Rise ky (Sg.seg d i j) := by
  rw [seg_add d (a := a) (m := i) (b := b) hi (by omega)] at h
  have h2 := (List.pairwise_append.1 h).2.1
  rw [seg_add d hij hj] at h2
  exact (List.pairwise_append.1 h2).1
theorem Turned.of {d d1 : Array α} {a s m e b : Nat} (has : a ≤ s) (hsm : s ≤ m) (hme : m ≤ e) (heb : e ≤ b) (hb : b ≤ d.size) (hA : Rise ky (seg d.toList a m)) (hB : Rise ky (seg d.toList m b))
    (h : (d1 = d ∧ (s = m ∨ e = m)) ∨ RotI s m e d d1) : Turned ky d d1 a s m e b := by
  have hl : d.toList.length = d.size := by simp
  have hr : d1.size = d.size ∧ d1.toList = d.toList.take s ++ (seg d.toList m e ++ seg d.toList s m) ++ d.toList.drop e := by
    rcases h with ⟨rfl, h⟩ | h
    · refine ⟨rfl, ?_⟩
      have hz : ∀ k, seg d1.toList k k = [] := fun k => by unfold seg; exact List.drop_of_length_le (by simp; omega)
      rcases h with rfl | rfl
      · rw [hz, List.append_nil]; exact seg_split _ hme
      · rw [hz, List.nil_append]; exact seg_split _ hsm
    · exact ⟨h.size, h.list hsm hme (by omega)⟩
  obtain ⟨p1, p2, p3, p4⟩ := turned_parts hsm hme (by omega) hr.2
  exact ⟨hr.1, hr.2, by rw [p1]; exact hA.seg (Nat.le_refl _) has hsm, by rw [p2]; exact hB.seg (Nat.le_refl _) hme heb, by rw [p3]; exact hA.seg has hsm (Nat.le_refl _), by rw [p4]; exact hB.seg hme heb (Nat.le_refl _)⟩
theorem Turned.done {d d1 d2 d3 : Array α} {a s m e b : Nat} (has : a ≤ s) (hsm : s ≤ m) (hme : m ≤ e) (heb : e ≤ b) (hb : b ≤ d.size) (hA : Rise ky (seg d.toList a m)) (hB : Rise ky (seg d.toList m b)) (c : Cut ky d a m b s e) (t : Turned ky d d1 a s m e b)
    (h2 : Mix ky a (s + (e - m)) d1.toList d2.toList ∧ Rise ky (seg d2.toList a (s + (e - m)))) (h3 : Mix ky (s + (e - m)) b d2.toList d3.toList ∧ Rise ky (seg d3.toList (s + (e - m)) b)) :
    Mix ky a b d.toList d3.toList ∧ Rise ky (seg d3.toList a b) := by
  refine merged has hsm hme heb (by simpa using hb) hA hB ?_ ?_ t.row h2.1 h2.2 h3.1 h3.2
  · intro x hx y hy
    obtain ⟨i, i1, i2, rfl⟩ := seg_mem (by omega) hx
    obtain ⟨j, j1, j2, rfl⟩ := seg_mem (by omega) hy
    exact c.lt i j i1 i2 j1 j2
  · intro x hx y hy
    obtain ⟨i, i1, i2, rfl⟩ := seg_mem (by omega) hx
    obtain ⟨j, j1, j2, rfl⟩ := seg_mem (by omega) hy
    exact c.le i j i1 i2 j1 j2
omit [Inhabited α] in
theorem Turned.left {d d1 : Array α} {a s m e b : Nat} (t : Turned ky d d1 a s m e b) (h : a = s ∨ s = s + (e - m)) : Mix ky a (s + (e - m)) d1.toList d1.toList ∧ Rise ky (seg d1.toList a (s + (e - m))) := by
  refine ⟨Mix.refl _ _ _, ?_⟩
  rcases h with rfl | h
  · exact t.r2
  · rw [← h]; exact t.r1
omit [Inhabited α] in
theorem Turned.right {d d1 d2 : Array α} {a s m e b : Nat} (t : Turned ky d d1 a s m e b) (h2 : Mix ky a (s + (e - m)) d1.toList d2.toList) (hme : s + (e - m) ≤ e) : Rise ky (seg d2.toList (s + (e - m)) e) ∧ Rise ky (seg d2.toList e b) := by
  rw [h2.other (.inr (Nat.le_refl _)), h2.other (.inr hme)]
  exact ⟨t.r3, t.r4⟩

theorem in_right {d : Array α} {a b i : Nat} (hai : a < i) (hib : i ≤ b) (hb : b ≤ d.size) (hB : Rise ky (seg d.toList (a + 1) b)) (hlt : ∀ t, a < t → t < i → ky d[t]! < ky d[a]!) (hge : ∀ t, i ≤ t → t < b → ky d[a]! ≤ ky d[t]!) {e : Array α}
    (he : RotI a (a + 1) i d e) : Mix ky a b d.toList e.toList ∧ Rise ky (seg e.toList a b) := by
  have hl : d.toList.length = d.size := by simp
  have hrow := he.list (by omega) (by omega) (by omega)
  refine ⟨?_, ?_⟩
  · rw [hrow]
    refine (Mix.of (a := a) (b := i) (by omega) (by omega) (by rw [List.length_append, seg_len _ _ _ (by omega), seg_len _ _ _ (by omega)]; omega) ?_).wide (Nat.le_refl _) hib
    rw [seg_add d.toList (a := a) (m := a + 1) (b := i) (by omega) (by omega)]
    refine Flt.turn fun x hx y hy => ?_
    obtain ⟨p, p1, p2, rfl⟩ := seg_mem (by omega) hx
    obtain ⟨q, q1, q2, rfl⟩ := seg_mem (by omega) hy
    obtain rfl : p = a := by omega
    exact hlt q (by omega) q2
  · refine rise_of (by rw [he.size]; exact hb) fun p q hp hpq hq => ?_
    rw [he.get, he.get]
    have hm : ∀ x y, a + 1 ≤ x → x ≤ y → y < b → ky d[x]! ≤ ky d[y]! := fun x y h1 h2 h3 => of_rise hb hB h1 h2 h3
    repeat' split
    all_goals first
      | (exfalso; omega)
      | exact hm _ _ (by omega) (by omega) (by omega)
      | (rw [show p - (i - (a + 1)) = a by omega]; exact hge _ (by omega) (by omega))
      | (rw [show q - (i - (a + 1)) = a by omega]; exact Int.le_of_lt (hlt _ (by omega) (by omega)))
theorem in_left {d : Array α} {a m i : Nat} (hai : a ≤ i) (him : i ≤ m) (hb : m < d.size) (hA : Rise ky (seg d.toList a m)) (hgt : ∀ t, i ≤ t → t < m → ky d[m]! < ky d[t]!) (hle : ∀ t, a ≤ t → t < i → ky d[t]! ≤ ky d[m]!) {e : Array α}
    (he : RotI i m (m + 1) d e) : Mix ky a (m + 1) d.toList e.toList ∧ Rise ky (seg e.toList a (m + 1)) := by
  have hl : d.toList.length = d.size := by simp
  have hrow := he.list him (by omega) (by omega)
  refine ⟨?_, ?_⟩
  · rw [hrow]
    refine (Mix.of (a := i) (b := m + 1) (by omega) (by omega) (by rw [List.length_append, seg_len _ _ _ (by omega), seg_len _ _ _ (by omega)]; omega) ?_).wide hai (Nat.le_refl _)
    rw [seg_add d.toList (a := i) (m := m) (b := m + 1) (by omega) (by omega)]
    refine Flt.turn fun x hx y hy => ?_
    obtain ⟨p, p1, p2, rfl⟩ := seg_mem (by omega) hx
    obtain ⟨q, q1, q2, rfl⟩ := seg_mem (by omega) hy
    obtain rfl : q = m := by omega
    exact hgt p p1 p2
  · refine rise_of (by rw [he.size]; omega) fun p q hp hpq hq => ?_
    rw [he.get, he.get]
    have hm : ∀ x y, a ≤ x → x ≤ y → y < m → ky d[x]! ≤ ky d[y]! := fun x y h1 h2 h3 => of_rise (by omega) hA h1 h2 h3
    repeat' split
    all_goals first
      | (exfalso; omega)
      | exact hm _ _ (by omega) (by omega) (by omega)
      | (rw [show p + (m - i) = m by omega]; exact Int.le_of_lt (hgt _ (by omega) (by omega)))
      | (rw [show q + (m - i) = m by omega]; exact hle _ (by omega) (by omega))
theorem RotI.step {d e : Array α} {a k : Nat} (h : RotI a (a + 1) (k + 1) d e) (hk : a ≤ k) (hb : k + 1 < d.size) : RotI a (a + 1) (k + 2) d (swp e k (k + 1)) := by
  have hs := h.size
  refine ⟨by rw [size_swp, hs], fun t => ?_⟩
  rw [swp_at _ (by omega) (by omega), h.get, h.get, h.get]
  repeat' split
  all_goals first | (exfalso; omega) | (congr 1 <;> omega)
theorem RotI.back {d e : Array α} {m k : Nat} (h : RotI (k + 1) m (m + 1) d e) (hk : k + 1 ≤ m) (hb : m < d.size) : RotI k m (m + 1) d (swp e (k + 1) k) := by
  have hs := h.size
  refine ⟨by rw [size_swp, hs], fun t => ?_⟩
  rw [swp_at _ (by omega) (by omega), h.get, h.get, h.get]
  repeat' split
  all_goals first | (exfalso; omega) | (congr 1 <;> omega)
omit [Inhabited α] in
theorem RotI.self [Inhabited α] (d : Array α) (a m b : Nat) (h : b = m ∨ a = m) (hb : a ≤ m) (hm : m ≤ b) : RotI a m b d d := by
  refine ⟨rfl, fun t => ?_⟩
  repeat' split
  all_goals first | (exfalso; omega) | (congr 1 <;> omega) | rfl
end Go.Kt.Sg
namespace Go.Kt.Sg
open Go.Sort
variable {α : Type} [Inhabited α] {ky : α → Int}
theorem insInner_mix {lt : α → α → Bool} (hlt : ∀ x y, lt x y = decide (ky x < ky y)) (a b : Nat) : ∀ (j : Nat) (d : Array α), j < b → b ≤ d.size → Mix ky a b d.toList (insInner lt a j d).toList
  | 0, d, _, _ => Mix.refl _ _ _
  | j + 1, d, hj, hb => by
    rw [insInner]
    split
    · rename_i h
      simp only [Bool.and_eq_true, decide_eq_true_eq, hlt] at h
      have h1 := (swp_mix (ky := ky) (d := d) (j := j) (a := a) (b := b) (by omega) (by omega) hb h.2).1
      exact h1.trans (insInner_mix hlt a b j _ (by omega) (by rw [size_swp]; exact hb))
    · exact Mix.refl _ _ _
theorem insOuter_mix {lt : α → α → Bool} (hlt : ∀ x y, lt x y = decide (ky x < ky y)) (a b : Nat) : ∀ (k i : Nat) (d : Array α), b - i ≤ k → b ≤ d.size → Mix ky a b d.toList (insOuter lt a b i d).toList
  | 0, i, d, hk, hb => by rw [insOuter, if_neg (by omega)]; exact Mix.refl _ _ _
  | k + 1, i, d, hk, hb => by
    rw [insOuter]
    split
    · have h1 := insInner_mix hlt a b i d (by omega) hb
      exact h1.trans (insOuter_mix hlt a b k _ _ (by omega) (by rw [h1.size]; exact hb))
    · exact Mix.refl _ _ _
omit [Inhabited α] in
theorem swoK {lt : α → α → Bool} (hlt : ∀ x y, lt x y = decide (ky x < ky y)) : SWO lt where
  irrefl x := by rw [hlt]; simp
  trans x y z h1 h2 := by rw [hlt] at h1 h2 ⊢; simp at h1 h2 ⊢; omega
  ntrans x y z h1 h2 := by rw [hlt] at h1 h2 ⊢; simp at h1 h2 ⊢; omega
theorem insertion_mix {lt : α → α → Bool} (hlt : ∀ x y, lt x y = decide (ky x < ky y)) (d : Array α) (a b : Nat) (hab : a ≤ b) (hb : b ≤ d.size) :
    Mix ky a b d.toList (insertionSort lt d a b).toList ∧ Rise ky (seg (insertionSort lt d a b).toList a b) := by
  have h1 : Mix ky a b d.toList (insertionSort lt d a b).toList := insOuter_mix hlt a b _ _ d (Nat.le_refl _) hb
  refine ⟨h1, rise_of (by rw [h1.size]; exact hb) fun i j hi hij hj => ?_⟩
  have h2 := (insertionSort_holds (lt := lt) (swoK hlt) d a b hab hb).2 i j hi hij hj
  rw [hlt] at h2
  simp at h2
  omega

def Chop (ky : α → Int) (z : Nat) (d : List α) (a n : Nat) : Prop := ∀ k, Rise ky (seg d (min (a + k * z) n) (min (a + (k + 1) * z) n))
omit [Inhabited α] in
theorem Chop.first {z : Nat} {d : List α} {a n : Nat} (h : Chop ky z d a n) (ha : a ≤ n) : Rise ky (seg d a (min (a + z) n)) := by
  have := h 0
  rwa [Nat.zero_mul, Nat.add_zero, Nat.zero_add, Nat.one_mul, Nat.min_eq_left ha] at this
omit [Inhabited α] in
theorem Chop.rest {z : Nat} {d : List α} {a n : Nat} (h : Chop ky z d a n) : Chop ky z d (a + z) n := fun k => by
  have := h (k + 1)
  rwa [show a + (k + 1) * z = a + z + k * z by rw [Nat.succ_mul]; omega, show a + (k + 1 + 1) * z = a + z + (k + 1) * z by rw [Nat.succ_mul (k + 1)]; omega] at this
omit [Inhabited α] in
theorem Chop.keep {z : Nat} {d e : List α} {a n i j : Nat} (h : Chop ky z d a n) (m : Mix ky i j d e) (k : j ≤ a ∨ n ≤ i) : Chop ky z e a n := fun q => by
  by_cases h9 : a ≤ n
  · rw [m.other (by rcases k with k | k; exact .inr (by omega); exact .inl (by omega))]; exact h q
  · rw [show min (a + q * z) n = n by omega, show min (a + (q + 1) * z) n = n by omega]
    have : seg e n n = [] := by unfold seg; exact List.drop_of_length_le (by simp; omega)
    rw [this]; exact List.Pairwise.nil
omit [Inhabited α] in
theorem seg_nil (d : List α) (a : Nat) : seg d a a = [] := by unfold seg; exact List.drop_of_length_le (by simp; omega)
omit [Inhabited α] in
theorem Chop.more {z : Nat} {d : List α} {q n : Nat} (h : Chop ky z d 0 (q * z)) (hn : q * z ≤ n) (hz : n ≤ (q + 1) * z) (r : Rise ky (seg d (q * z) n)) : Chop ky z d 0 n := fun k => by
  rw [Nat.zero_add, Nat.zero_add]
  rcases Nat.lt_trichotomy k q with hk | rfl | hk
  · have h1 : (k + 1) * z ≤ q * z := Nat.mul_le_mul_right _ hk
    have := h k
    rw [Nat.zero_add, Nat.zero_add] at this
    have h2 : k * z ≤ (k + 1) * z := Nat.mul_le_mul_right _ (Nat.le_succ k)
    rwa [show min (k * z) n = min (k * z) (q * z) by omega, show min ((k + 1) * z) n = min ((k + 1) * z) (q * z) by omega]
  · rwa [Nat.min_eq_left hn, Nat.min_eq_right hz]
  · have h1 : (q + 1) * z ≤ k * z := Nat.mul_le_mul_right _ hk
    have h2 : k * z ≤ (k + 1) * z := Nat.mul_le_mul_right _ (Nat.le_succ k)
    rw [show min (k * z) n = n by omega, show min ((k + 1) * z) n = n by omega, seg_nil]
    exact List.Pairwise.nil
omit [Inhabited α] in
theorem Chop.none {z : Nat} (d : List α) : Chop ky z d 0 0 := fun k => by
  rw [show min (0 + k * z) 0 = 0 by omega, show min (0 + (k + 1) * z) 0 = 0 by omega, seg_nil]; exact List.Pairwise.nil
omit [Inhabited α] in
theorem Chop.whole {z : Nat} {d : List α} {n : Nat} (h : Chop ky z d 0 n) (hz : n ≤ z) : Rise ky (seg d 0 n) := by
  have := h.first (Nat.zero_le _)
  rwa [Nat.zero_add, Nat.min_eq_right hz] at this
end Go.Kt.Sg
namespace Go.Proofs.YtcfhblbmpbfoaaaGreatDoor
open Go Go.RowKit Go.Kt Go.Kt.Sg Go.Shelf Go.Lib Go.Sort

set_option maxHeartbeats 4000000 in
set_option maxRecDepth 1000000 in
theorem nRot (blk off cap a m b : Nat) (d0 d : Array Pt) (w0 w : World) (fv : Value) (R : RowK encPn 2 w0 blk off d0) (hs : d.size = d0.size) (S : SWK encPn 2 w0 blk off d w) (ham : a < m) (hmb : m < b) (hb : b ≤ d.size) (hsz : d.size < 4611686018427387904) :
    Calls Tryz.prog 205 #[.slice (some ⟨blk, off, none⟩) d.size cap, .int .i64 a, .int .i64 m, .int .i64 b, fv] w fun e w' => e = .returned (.tuple #[]) ∧ ∃ d', SWK encPn 2 w0 blk off d' w' ∧ RotI a m b d d' := by
  have S0 := Lib.hid S
  have HS := Lib.hid hs
  have CS : Hid (∀ (dk : Array Pt) (W : World) (x y n : Nat) (xz yz nz : Int), dk.size = d.size → SWK encPn 2 w0 blk off dk W → xz = (x : Int) → yz = (y : Int) → nz = (n : Int) → x + n ≤ y → y + n ≤ d.size →
      Calls Tryz.prog 221 #[.slice (some ⟨blk, off, none⟩) d.size cap, .int .i64 xz, .int .i64 yz, .int .i64 nz, fv] W fun e w' => e = .returned (.tuple #[]) ∧ ∃ d', SWK encPn 2 w0 blk off d' w' ∧ SwI x y n dk d') :=
    Lib.hid fun dk W x y n xz yz nz h1 h2 e1 e2 e3 h3 h4 => by
      subst e1 e2 e3
      have := nSwapR blk off cap x y n d0 dk w0 W fv R (h1.trans hs) h2 h3 (by omega) (by omega)
      rwa [h1] at this
  clear S hs
  go_enter Tryz.func205, Tryz.ntmps205
  go_wp2
  go_loopg [10, 11] (b - a) (fun kx s t wr => ∃ (i j : Nat) (dk : Array Pt), s = .int .i64 i ∧ t = .int .i64 j ∧ 0 < i ∧ 0 < j ∧ i ≤ m ∧ m + j ≤ d.size ∧ i + j ≤ kx ∧ Hid (SWK encPn 2 w0 blk off dk wr ∧ dk.size = d.size ∧ ∀ e, RotI (m - i) m (m + j) dk e → RotI a m b d e))
  case atStart => exact ⟨m - a, b - m, d, by go_num, by go_num, by omega, by omega, by omega, by omega, by omega, Lib.hid ⟨S0.out, rfl, fun e h => by rwa [show m - (m - a) = a by omega, show m + (b - m) = b by omega] at h⟩⟩
  case round =>
    clear S0
    obtain ⟨i, j, dk, rfl, rfl, hi, hj, him, hjm, hkx, S1⟩ := hrel
    rcases Nat.lt_trichotomy i j with hlt | heq | hlt
    · have hz : ¬ (i : Int) = (j : Int) := by omega
      have hz2 : ¬ (j : Int) < (i : Int) := by omega
      go_wp2_with (go_at_call 221; refine (CS.out dk _ (m - i) (m + j - i) i _ _ _ S1.out.2.1 S1.out.1 (by omega) (by omega) rfl (by omega) (by omega)).mono ?_; rintro e w' ⟨rfl, d1, hd1, hd2⟩)
      go_roundg (i + (j - i))
      case measure => omega
      case rel => exact ⟨i, j - i, d1, rfl, by go_num, hi, by omega, him, by omega, Nat.le_refl _, Lib.hid ⟨hd1, hd2.size.trans S1.out.2.1, fun e h => S1.out.2.2 e (RotI.right him hlt hd2 h)⟩⟩
    · subst heq
      go_wp2_with (go_at_call 221; refine (CS.out dk _ (m - i) m i _ _ _ S1.out.2.1 S1.out.1 (by omega) rfl rfl (by omega) (by omega)).mono ?_; rintro e w' ⟨rfl, d1, hd1, hd2⟩)
      go_end0
      exact ⟨rfl, d1, hd1, S1.out.2.2 d1 (RotI.same him hd2)⟩
    · have hz : ¬ (i : Int) = (j : Int) := by omega
      have hz2 : (j : Int) < (i : Int) := by omega
      go_wp2_with (go_at_call 221; refine (CS.out dk _ (m - i) m j _ _ _ S1.out.2.1 S1.out.1 (by omega) rfl rfl (by omega) (by omega)).mono ?_; rintro e w' ⟨rfl, d1, hd1, hd2⟩)
      go_roundg (i - j + j)
      case measure => omega
      case rel => exact ⟨i - j, j, d1, by go_num, rfl, by omega, hj, by omega, hjm, Nat.le_refl _, Lib.hid ⟨hd1, hd2.size.trans S1.out.2.1, fun e h => S1.out.2.2 e (RotI.left him hlt hd2 h)⟩⟩
end Go.Proofs.YtcfhblbmpbfoaaaGreatDoor
namespace Go.Proofs
open Go.Shelf
def Tryz.laysCmpN_ren : Go.Shelf.Ren := ⟨fun | 5 => 158 | 7 => 180 | n => n, fun | 22 => 3 | 3 => 3 | 4 => 4 | n => n, fun | n => n⟩
theorem Tryz.laysCmpN : Go.Proofs.SlLaysC2.n5 Tryz.prog Tryz.laysCmpN_ren := {
  mixed := by kernel_rfl
  f5 := ⟨Tryz.f158.name, by decide, Tryz.func158.trans (congrArg some (by kernel_rfl))⟩
  f7 := ⟨Tryz.f180.name, by decide, Tryz.func180.trans (congrArg some (by kernel_rfl))⟩
  t3 := Tryz.underlying3
  a3 := Tryz.isAgg3
  z3 := Tryz.sizeOf3
  v3 := Tryz.zeroValue3
  t4 := Tryz.underlying4
  a4 := Tryz.isAgg4
  z4 := Tryz.sizeOf4
  v4 := Tryz.zeroValue4
  t22 := Tryz.underlying3
  a22 := Tryz.isAgg3
  z22 := Tryz.sizeOf3
  v22 := Tryz.zeroValue3 }
def Tryz.laysIns_ren : Go.Shelf.Ren := ⟨fun | 20 => 178 | n => n, fun | 22 => 61 | 24 => 78 | 25 => 175 | 3 => 3 | 0 => 0 | 4 => 4 | n => n, fun | n => n⟩
theorem Tryz.laysIns : Go.Proofs.SlLaysF0.n20 Tryz.prog Tryz.laysIns_ren := {
  mixed := by kernel_rfl
  f20 := ⟨Tryz.f178.name, by decide, Tryz.func178.trans (congrArg some (by kernel_rfl))⟩
  t0 := Tryz.underlying0
  a0 := Tryz.isAgg0
  z0 := Tryz.sizeOf0
  v0 := Tryz.zeroValue0
  t3 := Tryz.underlying3
  a3 := Tryz.isAgg3
  z3 := Tryz.sizeOf3
  v3 := Tryz.zeroValue3
  t4 := Tryz.underlying4
  a4 := Tryz.isAgg4
  z4 := Tryz.sizeOf4
  v4 := Tryz.zeroValue4
  t22 := Tryz.underlying61
  a22 := Tryz.isAgg61
  z22 := Tryz.sizeOf61
  v22 := Tryz.zeroValue61
  t25 := Tryz.underlying175
  a25 := Tryz.isAgg175
  z25 := Tryz.sizeOf175
  v25 := Tryz.zeroValue175 }
end Go.Proofs
namespace Go.Proofs.YtcfhblbmpbfoaaaGreatDoor
open Go Go.RowKit Go.Kt Go.Kt.Sg Go.Shelf Go.Lib Go.Sort

abbrev cmpN (x y : Pt) : Int := Lib.compareInt x.2 y.2
theorem ltN (x y : Pt) : ltOf cmpN x y = decide (ky2 x < ky2 y) := by
  unfold ltOf cmpN Lib.compareInt ky2
  split
  · rename_i h; simp [h]
  · rename_i h; split <;> simp <;> omega
set_option maxHeartbeats 1000000 in
theorem nCls (x y : Pt) (W : World) : Calls Tryz.prog 122 #[.agg #[.int .i32 x.1, .int .i64 x.2], .agg #[.int .i32 y.1, .int .i64 y.2]] W fun e w' => e = .returned (.int .i64 (cmpN x y)) ∧ ∃ q os', w' = grow (W.drewN q) os' := by
  have hcon := fun W' => AnyG.cmp_Compare_int Tryz.laysCmpN x.2 y.2 W'
  unfold cmpN
  generalize Lib.compareInt x.2 y.2 = r at hcon ⊢
  go_enter Tryz.func122, Tryz.ntmps122
  go_wp2_with (go_at_call 158; refine (hcon _).mono ?_; rintro e w' ⟨rfl, rfl⟩)
  go_ret
  exact ⟨rfl, 0, _, by rw [alloc_eq_grow, alloc_eq_grow, grow_grow]; rfl⟩
abbrev clsFn : Value := .func (.func 122) #[] #[]
theorem enters_cls : ∀ args w, (callFunc 122 args).run Tryz.prog w = .ok (.enter 122 args) w := enters_of Tryz.func122 (by kernel_rfl) rfl
theorem nIns (blk off cap a b : Nat) (d0 d : Array Pt) (w0 w : World) (R : RowK encPn 2 w0 blk off d0) (hs : d.size = d0.size) (S : SWK encPn 2 w0 blk off d w) (hab : a ≤ b) (hb : b ≤ d.size) (hsz : d.size < 4611686018427387904) :
    Calls Tryz.prog 178 #[.slice (some ⟨blk, off, none⟩) d.size cap, .int .i64 a, .int .i64 b, clsFn] w fun e w' => e = .returned (.tuple #[]) ∧
      ∃ d', SWK encPn 2 w0 blk off d' w' ∧ Mix ky2 a b d.toList d'.toList ∧ Rise ky2 (seg d'.toList a b) := by
  have h := AnyQ.insertionSortCmpFunc Tryz.laysIns 2 Tryz.isAgg78 Tryz.sizeOf78 encPn (fun _ => rfl) (fun x v hv => by simp [encPn] at hv; rcases hv with rfl | rfl <;> rfl) cmpN 122 #[] blk off cap a b d w
    enters_cls (fun _ _ _ _ x y => nCls x y _) (S.holds R.hblk R.hH hs) (S.lt R.hblk) hab hb hsz
  refine Calls.mono h ?_
  rintro e w' ⟨rfl, n, os, rfl⟩
  have hm := insertion_mix (ky := ky2) (lt := ltOf cmpN) ltN d a b hab hb
  exact ⟨rfl, _, S.on R.hblk n _ os hm.1.size, hm⟩
end Go.Proofs.YtcfhblbmpbfoaaaGreatDoor
