/- Parts of the proof of what the last text says. -/
import Derived.Test.YthhepebkfokddaaGreatDoorGy21
import Derived.Test.YthhepebkfokddaaGreatDoorGy17
import Derived.Test.YthhepebkfokddaaGreatDoorGy15
import Derived.Test.YthhepebkfokddaaGreatDoorGy20
import Derived.Test.YthhepebkfokddaaGreatDoorGy14
import Derived.Test.YthhepebkfokddaaGreatDoorGy5
import Derived.Test.YthhepebkfokddaaGreatDoorGy10
/- The document's answer for props: character, point, ends. -/
namespace Go.Proofs.YthhepebkfokddaaGreatDoor
open Go Go.RowKit Go.Kt Go.Kt.Rg Go.Maps

theorem dig16 (b : UInt8) : digB 16 b = match digV b.toNat with
    | some d => if 16 ≤ d then none else some d
    | none => none := by
  unfold digB
  cases digV b.toNat with
  | none => rfl
  | some d =>
    simp only
    by_cases h : d < 16
    · rw [if_pos h, if_neg (by omega)]
    · rw [if_neg h, if_pos (by omega)]
theorem numF_pu : ∀ (l : List UInt8) (k n : Nat), k + l.length ≤ 6 → n < 16 ^ k → numF 16 n l = puF 16777215 n l := by
  intro l
  induction l with
  | nil => intro k n _ _; rw [numF, puF]
  | cons b t ih =>
    intro k n hk hn
    rw [numF, puF, dig16]
    cases digV b.toNat with
    | none => rfl
    | some d =>
      simp only
      by_cases h : 16 ≤ d
      · rw [if_pos h, if_pos h]
      · rw [if_neg h, if_neg h]
        simp only [List.length_cons] at hk
        have h1 : 16 * n + d < 16 ^ (k + 1) := by rw [Nat.pow_succ]; omega
        have h2 : 16 ^ (k + 1) ≤ 16 ^ 6 := Nat.pow_le_pow_right (by decide) (by omega)
        have h3 : (16 : Nat) ^ 6 = 16777216 := by decide
        rw [if_neg (by omega), Nat.mul_comm n 16]
        exact ih (k + 1) _ (by omega) h1
theorem numG_P (l : List UInt8) : numG 16 4 6 l = match numP l with
    | some n => (n : Int)
    | none => -1 := by
  unfold numG numP
  by_cases h : l.length < 4 ∨ 6 < l.length
  · rw [if_pos h, if_neg (by omega)]
  · rw [if_neg h, if_pos (by omega)]
    unfold puV
    rw [if_neg (fun e => by subst e; simp at h), numF_pu l 0 0 (by omega) (by decide)]
    rfl

set_option maxRecDepth 100000 in
theorem ychar (n : Int) (w : World) : Calls Tryz.prog 123 #[.int .i64 n] w fun e w' => e = .returned (.bool (Lib.validRune n)) ∧ Below w.heap.size w w' := by
  by_cases h0 : 0 ≤ n
  · by_cases h1 : n ≤ 1114111
    · by_cases h2 : n < 55296
      · have HR : Hid (Lib.validRune n = true) := Lib.hid (by simp [Lib.validRune]; omega)
        go_enter Tryz.func123, Tryz.ntmps123
        go_wp2
        go_ret
        exact ⟨by rw [HR.out]; rfl, Below.refl _ _⟩
      · by_cases h3 : 57343 < n
        · have HR : Hid (Lib.validRune n = true) := Lib.hid (by simp [Lib.validRune]; omega)
          go_enter Tryz.func123, Tryz.ntmps123
          go_wp2
          go_ret
          exact ⟨by rw [HR.out]; rfl, Below.refl _ _⟩
        · have HR : Hid (Lib.validRune n = false) := Lib.hid (by simp [Lib.validRune]; omega)
          go_enter Tryz.func123, Tryz.ntmps123
          go_wp2
          go_ret
          exact ⟨by rw [HR.out]; rfl, Below.refl _ _⟩
    · have HR : Hid (Lib.validRune n = false) := Lib.hid (by simp [Lib.validRune]; omega)
      go_enter Tryz.func123, Tryz.ntmps123
      go_wp2
      go_ret
      exact ⟨by rw [HR.out]; rfl, Below.refl _ _⟩
  · have HR : Hid (Lib.validRune n = false) := Lib.hid (by simp [Lib.validRune]; omega)
    go_enter Tryz.func123, Tryz.ntmps123
    go_wp2
    go_ret
    exact ⟨by rw [HR.out]; rfl, Below.refl _ _⟩

def pntP (l : List UInt8) : Int × Nat := match numP l with
  | some n => if Lib.validRune (n : Int) = false then (0, 8) else (n, 0)
  | none => (0, 11)
set_option maxRecDepth 100000 in
theorem ypoint (s : ByteArray) (w : World) (hs : s.size ≤ 140737488351232) : Calls Tryz.prog 98 #[.string s] w fun e w' => e = .returned (.tuple #[.int .i64 (pntP s.data.toList).1, .int .i64 ((pntP s.data.toList).2 : Nat)]) ∧ Below w.heap.size w w' := by
  have CN := Lib.hid (ynumber s 16 4 6 w hs (.inl ⟨rfl, rfl, rfl⟩))
  rw [numG_P] at CN
  have CC := Lib.hid (fun n W => ychar n W)
  obtain ⟨l, hl⟩ : ∃ l, s.data.toList = l := ⟨_, rfl⟩
  rw [hl] at CN ⊢
  cases hn : numP l with
  | none =>
    have HR : Hid (pntP l = (0, 11)) := Lib.hid (by unfold pntP; rw [hn])
    rw [hn] at CN
    simp only at CN
    clear hn hs hl
    go_enter Tryz.func98, Tryz.ntmps98
    go_wp2_with fail
    refine CN.out.mono ?_
    rintro e w1 ⟨rfl, hb1⟩
    go_wp2
    go_ret2
    exact ⟨by rw [HR.out]; rfl, hb1⟩
  | some n =>
    rw [hn] at CN
    simp only at CN
    have hneg : ¬ (n : Int) < 0 := by omega
    cases hv : Lib.validRune (n : Int) with
    | false =>
      have HR : Hid (pntP l = (0, 8)) := Lib.hid (by unfold pntP; rw [hn]; simp only; rw [if_pos hv])
      have CC := Lib.hid (fun W => hv ▸ CC.out (n : Int) W)
      clear hn hs hl hv
      go_enter Tryz.func98, Tryz.ntmps98
      go_wp2_with fail
      refine CN.out.mono ?_
      rintro e w1 ⟨rfl, hb1⟩
      have HB := Lib.hid hb1
      clear hb1
      go_wp2_with fail
      refine (CC.out _).mono ?_
      rintro e w2 ⟨rfl, hb2⟩
      have HB2 := Lib.hid (HB.out.trans (hb2.mono HB.out.size))
      clear hb2
      go_wp2
      go_ret2
      exact ⟨by rw [HR.out]; rfl, HB2.out⟩
    | true =>
      have HR : Hid (pntP l = ((n : Int), 0)) := Lib.hid (by unfold pntP; rw [hn]; simp only; rw [if_neg (by rw [hv]; decide)])
      have CC := Lib.hid (fun W => hv ▸ CC.out (n : Int) W)
      clear hn hs hl hv
      go_enter Tryz.func98, Tryz.ntmps98
      go_wp2_with fail
      refine CN.out.mono ?_
      rintro e w1 ⟨rfl, hb1⟩
      have HB := Lib.hid hb1
      clear hb1
      go_wp2_with fail
      refine (CC.out _).mono ?_
      rintro e w2 ⟨rfl, hb2⟩
      have HB2 := Lib.hid (HB.out.trans (hb2.mono HB.out.size))
      clear hb2
      go_wp2
      go_ret2
      exact ⟨by rw [HR.out]; rfl, HB2.out⟩
end Go.Proofs.YthhepebkfokddaaGreatDoor
/- The document's answer for props: Class, Kind. -/
namespace Go.Proofs.YthhepebkfokddaaGreatDoor
open Go Go.RowKit Go.Kt Go.Kt.Rg Go.Maps

def RpW (g : Nat) (cs ks : List (Nat × Nat × Int)) (fv dv : Value) (w : World) : Prop :=
  ∃ cv kv, w.heap[g]? = some (.cells #[cv, kv, fv, dv] 115 (0, 0)) ∧ RfW w cv cs ∧ RfW w kv ks
theorem RpW.below {g : Nat} {cs ks : List (Nat × Nat × Int)} {fv dv : Value} {A B : World} (h : RpW g cs ks fv dv A) (hb : Below A.heap.size A B) : RpW g cs ks fv dv B := by
  obtain ⟨cv, kv, h1, h2, h3⟩ := h
  exact ⟨cv, kv, (hb.block g (Array.getElem?_eq_some_iff.1 h1).1).trans h1, h2.below hb, h3.below hb⟩
def xclsV (cs : List (Nat × Nat × Int)) (r : Int) : Int := if Lib.validRune r = false ∨ sylP r = true ∨ jamP r = true then 0 else (lastZ cs r).getD 0
def xkndV (ks : List (Nat × Nat × Int)) (r : Int) : Int := if Lib.validRune r = false then 0 else if sylP r = true then (lastZ ks r).getD 1 else (lastZ ks r).getD 0
end Go.Proofs.YthhepebkfokddaaGreatDoor
/- The document's answer for props: lines of fold and decomp as they lie; spoken. -/
namespace Go.Proofs.YthhepebkfokddaaGreatDoor
open Go Go.RowKit Go.Kt Go.Kt.Rg Go.Maps

abbrev Ln3 := Nat × List Nat × Nat
def LfW (w : World) (v : Value) (l : List Ln3) : Prop :=
  ∃ ao cp, v = .slice ao l.length cp ∧ (l = [] ∨ ∃ g, ao = some ⟨g, 0, none⟩ ∧ ∀ (i : Nat) (r : Ln3), l[i]? = some r → w.cell? ⟨g, i * 3, none⟩ = some (.int .i64 r.1) ∧ (∃ v, w.cell? ⟨g, i * 3 + 1, none⟩ = some v ∧ Sl .i32 w v (toZ r.2.1)) ∧ w.cell? ⟨g, i * 3 + 2, none⟩ = some (.int .i64 r.2.2))
theorem LfW.below {v : Value} {l : List Ln3} {A B : World} (h : LfW A v l) (hb : Below A.heap.size A B) : LfW B v l := by
  obtain ⟨ao, cp, rfl, h⟩ := h
  refine ⟨ao, cp, rfl, ?_⟩
  rcases h with h | ⟨g, e, h⟩
  · exact .inl h
  · refine .inr ⟨g, e, fun i r hr => ?_⟩
    obtain ⟨h1, ⟨u, h2, h3⟩, h4⟩ := h i r hr
    exact ⟨(hb.cell (lt_of_cell h1)).trans h1, ⟨u, (hb.cell (lt_of_cell h2)).trans h2, h3.below hb⟩, (hb.cell (lt_of_cell h4)).trans h4⟩
def spkL (l : List Ln3) (n : Int) : Bool := l.any fun x => (x.1 : Int) == n

end Go.Proofs.YthhepebkfokddaaGreatDoor
/- The kit of the laws: CopyRunes: a list of one's own with the same numbers. -/
namespace Go.Proofs.YthhepebkfokddaaGreatDoor
open Go Go.RowKit Go.Kt Go.Kt.Rg Go.Maps

def ZnO (H : Nat) (v : Value) (l : List Int) (W : World) : Prop := OwnS (fun b => H ≤ b) 21 1 v l.length (encZ l) W
theorem zno_nil (H : Nat) (W : World) : ZnO H (.slice none 0 0) [] W := own_nil _ _ _ _
theorem ZnO.below {H : Nat} {v : Value} {l : List Int} {A B : World} (h : ZnO H v l A) (hb : Below A.heap.size A B) : ZnO H v l B := OwnS.keep h (Keep.of_all hb) (fun _ h => False.elim h)
theorem ZnO.app {H : Nat} {v : Value} {l : List Int} {W : World} (h : ZnO H v l W) (hz : H ≤ W.heap.size) (hn : l.length ≤ 1048576) (x : Int) :
    ∃ v' W', (∀ ty, (Builtin.append_ #[62, 62] ty #[v, .slice (some ⟨W.heap.size, 0, none⟩) 1 1]).run Tryz.prog (W.alloc (.cells #[.int .i32 x] 21)) = .ok v' W') ∧ ZnO H v' (l ++ [x]) W' ∧ Below H W W' := by
  obtain ⟨g, cap, w3, hrun, hown3, hk3, hg3, hz3⟩ := append_x (P := Tryz.prog) W 62 21 Tryz.underlying62 tinfoI32 rfl (by omega) h [.int .i32 x] rfl
    (by intro u hu; simp at hu; subst hu; rfl) (by unfold maxLen; omega) (by omega)
  have hgg : H ≤ g := by
    rcases hg3 with hx | hx
    · exact h.2 _ hx
    · omega
  refine ⟨_, w3, hrun, ?_, hk3.below hz (fun b hb => h.2 b hb)⟩
  have e : encZ (l ++ [x]) = encZ l ++ [.int .i32 x] := by simp [encZ]
  unfold ZnO
  rw [e, List.length_append]
  exact hown3.weaken (fun b hb => by subst hb; exact hgg)

set_option maxRecDepth 100000 in
set_option maxHeartbeats 4000000 in
theorem ycopy (l : List Int) (sv : Value) (w : World) (hS : Sl .i32 w sv l) (hn : l.length ≤ 1048576) :
    Calls Tryz.prog 124 #[sv] w fun e w' => ∃ v, e = .returned v ∧ ZnO w.heap.size v l w' ∧ Below w.heap.size w w' := by
  obtain ⟨ao, cp, rfl, hc⟩ := hS
  obtain ⟨n, hln⟩ : ∃ n, l.length = n := ⟨_, rfl⟩
  rw [hln] at hn ⊢
  have HC := Lib.hid (And.intro hc hln)
  clear hc hln
  go_enter Tryz.func124, Tryz.ntmps124
  go_wp2_with fail
  go_loopw [3, 4] (fun u x wr => ∃ k : Nat, x = .int .i64 (k : Nat) ∧ k ≤ n ∧ Hid (ZnO w.heap.size u (l.take k) wr ∧ Below w.heap.size w wr)) (fun _ x _ => n - (RowKit.intOf x).toNat)
  case atStart => exact ⟨0, rfl, Nat.zero_le _, Lib.hid ⟨zno_nil _ _, Below.refl _ _⟩⟩
  case round =>
    obtain ⟨k, rfl, hk, H⟩ := hrel
    by_cases hlt : k < n
    · have e1 : (k : Int) < n := by omega
      have hk0 : (0 : Int) ≤ (k : Int) := by omega
      have hk1 : IntKind.i64.wrap ((k : Int) + 1) = ((k + 1 : Nat) : Int) := by rw [IntWalk.i64_in _ (by omega)]; omega
      obtain ⟨x, hx⟩ : ∃ x, l[k]? = some x := ⟨_, List.getElem?_eq_getElem (by rw [HC.out.2]; omega)⟩
      obtain ⟨g, off, rfl, c0⟩ : ∃ g off, ao = some ⟨g, off, none⟩ ∧ w.cell? ⟨g, off + k, none⟩ = some (.int .i32 x) := by
        rcases HC.out.1 with h | ⟨g, off, e, h⟩
        · rw [h] at hx; cases hx
        · exact ⟨g, off, e, h k _ hx⟩
      have d0 := (H.out.2.cell (lt_of_cell c0)).trans c0
      obtain ⟨v', W', hrun, hz', hb'⟩ := H.out.1.app H.out.2.size (by rw [List.length_take]; omega) x
      have ht : l.take (k + 1) = l.take k ++ [x] := by rw [List.take_add_one, hx]; rfl
      rw [← ht] at hz'
      have HRun := Lib.hid hrun
      have HB := Lib.hid (And.intro hz' (H.out.2.trans hb'))
      clear hrun hz' hb' ht hx c0 hlt
      go_wp2_with (first | (at_builtin; refine wpList_append_eq rfl rfl rfl rfl HRun.out ?_; clear HRun) | fail)
      go_roundw
      case rel => exact ⟨k + 1, by go_num, by omega, Lib.hid ⟨HB.out.1, HB.out.2⟩⟩
      case measure => simp [RowKit.intOf]; omega
    · have e1 : ¬ (k : Int) < n := by omega
      have hz := H.out.1
      rw [List.take_of_length_le (by rw [HC.out.2]; omega)] at hz
      have HB := Lib.hid hz
      clear hlt hz
      go_wp2
      go_ret
      exact ⟨_, rfl, HB.out, H.out.2⟩
end Go.Proofs.YthhepebkfokddaaGreatDoor
/- The document's answer for props: Fold. -/
namespace Go.Proofs.YthhepebkfokddaaGreatDoor
open Go Go.RowKit Go.Kt Go.Kt.Rg Go.Maps

theorem ZnO.sl {H : Nat} {v : Value} {l : List Int} {w : World} (ho : ZnO H v l w) : Sl .i32 w v l := by
  rcases OwnS.shape ho with ⟨hv, h0⟩ | ⟨gb, cap, hv, hg, hgl⟩
  · exact ⟨none, 0, by rw [hv, h0], .inl (List.length_eq_zero_iff.1 h0)⟩
  · subst hv
    refine ⟨_, cap, rfl, .inr ⟨gb, 0, rfl, fun i x hx => ?_⟩⟩
    rw [Nat.zero_add]
    refine OwnS.at0 ho (i := i) ?_
    simp [encZ, List.getElem?_map, hx]
def ofL (l : List Ln3) (r : Int) : Option (List Nat) := (l.find? fun x => (x.1 : Int) == r).map (·.2.1)
theorem ofL_cons (x : Ln3) (t : List Ln3) (r : Int) : ofL (x :: t) r = if (x.1 : Int) = r then some x.2.1 else ofL t r := by
  unfold ofL
  rw [List.find?_cons]
  by_cases h : (x.1 : Int) = r
  · rw [if_pos h]
    have : ((x.1 : Int) == r) = true := by simpa using h
    rw [this]; rfl
  · rw [if_neg h]
    have : ((x.1 : Int) == r) = false := by simpa using h
    rw [this]
def xfldV (l : List Ln3) (r : Int) : List Int := match ofL l r with
  | some t => toZ t
  | none => [r]
theorem LfW.at {w : World} {ao : Option Addr} {n cp : Nat} {l : List Ln3} (h : LfW w (.slice ao n cp) l) {k : Nat} {x : Ln3} (hx : l[k]? = some x) :
    ∃ g v, ao = some ⟨g, 0, none⟩ ∧ w.cell? ⟨g, k * 3, none⟩ = some (.int .i64 (x.1 : Nat)) ∧ w.cell? ⟨g, k * 3 + 1, none⟩ = some v ∧ Sl .i32 w v (toZ x.2.1) := by
  obtain ⟨ao', cp', e, hc⟩ := h
  cases e
  rcases hc with h | ⟨g, e, h⟩
  · rw [h] at hx; cases hx
  · obtain ⟨h1, ⟨v, h2, h3⟩, _⟩ := h k x hx
    exact ⟨g, v, e, h1, h2, h3⟩

end Go.Proofs.YthhepebkfokddaaGreatDoor
/- props: what the laws call themselves: read, works. -/
namespace Go.Proofs.YthhepebkfokddaaGreatDoor
open Go Go.RowKit Go.Kt Go.Kt.Rg Go.Maps

def PrOk (g : Nat) (l : List UInt8) (S : RdS) (L : List Nat) (w : World) : Prop := ParseR l 0 (ringP S (L.length + 1) L fun _ => none).2 S L ∧ PrW g S (mdOf S L) w
def fileW : List UInt8 := [99, 108, 97, 115, 115, 32, 48, 51, 48, 48, 32, 50, 51, 48, 10, 107, 105, 110, 100, 32, 48, 48, 52, 49, 32, 108, 101, 116, 116, 101, 114, 10, 102, 111, 108, 100, 32, 48, 48, 52, 49, 32, 48, 48, 54, 49, 10, 100, 101, 99, 111, 109, 112, 32, 48, 48, 67, 48, 32, 48, 48, 52, 49, 32, 48, 51, 48, 48]
def rdW : RdS := ⟨[(768, 768, 230)], [(65, 65, 1)], updN (fun _ => none) 192 [65, 768], updN (fun _ => none) 65 [97], updN (fun _ => none) 192 4, fun _ => none⟩
end Go.Proofs.YthhepebkfokddaaGreatDoor
/- props: what is composed of two points, and of which it is: mathematics. -/
namespace Go.Proofs.YthhepebkfokddaaGreatDoor
open Go Go.RowKit Go.Kt Go.Kt.Rg Go.Maps

end Go.Proofs.YthhepebkfokddaaGreatDoor
/- props: the program's classes and kinds are the document's: mathematics. -/
namespace Go.Proofs.YthhepebkfokddaaGreatDoor
open Go Go.RowKit Go.Kt Go.Kt.Rg Go.Maps

end Go.Proofs.YthhepebkfokddaaGreatDoor
/- props: the words of a line, byte by byte: mathematics. -/
namespace Go.Proofs.YthhepebkfokddaaGreatDoor
open Go Go.RowKit Go.Kt Go.Kt.Rg Go.Maps

theorem blk_no {n : Nat} (h : n ≠ 32 ∧ n ≠ 9) : blkP n = false := by
  unfold blkP
  rw [beq_eq_false_iff_ne.2 h.1, beq_eq_false_iff_ne.2 h.2]; rfl
theorem dec_blk (s : ByteArray) (p : Nat) (h : p < s.size) :
    (blkP (Utf8.decode s p).1 = true ∧ (Utf8.decode s p).2 = 1 ∧ blkP (s.get! p).toNat = true) ∨
    (blkP (Utf8.decode s p).1 = false ∧ 1 ≤ (Utf8.decode s p).2 ∧ p + (Utf8.decode s p).2 ≤ s.size ∧ ∀ j, j < (Utf8.decode s p).2 → blkP (s.get! (p + j)).toNat = false) := by
  rw [Lib.decode_at]
  obtain ⟨b0, h0⟩ : ∃ b, (s.get! p).toNat = b := ⟨_, rfl⟩
  obtain ⟨b1, h1⟩ : ∃ b, (s.get! (p + 1)).toNat = b := ⟨_, rfl⟩
  obtain ⟨b2, h2⟩ : ∃ b, (s.get! (p + 2)).toNat = b := ⟨_, rfl⟩
  obtain ⟨b3, h3⟩ : ∃ b, (s.get! (p + 3)).toNat = b := ⟨_, rfl⟩
  rw [h0, h1, h2, h3]
  unfold Lib.decodeN
  by_cases ha : b0 < 128
  · rw [if_pos ha]
    by_cases hb : blkP b0 = true
    · exact .inl ⟨hb, rfl, hb⟩
    · have hb2 : blkP b0 = false := by simpa using hb
      exact .inr ⟨hb2, Nat.le_refl _, by simp only; omega, fun j hj => by
        obtain rfl : j = 0 := by simp only at hj; omega
        rw [Nat.add_zero, h0]; exact hb2⟩
  · rw [if_neg ha]
    right
    repeat' split
    all_goals refine ⟨blk_no (by simp only; omega), by simp only; omega, by simp only; omega, fun j hj => ?_⟩
    all_goals simp only at hj
    all_goals (obtain rfl | rfl | rfl | rfl : j = 0 ∨ j = 1 ∨ j = 2 ∨ j = 3 := by omega)
    all_goals first
      | (exfalso; omega)
      | (rw [Nat.add_zero, h0]; exact blk_no (by omega))
      | (rw [h1]; exact blk_no (by omega))
      | (rw [h2]; exact blk_no (by omega))
      | (rw [h3]; exact blk_no (by omega))

def wordsB : List UInt8 → List UInt8 → List (List UInt8)
  | cur, [] => if cur = [] then [] else [cur]
  | cur, b :: t => if blkP b.toNat then (if cur = [] then wordsB [] t else cur :: wordsB [] t) else wordsB (cur ++ [b]) t
theorem wordsB_take : ∀ (k : Nat) (cur l : List UInt8), k ≤ l.length → (∀ j b, j < k → l[j]? = some b → blkP b.toNat = false) → wordsB cur l = wordsB (cur ++ l.take k) (l.drop k) := by
  intro k
  induction k with
  | zero => intro cur l _ _; simp
  | succ k ih =>
    intro cur l hk h
    cases l with
    | nil => simp at hk
    | cons b t =>
      have hb := h 0 b (by omega) rfl
      rw [wordsB, hb]
      simp only [Bool.false_eq_true, if_false]
      rw [ih (cur ++ [b]) t (by simpa using hk) (fun j c hj hc => h (j + 1) c (by omega) (by simpa using hc))]
      simp
theorem get_at (s : ByteArray) (i : Nat) (h : i < s.size) : s.data.toList[i]? = some (s.get! i) := by
  have hl : i < s.data.toList.length := by rw [← Lib.size_eq]; exact h
  rw [List.getElem?_eq_getElem hl]
  congr 1
  have e : s.get! i = s[i]'h := by
    simp [ByteArray.get!, getElem!_pos, h]
    rfl
  rw [e]
  simp
  rfl
theorem drop_at (s : ByteArray) (i : Nat) (h : i < s.size) : s.data.toList.drop i = s.get! i :: s.data.toList.drop (i + 1) := by
  have hl : i < s.data.toList.length := by rw [← Lib.size_eq]; exact h
  rw [List.drop_eq_getElem_cons hl]
  congr 1
  have := get_at s i h
  rw [List.getElem?_eq_getElem hl] at this
  exact Option.some.inj this
def curB (l : List UInt8) (p : Nat) : Option Nat → List UInt8
  | some a => (l.take p).drop a
  | none => []
theorem curB_ne (l : List UInt8) (p a : Nat) (h : a < p) (hp : p ≤ l.length) : curB l p (some a) ≠ [] := fun e => by
  have := congrArg List.length e
  simp [curB] at this
  omega
theorem curB_more (l : List UInt8) (p k : Nat) (o : Option Nat) (ha : ∀ a, o = some a → a ≤ p) (hp : p + k ≤ l.length) : curB l (p + k) (some (o.getD p)) = curB l p o ++ (l.drop p).take k := by
  cases o with
  | none =>
    show (l.take (p + k)).drop p = [] ++ _
    rw [List.nil_append, List.drop_take, Nat.add_sub_cancel_left]
  | some a =>
    have := ha a rfl
    show (l.take (p + k)).drop a = (l.take p).drop a ++ _
    rw [List.take_add, List.drop_append_of_le_length (by rw [List.length_take]; omega)]
theorem spans_words (s : ByteArray) : ∀ (f p : Nat) (st : Option Nat) (acc : List (Nat × Nat)), s.size ≤ p + f → p ≤ s.size → (∀ a, st = some a → a < p) →
    (Lib.closeSpans s (Lib.spansFromP blkP s f p st acc)).map (fun x => (s.data.toList.take x.2).drop x.1) = acc.map (fun x => (s.data.toList.take x.2).drop x.1) ++ wordsB (curB s.data.toList p st) (s.data.toList.drop p) := by
  have hln : s.data.toList.length = s.size := (Lib.size_eq s).symm
  have fin : ∀ (p : Nat) (st : Option Nat) (acc : List (Nat × Nat)), ¬ p < s.size → p ≤ s.size → (∀ a, st = some a → a < p) →
      (Lib.closeSpans s (acc, st)).map (fun x => (s.data.toList.take x.2).drop x.1) = acc.map (fun x => (s.data.toList.take x.2).drop x.1) ++ wordsB (curB s.data.toList p st) (s.data.toList.drop p) := by
    intro p st acc hp hps hst
    obtain rfl : p = s.size := by omega
    rw [List.drop_eq_nil_of_le (by omega), wordsB]
    cases st with
    | none => simp [Lib.closeSpans, curB]
    | some a =>
      rw [if_neg (curB_ne _ _ _ (hst a rfl) (by omega))]
      simp [Lib.closeSpans, curB]
  intro f
  induction f with
  | zero => intro p st acc h1 h2 h3; exact fin p st acc (by omega) h2 h3
  | succ f ih =>
    intro p st acc h1 h2 h3
    by_cases hp : p < s.size
    rotate_left
    · rw [Lib.spansFromP_end _ _ _ _ _ _ hp]
      exact fin p st acc hp h2 h3
    unfold Lib.spansFromP
    rw [if_pos hp]
    rcases dec_blk s p hp with ⟨d1, d2, d3⟩ | ⟨d1, d2, d3, d4⟩
    · rw [d1, d2, if_pos rfl, drop_at s p hp, wordsB, if_pos d3]
      cases st with
      | none => simp only; rw [ih _ _ _ (by omega) (by omega) (fun a h => by cases h)]; rfl
      | some a =>
        simp only
        rw [ih _ _ _ (by omega) (by omega) (fun a h => by cases h), if_neg (curB_ne _ _ _ (h3 a rfl) (by omega))]
        simp [curB]
    · rw [d1, if_neg (by decide)]
      have hw := wordsB_take (Utf8.decode s p).2 (curB s.data.toList p st) (s.data.toList.drop p) (by rw [List.length_drop]; omega) (fun j b hj hb => by
        rw [List.getElem?_drop, get_at s (p + j) (by omega)] at hb
        injection hb with hb
        rw [← hb]; exact d4 j hj)
      rw [hw, List.drop_drop, ← curB_more _ _ _ _ (fun a h => Nat.le_of_lt (h3 a h)) (by omega)]
      cases st with
      | none => exact ih _ _ _ (by omega) d3 (fun a h => by cases h; omega)
      | some a => exact ih _ _ _ (by omega) d3 (fun b h => by cases h; have := h3 a rfl; omega)
theorem wrdP_eq (l : List UInt8) : wrdP l = wordsB [] (lineP l) := by
  have h := spans_words ⟨(lineP l).toArray⟩ (⟨(lineP l).toArray⟩ : ByteArray).size 0 none [] (by omega) (by omega) (fun a h => by cases h)
  simp only [List.map_nil, List.nil_append, List.drop_zero] at h
  have e : curB (lineP l) 0 none = [] := rfl
  rw [e] at h
  rw [← h]
  unfold wrdP Lib.goFieldsP Lib.spansOfP
  rw [List.map_map]
  apply List.map_congr_left
  intro x _
  show (ByteArray.extract ⟨(lineP l).toArray⟩ x.1 x.2).data.toList = _
  have := Lib.extract_toList ⟨(lineP l).toArray⟩ x.1 x.2
  rw [ByteArray.toList_eq] at this
  rw [this, List.drop_take]

def wordsH : List UInt8 → List UInt8 → List (List UInt8)
  | cur, [] => if cur = [] then [] else [cur]
  | cur, b :: t => if b = 35 then (if cur = [] then [] else [cur]) else if blkP b.toNat then (if cur = [] then wordsH [] t else cur :: wordsH [] t) else wordsH (cur ++ [b]) t
theorem cut_one (l : List UInt8) (x : UInt8) : (Lib.cut l [x]).1 = l.takeWhile (· != x) := by
  induction l with
  | nil => simp [Lib.cut, Lib.index]
  | cons b t ih =>
    unfold Lib.cut at ih ⊢
    rw [Lib.index]
    by_cases hb : b = x
    · subst hb
      simp
    · have e1 : ([x] : List UInt8).isPrefixOf (b :: t) = false := by simp [List.isPrefixOf]; exact fun h => hb h.symm
      have e2 : (b != x) = true := by simpa using hb
      rw [e1, List.takeWhile_cons_of_pos (by simpa using hb)]
      have hge := Lib.index_ge t [x]
      by_cases hi : Lib.index t [x] = -1
      · rw [hi] at ih ⊢
        simp at ih ⊢
        exact ih
      · obtain ⟨n, hn⟩ : ∃ n : Nat, Lib.index t [x] = (n : Int) := ⟨(Lib.index t [x]).toNat, by omega⟩
        rw [hn] at ih ⊢
        have e3 : ((n : Int) == -1) = false := by simp
        simp only [e3, Bool.false_eq_true, if_false]
        rw [if_pos (by omega)] at ih ⊢
        rw [show ((n : Int) + 1).toNat = n + 1 by omega]
        simp at ih ⊢
        exact ih
theorem wordsH_cut (l : List UInt8) : ∀ cur, wordsB cur (l.takeWhile (· != 35)) = wordsH cur l := by
  induction l with
  | nil => intro cur; rfl
  | cons b t ih =>
    intro cur
    by_cases hb : b = 35
    · subst hb
      simp [wordsH, wordsB]
    · rw [List.takeWhile_cons_of_pos (by simpa using hb), wordsB, wordsH, if_neg hb, ih, ih]
theorem wrdP_H (l : List UInt8) : wrdP l = wordsH [] (Lib.trimSuffix (Lib.trimSuffix l [10]) [13]) := by
  rw [wrdP_eq, lineP, cut_one, wordsH_cut]
theorem trims_cons (b c : UInt8) (t : List UInt8) : Lib.trimSuffix (b :: t) [c] = if t = [] then (if b = c then [] else [b]) else b :: Lib.trimSuffix t [c] := by
  unfold Lib.trimSuffix Lib.hasSuffix
  cases t with
  | nil =>
    by_cases h : b = c
    · subst h; simp
    · have : ([c] : List UInt8).isSuffixOf [b] = false := by
        cases e : ([c] : List UInt8).isSuffixOf [b] with
        | false => rfl
        | true =>
          have := List.isSuffixOf_iff_suffix.1 e
          have := this.eq_of_length rfl
          injection this with this
          exact absurd this.symm h
      rw [this]; simp [h]
  | cons d u =>
    have : ([c] : List UInt8).isSuffixOf (b :: d :: u) = ([c] : List UInt8).isSuffixOf (d :: u) := by
      rw [Bool.eq_iff_iff, List.isSuffixOf_iff_suffix, List.isSuffixOf_iff_suffix, List.suffix_cons_iff]
      constructor
      · rintro (h | h)
        · simp at h
        · exact h
      · exact .inr
    rw [this, if_neg (List.cons_ne_nil d u)]
    by_cases h : ([c] : List UInt8).isSuffixOf (d :: u) = true
    · rw [if_pos h, if_pos h]; rfl
    · rw [if_neg h, if_neg h]
theorem trims_end (c : UInt8) (l : List UInt8) : Lib.trimSuffix (l ++ [c]) [c] = l := by
  induction l with
  | nil => rw [List.nil_append, trims_cons, if_pos rfl, if_pos rfl]
  | cons b t ih => rw [List.cons_append, trims_cons, if_neg (by simp), ih]
theorem trims_not (c : UInt8) (l : List UInt8) (h : l.getLast? ≠ some c) : Lib.trimSuffix l [c] = l := by
  induction l with
  | nil => rfl
  | cons b t ih =>
    rw [trims_cons]
    cases t with
    | nil => rw [if_pos rfl, if_neg (fun e => h (by rw [e]; rfl))]
    | cons d u => rw [if_neg (by simp), ih (by simpa using h)]
end Go.Proofs.YthhepebkfokddaaGreatDoor
/- props: files whose lines say the same: mathematics. -/
namespace Go.Proofs.YthhepebkfokddaaGreatDoor
open Go Go.RowKit Go.Kt Go.Kt.Rg Go.Maps

/-! ### Lines of bytes -/
theorem ixb_some (c rest : List UInt8) (h : ∀ x ∈ c, x ≠ 10) : Lib.indexByte (c ++ 10 :: rest) 10 = (c.length : Int) := by
  induction c with
  | nil => simp [Lib.indexByte]
  | cons b t ih =>
    have hb := h b List.mem_cons_self
    have := ih (fun x hx => h x (List.mem_cons_of_mem _ hx))
    rw [List.cons_append, Lib.indexByte, if_neg (by simpa using hb), this, if_neg (by simp)]
    simp
theorem ixb_none (c : List UInt8) (h : ∀ x ∈ c, x ≠ 10) : Lib.indexByte c 10 = -1 := by
  induction c with
  | nil => rfl
  | cons b t ih =>
    have hb := h b List.mem_cons_self
    rw [Lib.indexByte, if_neg (by simpa using hb), ih (fun x hx => h x (List.mem_cons_of_mem _ hx))]
    rfl
theorem lines_cons (c rest : List UInt8) (h : ∀ x ∈ c, x ≠ 10) : linesP (c ++ 10 :: rest) = (c ++ [10]) :: linesP rest := by
  rw [linesP_some (by simp) (ixb_some c rest h)]
  congr 1
  · rw [List.take_append, List.take_of_length_le (by omega), Nat.add_sub_cancel_left]; rfl
  · rw [List.drop_append, List.drop_eq_nil_of_le (by omega), Nat.add_sub_cancel_left]; rfl
theorem lines_one (c : List UInt8) (h : ∀ x ∈ c, x ≠ 10) : linesP c = if c = [] then [] else [c] := by
  by_cases hc : c = []
  · subst hc; rfl
  · rw [if_neg hc, linesP_none hc (ixb_none c h)]
theorem line_cut (l : List UInt8) : (∀ x ∈ l, x ≠ 10) ∨ ∃ c rest, l = c ++ 10 :: rest ∧ (∀ x ∈ c, x ≠ 10) ∧ rest.length < l.length := by
  induction l with
  | nil => exact .inl (fun x h => by cases h)
  | cons b t ih =>
    by_cases hb : b = 10
    · subst hb
      exact .inr ⟨[], t, rfl, (fun x h => by cases h), by simp⟩
    · rcases ih with h | ⟨c, rest, h1, h2, h3⟩
      · exact .inl (fun x hx => by
          rcases List.mem_cons.1 hx with rfl | hx
          · exact hb
          · exact h x hx)
      · refine .inr ⟨b :: c, rest, by rw [h1]; rfl, fun x hx => ?_, by simp; omega⟩
        rcases List.mem_cons.1 hx with rfl | hx
        · exact hb
        · exact h2 x hx
def FW (l : List UInt8) : List (List (List UInt8)) := ((linesP l).map wrdP).filter (fun w => !w.isEmpty)
def oneW (w : List (List UInt8)) : List (List (List UInt8)) := if w = [] then [] else [w]
theorem trims10 (c : List UInt8) (h : ∀ x ∈ c, x ≠ 10) : Lib.trimSuffix c [10] = c := trims_not 10 c (fun e => h 10 (List.mem_of_getLast? e) rfl)
/-! ### What PropsPlain writes -/
def trB : Bool → List UInt8 → List UInt8
  | _, [] => []
  | r, b :: t => if b = 32 ∧ r = false then 9 :: 32 :: 32 :: trB r t else b :: trB (r || b == 35) t
def endB : List UInt8 := [32, 35, 32, 120, 13, 10, 32, 10]
def trG : Bool → List UInt8 → List UInt8
  | _, [] => []
  | r, b :: t => if b = 13 ∧ (t = [] ∨ t.head? = some 10) then trG r t
      else if b = 32 ∧ r = false then 9 :: 32 :: 32 :: trG r t
      else if b = 10 then endB ++ trG false t
      else b :: trG (r || b == 35) t
def oneF (cur : List UInt8) : List (List UInt8) := if cur = [] then [] else [cur]
end Go.Proofs.YthhepebkfokddaaGreatDoor
/- props: what a file's words come to: mathematics. -/
namespace Go.Proofs.YthhepebkfokddaaGreatDoor
open Go Go.RowKit Go.Kt Go.Kt.Rg Go.Maps

/-! ### What is taken holds no CR -/
theorem dropw_nil {p : UInt8 → Bool} : ∀ {l : List UInt8}, l.dropWhile p = [] → ∀ x ∈ l, p x = true
  | [], _, _, h => by cases h
  | b :: t, h, x, hx => by
    rw [List.dropWhile_cons] at h
    by_cases hb : p b = true
    · rw [if_pos hb] at h
      rcases List.mem_cons.1 hx with rfl | hx
      · exact hb
      · exact dropw_nil h x hx
    · rw [if_neg hb] at h; cases h
theorem dropw_head {p : UInt8 → Bool} {x : UInt8} {t : List UInt8} : ∀ {l : List UInt8}, l.dropWhile p = x :: t → p x = false
  | [], h => by cases h
  | b :: u, h => by
    rw [List.dropWhile_cons] at h
    by_cases hb : p b = true
    · rw [if_pos hb] at h
      exact dropw_head h
    · rw [if_neg hb] at h
      injection h with h1 _
      subst h1
      simpa using hb
/-! ### What words come to, whatever the lines' numbers -/
def RdE (S T : RdS) : Prop := S.cs = T.cs ∧ S.ks = T.ks ∧ S.ds = T.ds ∧ S.fs = T.fs
def accW : RdS → List (List (List UInt8)) → Option RdS
  | S, [] => some S
  | S, w :: t => if (takeP 1 S w).1 ≠ 0 then none else accW (takeP 1 S w).2 t
def AlkR (S T : RdS) (L : List Nat) (r : Int) : Prop := clsV S r = clsV T r ∧ kndV S r = kndV T r ∧ dcpV S r = dcpV T r ∧ fldV S r = fldV T r ∧ ∀ b, cmpV (mdOf S L) r b = cmpV (mdOf T L) r b
end Go.Proofs.YthhepebkfokddaaGreatDoor
/- props: the document's lines and what the program keeps of them: mathematics. -/
namespace Go.Proofs.YthhepebkfokddaaGreatDoor
open Go Go.RowKit Go.Kt Go.Kt.Rg Go.Maps

structure XdS where
  cs : List (Nat × Nat × Int)
  ks : List (Nat × Nat × Int)
  fl : List Ln3
  dl : List Ln3
def fdL (l : List Ln3) (x : Nat) : Option Ln3 := l.find? fun y => y.1 == x
theorem fdL_snoc (l : List Ln3) (y : Ln3) (x : Nat) : fdL (l ++ [y]) x = match fdL l x with
    | some z => some z
    | none => if y.1 = x then some y else none := by
  unfold fdL
  rw [List.find?_append]
  cases l.find? fun y => y.1 == x with
  | some z => rfl
  | none =>
    simp only [Option.none_or, List.find?_cons, List.find?_nil]
    by_cases h : y.1 = x
    · rw [if_pos h]; simp [h]
    · rw [if_neg h]
      have : (y.1 == x) = false := by simpa using h
      rw [this]
theorem fdL_put {A : Type} (f : Ln3 → A) (l : List Ln3) (y : Ln3) (h : fdL l y.1 = none) (x : Nat) : (fdL (l ++ [y]) x).map f = updN (fun x => (fdL l x).map f) y.1 (f y) x := by
  rw [fdL_snoc]
  unfold updN
  by_cases e : x = y.1
  · subst e
    rw [h, if_pos rfl]; simp
  · rw [if_neg e]
    cases hl : fdL l x with
    | some z => simp only [hl]
    | none =>
      simp only [hl]
      rw [if_neg (fun h => e h.symm)]
theorem spk_fd (l : List Ln3) (x : Nat) : spkL l (x : Int) = (fdL l x).isSome := by
  induction l with
  | nil => rfl
  | cons y t ih =>
    unfold spkL fdL at ih ⊢
    rw [List.any_cons, List.find?_cons, ih]
    by_cases h : y.1 = x
    · subst h; simp
    · have h1 : ((y.1 : Int) == (x : Int)) = false := by rw [beq_eq_false_iff_ne]; omega
      have h2 : (y.1 == x) = false := by simpa using h
      rw [h1, h2]; rfl
theorem of_fd (l : List Ln3) (r : Int) : ofL l r = atZ (fun x => (fdL l x).map (·.2.1)) r := by
  unfold atZ
  by_cases h0 : 0 ≤ r
  · rw [if_pos h0]
    obtain ⟨n, rfl⟩ : ∃ n : Nat, r = (n : Int) := ⟨r.toNat, by omega⟩
    rw [Int.toNat_natCast]
    induction l with
    | nil => rfl
    | cons y t ih =>
      rw [ofL_cons, ih]
      unfold fdL
      simp only [List.find?_cons]
      by_cases h : y.1 = n
      · subst h; simp
      · have h2 : (y.1 == n) = false := by simpa using h
        rw [if_neg (by omega), h2]
  · rw [if_neg h0]
    induction l with
    | nil => rfl
    | cons y t ih => rw [ofL_cons, ih, if_neg (by omega)]
structure XRel (X : XdS) (S : RdS) : Prop where
  cs : S.cs = X.cs
  ks : S.ks = X.ks
  fs : S.fs = fun x => (fdL X.fl x).map (·.2.1)
  ds : S.ds = fun x => (fdL X.dl x).map (·.2.1)
  ls : S.ls = fun x => (fdL X.dl x).map (·.2.2)
  nd : (X.dl.map (·.1)).Nodup
theorem xrel0 : XRel ⟨[], [], [], []⟩ rd0 := ⟨rfl, rfl, rfl, rfl, rfl, List.nodup_nil⟩
theorem fd_mem {l : List Ln3} (hn : (l.map (·.1)).Nodup) {y : Ln3} (hy : y ∈ l) : fdL l y.1 = some y := by
  induction l with
  | nil => cases hy
  | cons z t ih =>
    unfold fdL at ih ⊢
    rw [List.map_cons, List.nodup_cons] at hn
    rw [List.find?_cons]
    rcases List.mem_cons.1 hy with rfl | hy
    · simp
    · have : (z.1 == y.1) = false := by
        rw [beq_eq_false_iff_ne]
        intro e
        exact hn.1 (by rw [e]; exact List.mem_map_of_mem hy)
      rw [this]
      exact ih hn.2 hy
theorem fd_some {l : List Ln3} {x : Nat} {y : Ln3} (h : fdL l x = some y) : y ∈ l ∧ y.1 = x := by
  unfold fdL at h
  exact ⟨List.mem_of_find?_eq_some h, by simpa using List.find?_some h⟩
variable {X : XdS} {S : RdS}
theorem XRel.dcp (h : XRel X S) (r : Int) : (ofL X.dl r).getD [] = (atZ S.ds r).getD [] := by rw [of_fd, h.ds]
theorem XRel.fspk (h : XRel X S) (x : Nat) : spkL X.fl (x : Int) = (S.fs x).isSome := by
  rw [spk_fd, h.fs]; simp
theorem XRel.dspk (h : XRel X S) (x : Nat) : spkL X.dl (x : Int) = (S.ds x).isSome := by
  rw [spk_fd, h.ds]; simp
theorem XRel.cls (h : XRel X S) (r : Nat × Nat × Int) : XRel { X with cs := X.cs ++ [r] } { S with cs := S.cs ++ [r] } := ⟨by simp only [h.cs], h.ks, h.fs, h.ds, h.ls, h.nd⟩
theorem XRel.knd (h : XRel X S) (r : Nat × Nat × Int) : XRel { X with ks := X.ks ++ [r] } { S with ks := S.ks ++ [r] } := ⟨h.cs, by simp only [h.ks], h.fs, h.ds, h.ls, h.nd⟩
theorem XRel.fold (h : XRel X S) {x : Nat} (hx : (S.fs x).isSome = false) (u : List Nat) (at_ : Nat) : XRel { X with fl := X.fl ++ [(x, u, at_)] } { S with fs := updN S.fs x u } := by
  refine ⟨h.cs, h.ks, ?_, h.ds, h.ls, h.nd⟩
  have h0 : fdL X.fl x = none := by rw [h.fs] at hx; simpa using hx
  funext z
  have := fdL_put (·.2.1) X.fl (x, u, at_) h0 z
  simp only at this ⊢
  rw [this, h.fs]
theorem XRel.dec (h : XRel X S) {x : Nat} (hx : (S.ds x).isSome = false) (u : List Nat) (at_ : Nat) : XRel { X with dl := X.dl ++ [(x, u, at_)] } { S with ds := updN S.ds x u, ls := updN S.ls x at_ } := by
  have h0 : fdL X.dl x = none := by rw [h.ds] at hx; simpa using hx
  refine ⟨h.cs, h.ks, h.fs, ?_, ?_, ?_⟩
  · funext z
    have := fdL_put (·.2.1) X.dl (x, u, at_) h0 z
    simp only at this ⊢
    rw [this, h.ds]
  · funext z
    have := fdL_put (·.2.2) X.dl (x, u, at_) h0 z
    simp only at this ⊢
    rw [this, h.ls]
  · simp only [List.map_append, List.map_cons, List.map_nil]
    refine List.nodup_append.2 ⟨h.nd, (by simp), ?_⟩
    intro a ha b hb
    rw [List.mem_singleton] at hb
    subst hb
    rintro rfl
    obtain ⟨y, hy, e⟩ := List.mem_map.1 ha
    rw [← e, fd_mem h.nd hy] at h0
    cases h0
theorem XRel.mem (h : XRel X S) (x : Nat) : (S.ds x).isSome = true ↔ ∃ y ∈ X.dl, y.1 = x := by
  rw [h.ds]
  constructor
  · intro h1
    cases hf : fdL X.dl x with
    | none => simp only [hf] at h1; cases h1
    | some y => exact ⟨y, fd_some hf⟩
  · rintro ⟨y, hy, rfl⟩
    simp only [fd_mem h.nd hy]; rfl
theorem XRel.at (h : XRel X S) {y : Ln3} (hy : y ∈ X.dl) : S.ds y.1 = some y.2.1 ∧ S.ls y.1 = some y.2.2 := by
  rw [h.ds, h.ls]
  simp only
  rw [fd_mem h.nd hy]
  exact ⟨rfl, rfl⟩
def LstB (ds : DsT) (l : List Ln3) (least : Int) (no line : Nat) : Prop :=
  (least = -1 ∧ no = 0 ∧ line = 0 ∧ ∀ y ∈ l, FineD ds y.1) ∨ ∃ y ∈ l, least = (y.1 : Nat) ∧ BadN ds y.1 no ∧ line = y.2.2 ∧ ∀ z ∈ l, (FineD ds z.1 ∨ y.1 ≤ z.1)
theorem lstB_nil (ds : DsT) : LstB ds [] (-1) 0 0 := .inl ⟨rfl, rfl, rfl, fun y h => by cases h⟩
theorem LstB.fine {ds : DsT} {l : List Ln3} {least : Int} {no line : Nat} {x : Ln3} (h : LstB ds l least no line) (hx : FineD ds x.1) : LstB ds (l ++ [x]) least no line := by
  rcases h with ⟨h1, h2, h3, h4⟩ | ⟨y, h1, h2, h3, h4, h5⟩
  · refine .inl ⟨h1, h2, h3, fun y hy => ?_⟩
    rcases List.mem_append.1 hy with hy | hy
    · exact h4 y hy
    · rw [List.mem_singleton.1 hy]; exact hx
  · refine .inr ⟨y, List.mem_append_left _ h1, h2, h3, h4, fun z hz => ?_⟩
    rcases List.mem_append.1 hz with hz | hz
    · exact h5 z hz
    · rw [List.mem_singleton.1 hz]; exact .inl hx
theorem LstB.far {ds : DsT} {l : List Ln3} {least : Int} {no line : Nat} {x : Ln3} (h : LstB ds l least no line) (h0 : 0 ≤ least) (hx : least < (x.1 : Int)) : LstB ds (l ++ [x]) least no line := by
  rcases h with ⟨h1, _⟩ | ⟨y, h1, h2, h3, h4, h5⟩
  · omega
  · refine .inr ⟨y, List.mem_append_left _ h1, h2, h3, h4, fun z hz => ?_⟩
    rcases List.mem_append.1 hz with hz | hz
    · exact h5 z hz
    · rw [List.mem_singleton.1 hz]; exact .inr (by omega)
theorem LstB.new {ds : DsT} {l : List Ln3} {least : Int} {no line no' : Nat} {x : Ln3} (h : LstB ds l least no line) (h0 : ¬ (0 ≤ least ∧ least < (x.1 : Int))) (hx : BadN ds x.1 no') : LstB ds (l ++ [x]) (x.1 : Nat) no' x.2.2 := by
  refine .inr ⟨x, List.mem_append_right _ (List.mem_singleton_self _), rfl, hx, rfl, fun z hz => ?_⟩
  rcases List.mem_append.1 hz with hz | hz
  · rcases h with ⟨_, _, _, h4⟩ | ⟨y, h1, h2, h3, h4, h5⟩
    · exact .inl (h4 z hz)
    · rcases h5 z hz with h | h
      · exact .inl h
      · exact .inr (by omega)
  · rw [List.mem_singleton.1 hz]; exact .inr (Nat.le_refl _)
theorem lst_ring (h : XRel X S) {L : List Nat} (hp : L.Pairwise (· < ·)) (hm : ∀ x, x ∈ L ↔ (S.ds x).isSome = true) {least : Int} {no line : Nat} (hl : LstB S.ds X.dl least no line) :
    ringP S (L.length + 1) L (fun _ => none) = (no, line) ∧ (least = -1 ↔ no = 0) ∧ -1 ≤ least := by
  rcases ringP_spec S L (L.length + 1) (fun y hy => (hm y).2 hy) (Nat.lt_succ_self _) L _ (leInv_none _) leOk_none with ⟨q1, q2⟩ | ⟨a, x, b, k, rfl, q2, q3, q4⟩
  · rcases hl with ⟨h1, h2, h3, _⟩ | ⟨y, h1, h2, h3, _⟩
    · rw [q1, h1, h2, h3]; exact ⟨rfl, by simp, by omega⟩
    · exact absurd (q2 _ ((hm _).2 ((h.mem _).2 ⟨y, h1, rfl⟩))) h3.not
  · obtain ⟨y, hy, rfl⟩ := (h.mem _).1 ((hm x).1 (by simp))
    rcases hl with ⟨_, _, _, h4⟩ | ⟨z, h1, h2, h3, h4, h5⟩
    · exact absurd (h4 y hy) q3.not
    · have hz : z.1 = y.1 := by
        have hzL := (hm z.1).2 ((h.mem _).2 ⟨z, h1, rfl⟩)
        rcases List.mem_append.1 hzL with hza | hza
        · exact absurd (q2 _ hza) h3.not
        · rcases List.mem_cons.1 hza with e | hzb
          · exact e
          · have := (List.pairwise_append.1 hp).2.1
            have h6 := (List.pairwise_cons.1 this).1 _ hzb
            rcases h5 y hy with h7 | h7
            · exact absurd h7 q3.not
            · omega
      have e1 := (h.at h1).2
      rw [hz] at h3 e1
      rw [q4, e1, h4, q3.uniq h3]
      exact ⟨rfl, by have := h3.ne; omega, by omega⟩
def allD (S : RdS) : List Nat := (List.range 1114112).filter fun x => (S.ds x).isSome
theorem allD_rise (S : RdS) : (allD S).Pairwise (· < ·) := List.Pairwise.filter _ List.pairwise_lt_range
theorem allD_mem {k : Nat} (hS : RdOk k S) (x : Nat) : x ∈ allD S ↔ (S.ds x).isSome = true := by
  unfold allD
  rw [List.mem_filter, List.mem_range]
  refine ⟨fun h => h.2, fun h => ⟨?_, h⟩⟩
  cases hd : S.ds x with
  | none => rw [hd] at h; cases h
  | some l =>
    have := (hS.ds x l hd).1.1
    have := valid_le this
    omega
theorem ParseR.uniq {l : List UInt8} {a b la lb : Nat} {S T : RdS} {L M : List Nat} (h : ParseR l a la S L) (h2 : ParseR l b lb T M) : a = b ∧ la = lb ∧ (a = 0 → S = T ∧ L = M) := by
  rcases h with ⟨h0, h1, h3⟩ | ⟨h0, h1, h3, h4⟩ | ⟨h0, h1, h3, h4, h5, h6, h7⟩ <;> rcases h2 with ⟨k0, k1, k3⟩ | ⟨k0, k1, k3, k4⟩ | ⟨k0, k1, k3, k4, k5, k6, k7⟩
  · exact ⟨by omega, by omega, fun e => by omega⟩
  · exact absurd h0 k0
  · exact absurd h0 k0
  · exact absurd k0 h0
  · exact ⟨by omega, by omega, fun e => absurd (h3.symm.trans e) h1⟩
  · exact absurd k1 h1
  · exact absurd k0 h0
  · exact absurd h1 k1
  · have hS : S = T := h3.trans k3.symm
    subst hS
    have hL : L = M := rise_eq h4 k4 (fun x => (h5 x).trans (k5 x).symm)
    subst hL
    exact ⟨h6.trans k6.symm, h7.trans k7.symm, fun _ => ⟨rfl, rfl⟩⟩
end Go.Proofs.YthhepebkfokddaaGreatDoor
/- The document's answer for props: what it keeps while lines come, in memory. -/
namespace Go.Proofs.YthhepebkfokddaaGreatDoor
open Go Go.RowKit Go.Kt Go.Kt.Rg Go.Maps

def rfE (l : List (Nat × Nat × Int)) : List Value := l.flatMap fun r => [.int .i64 r.1, .int .i64 r.2.1, .int .i64 r.2.2]
theorem rfE_snoc (l : List (Nat × Nat × Int)) (r : Nat × Nat × Int) : rfE (l ++ [r]) = rfE l ++ [.int .i64 r.1, .int .i64 r.2.1, .int .i64 r.2.2] := by simp [rfE]
def lnE (l : List (Ln3 × Value)) : List Value := l.flatMap fun r => [.int .i64 (r.1.1 : Nat), r.2, .int .i64 (r.1.2.2 : Nat)]
theorem lnE_snoc (l : List (Ln3 × Value)) (r : Ln3 × Value) : lnE (l ++ [r]) = lnE l ++ [.int .i64 (r.1.1 : Nat), r.2, .int .i64 (r.1.2.2 : Nat)] := by simp [lnE]
theorem rfE_at {l : List (Nat × Nat × Int)} {i : Nat} {r : Nat × Nat × Int} (h : l[i]? = some r) : (rfE l)[i * 3]? = some (.int .i64 r.1) ∧ (rfE l)[i * 3 + 1]? = some (.int .i64 r.2.1) ∧ (rfE l)[i * 3 + 2]? = some (.int .i64 r.2.2) := by
  induction l generalizing i with
  | nil => simp at h
  | cons x t ih =>
    unfold rfE
    rw [List.flatMap_cons]
    cases i with
    | zero => simp at h; subst h; exact ⟨rfl, rfl, rfl⟩
    | succ i =>
      have := ih (i := i) (by simpa using h)
      rw [show (i + 1) * 3 = i * 3 + 3 by omega]
      exact this
theorem lnE_at {l : List (Ln3 × Value)} {i : Nat} {r : Ln3 × Value} (h : l[i]? = some r) : (lnE l)[i * 3]? = some (.int .i64 (r.1.1 : Nat)) ∧ (lnE l)[i * 3 + 1]? = some r.2 ∧ (lnE l)[i * 3 + 2]? = some (.int .i64 (r.1.2.2 : Nat)) := by
  induction l generalizing i with
  | nil => simp at h
  | cons x t ih =>
    unfold lnE
    rw [List.flatMap_cons]
    cases i with
    | zero => simp at h; subst h; exact ⟨rfl, rfl, rfl⟩
    | succ i =>
      have := ih (i := i) (by simpa using h)
      rw [show (i + 1) * 3 = i * 3 + 3 by omega]
      exact this
def ToV (ρ : Nat → Nat) (v : Value) (l : List Nat) (w : World) : Prop :=
  ∃ ao cap, v = .slice ao l.length cap ∧ (l = [] ∨ ∃ b, ao = some ⟨b, 0, none⟩ ∧ ρ b = 0 ∧ b < w.heap.size ∧ ∀ (i : Nat) (x : Nat), l[i]? = some x → w.cell? ⟨b, i, none⟩ = some (.int .i32 (x : Nat)))
theorem ToV.keep {ρ : Nat → Nat} {v : Value} {l : List Nat} {X : Nat → Prop} {A B : World} (h : ToV ρ v l A) (hk : Keep X A B) (hX : ∀ b, X b → ρ b ≠ 0) : ToV ρ v l B := by
  obtain ⟨ao, cap, rfl, h⟩ := h
  refine ⟨ao, cap, rfl, ?_⟩
  rcases h with h | ⟨b, h1, h2, h3, h4⟩
  · exact .inl h
  · exact .inr ⟨b, h1, h2, Nat.lt_of_lt_of_le h3 hk.size, fun i x hx => hk.cell (h4 i x hx) (fun e => hX _ e h2)⟩
theorem ToV.role {ρ ρ' : Nat → Nat} {v : Value} {l : List Nat} {w : World} (h : ToV ρ v l w) (e : ∀ b, b < w.heap.size → ρ' b = ρ b) : ToV ρ' v l w := by
  obtain ⟨ao, cap, rfl, h⟩ := h
  refine ⟨ao, cap, rfl, ?_⟩
  rcases h with h | ⟨b, h1, h2, h3, h4⟩
  · exact .inl h
  · exact .inr ⟨b, h1, (e b h3).trans h2, h3, h4⟩
theorem ToV.sl {ρ : Nat → Nat} {v : Value} {l : List Nat} {w : World} (h : ToV ρ v l w) : Sl .i32 w v (toZ l) := by
  obtain ⟨ao, cap, rfl, h⟩ := h
  rw [← toZ_len l]
  refine ⟨ao, cap, rfl, ?_⟩
  rcases h with h | ⟨b, h1, h2, h3, h4⟩
  · exact .inl (by rw [h]; rfl)
  · refine .inr ⟨b, 0, h1, fun i x hx => ?_⟩
    rw [Nat.zero_add]
    unfold toZ at hx
    rw [List.getElem?_map] at hx
    cases hl : l[i]? with
    | none => rw [hl] at hx; cases hx
    | some y =>
      rw [hl] at hx
      have := h4 i y hl
      rw [this]
      exact congrArg some (by rw [← Option.some.inj hx])
def LnO (ρ : Nat → Nat) (k : Nat) (v : Value) (l : List Ln3) (w : World) : Prop :=
  ∃ z : List (Ln3 × Value), z.map (·.1) = l ∧ OwnS (fun b => ρ b = k) 120 3 v l.length (lnE z) w ∧ ∀ p ∈ z, ToV ρ p.2 p.1.2.1 w
theorem LnO.keep {ρ : Nat → Nat} {k : Nat} {v : Value} {l : List Ln3} {X : Nat → Prop} {A B : World} (h : LnO ρ k v l A) (hk : Keep X A B) (hX : ∀ b, X b → ρ b ≠ k ∧ ρ b ≠ 0) : LnO ρ k v l B := by
  obtain ⟨z, h1, h2, h3⟩ := h
  exact ⟨z, h1, h2.keep hk (fun b hb => (hX b hb).1), fun p hp => (h3 p hp).keep hk (fun b hb => (hX b hb).2)⟩
theorem LnO.role {ρ ρ' : Nat → Nat} {k : Nat} {v : Value} {l : List Ln3} {w : World} (h : LnO ρ k v l w) (e : ∀ b, b < w.heap.size → ρ' b = ρ b) : LnO ρ' k v l w := by
  obtain ⟨z, h1, h2, h3⟩ := h
  exact ⟨z, h1, own_role h2 e, fun p hp => (h3 p hp).role e⟩
theorem rf_of {Y : Nat → Prop} {v : Value} {l : List (Nat × Nat × Int)} {w : World} (h : OwnS Y 154 3 v l.length (rfE l) w) : RfW w v l := by
  rcases h.shape with ⟨h1, h0⟩ | ⟨g, cap, h1, _⟩
  · exact ⟨none, 0, by rw [h1, h0], .inl (List.length_eq_zero_iff.1 h0)⟩
  · subst h1
    exact ⟨_, cap, rfl, .inr ⟨g, rfl, fun i r hr => ⟨h.atN (rfE_at hr).1, h.atN (rfE_at hr).2.1, h.atN (rfE_at hr).2.2⟩⟩⟩
theorem LnO.lf {ρ : Nat → Nat} {k : Nat} {v : Value} {l : List Ln3} {w : World} (h : LnO ρ k v l w) : LfW w v l := by
  obtain ⟨z, h1, h2, h3⟩ := h
  rcases h2.shape with ⟨e, h0⟩ | ⟨g, cap, e, _⟩
  · exact ⟨none, 0, by rw [e, h0], .inl (List.length_eq_zero_iff.1 h0)⟩
  · subst e
    refine ⟨_, cap, rfl, .inr ⟨g, rfl, fun i r hr => ?_⟩⟩
    obtain ⟨p, hp, rfl⟩ : ∃ p, z[i]? = some p ∧ p.1 = r := by
      rw [← h1, List.getElem?_map] at hr
      cases hz : z[i]? with
      | none => rw [hz] at hr; cases hr
      | some p => rw [hz] at hr; exact ⟨p, rfl, Option.some.inj hr⟩
    obtain ⟨q1, q2, q3⟩ := lnE_at hp
    exact ⟨h2.atN q1, ⟨p.2, h2.atN q2, (h3 p (List.mem_of_getElem? hp)).sl⟩, h2.atN q3⟩
structure PxW (B0 : Nat) (ρ : Nat → Nat) (g : Nat) (X : XdS) (cv kv fv dv : Value) (w : World) : Prop where
  hr : ∀ b, ρ b ≠ 0 → B0 ≤ b
  hB : B0 ≤ w.heap.size
  rg : ρ g = 1
  cell : w.heap[g]? = some (.cells #[cv, kv, fv, dv] 115 (0, 0))
  c : OwnS (fun b => ρ b = 2) 154 3 cv X.cs.length (rfE X.cs) w
  k : OwnS (fun b => ρ b = 3) 154 3 kv X.ks.length (rfE X.ks) w
  f : LnO ρ 4 fv X.fl w
  d : LnO ρ 5 dv X.dl w
variable {B0 g : Nat} {ρ : Nat → Nat} {X : XdS} {cv kv fv dv : Value} {w w' : World}
theorem PxW.gl (h : PxW B0 ρ g X cv kv fv dv w) : g < w.heap.size := (Array.getElem?_eq_some_iff.1 h.cell).1
theorem PxW.role {ρ' : Nat → Nat} (h : PxW B0 ρ g X cv kv fv dv w) (e : ∀ b, b < w.heap.size → ρ' b = ρ b) (h0 : ∀ b, w.heap.size ≤ b → ρ' b ≠ 0 → B0 ≤ b) : PxW B0 ρ' g X cv kv fv dv w where
  hr b hb := by
    by_cases h1 : b < w.heap.size
    · exact h.hr b (by rw [← e b h1]; exact hb)
    · exact h0 b (by omega) hb
  hB := h.hB
  rg := (e _ h.gl).trans h.rg
  cell := h.cell
  c := own_role h.c e
  k := own_role h.k e
  f := h.f.role e
  d := h.d.role e
theorem PxW.role_more (h : PxW B0 ρ g X cv kv fv dv w) (k : Nat) : PxW B0 (moreR w ρ k) g X cv kv fv dv w :=
  h.role (fun b hb => moreR_old b hb) (fun _ hb _ => Nat.le_trans h.hB hb)
theorem PxW.below (h : PxW B0 ρ g X cv kv fv dv w) (hb : Below w.heap.size w w') : PxW B0 ρ g X cv kv fv dv w' where
  hr := h.hr
  hB := Nat.le_trans h.hB hb.size
  rg := h.rg
  cell := (hb.block g h.gl).trans h.cell
  c := h.c.keep (X := fun _ => False) (Keep.of_all hb) (fun _ h => h.elim)
  k := h.k.keep (X := fun _ => False) (Keep.of_all hb) (fun _ h => h.elim)
  f := h.f.keep (X := fun _ => False) (Keep.of_all hb) (fun _ h => h.elim)
  d := h.d.keep (X := fun _ => False) (Keep.of_all hb) (fun _ h => h.elim)
theorem PxW.rp (h : PxW B0 ρ g X cv kv fv dv w) : RpW g X.cs X.ks fv dv w := ⟨cv, kv, h.cell, rf_of h.c, rf_of h.k⟩
theorem PxW.newc (h : PxW B0 ρ g X cv kv fv dv w) {v' : Value} {l' : List (Nat × Nat × Int)} (hk : Keep (fun b => b = g ∨ cv.ownBlock = some b) w w') (hc : w'.heap[g]? = some (.cells #[v', kv, fv, dv] 115 (0, 0)))
    (ho : OwnS (fun b => (cv.ownBlock = some b ∨ w.heap.size ≤ b) ∧ b ≠ g) 154 3 v' l'.length (rfE l') w') : PxW B0 (moreR w ρ 2) g { X with cs := l' } v' kv fv dv w' := by
  have H := h.role_more 2
  have hX : ∀ b, (b = g ∨ cv.ownBlock = some b) → moreR w ρ 2 b = 1 ∨ moreR w ρ 2 b = 2 := fun b hb => by
    rcases hb with rfl | hb
    · exact .inl H.rg
    · exact .inr (H.c.2 b hb)
  exact {
    hr := H.hr, hB := Nat.le_trans h.hB hk.size, rg := H.rg, cell := hc
    c := ho.weaken (fun b hb => by
      rcases hb.1 with h1 | h1
      · exact H.c.2 b h1
      · exact moreR_new b h1)
    k := H.k.keep hk (fun b hb h3 => by have := hX b hb; omega)
    f := H.f.keep hk (fun b hb => by have := hX b hb; omega)
    d := H.d.keep hk (fun b hb => by have := hX b hb; omega) }
theorem PxW.newk (h : PxW B0 ρ g X cv kv fv dv w) {v' : Value} {l' : List (Nat × Nat × Int)} (hk : Keep (fun b => b = g ∨ kv.ownBlock = some b) w w') (hc : w'.heap[g]? = some (.cells #[cv, v', fv, dv] 115 (0, 0)))
    (ho : OwnS (fun b => (kv.ownBlock = some b ∨ w.heap.size ≤ b) ∧ b ≠ g) 154 3 v' l'.length (rfE l') w') : PxW B0 (moreR w ρ 3) g { X with ks := l' } cv v' fv dv w' := by
  have H := h.role_more 3
  have hX : ∀ b, (b = g ∨ kv.ownBlock = some b) → moreR w ρ 3 b = 1 ∨ moreR w ρ 3 b = 3 := fun b hb => by
    rcases hb with rfl | hb
    · exact .inl H.rg
    · exact .inr (H.k.2 b hb)
  exact {
    hr := H.hr, hB := Nat.le_trans h.hB hk.size, rg := H.rg, cell := hc
    k := ho.weaken (fun b hb => by
      rcases hb.1 with h1 | h1
      · exact H.k.2 b h1
      · exact moreR_new b h1)
    c := H.c.keep hk (fun b hb h3 => by have := hX b hb; omega)
    f := H.f.keep hk (fun b hb => by have := hX b hb; omega)
    d := H.d.keep hk (fun b hb => by have := hX b hb; omega) }
theorem PxW.newf (h : PxW B0 ρ g X cv kv fv dv w) {v' u : Value} {x : Ln3} (z : List (Ln3 × Value)) (hz : z.map (·.1) = X.fl) (hto : ∀ p ∈ z, ToV ρ p.2 p.1.2.1 w) (hu : ToV ρ u x.2.1 w) (hk : Keep (fun b => b = g ∨ fv.ownBlock = some b) w w') (hc : w'.heap[g]? = some (.cells #[cv, kv, v', dv] 115 (0, 0)))
    (ho : OwnS (fun b => (fv.ownBlock = some b ∨ w.heap.size ≤ b) ∧ b ≠ g) 120 3 v' (z.length + 1) (lnE (z ++ [(x, u)])) w') : PxW B0 (moreR w ρ 4) g { X with fl := X.fl ++ [x] } cv kv v' dv w' := by
  have H := h.role_more 4
  have hf : ∀ b, fv.ownBlock = some b → moreR w ρ 4 b = 4 := fun b hb => by
    obtain ⟨_, _, h2, _⟩ := H.f
    exact h2.2 b hb
  have hX : ∀ b, (b = g ∨ fv.ownBlock = some b) → moreR w ρ 4 b = 1 ∨ moreR w ρ 4 b = 4 := fun b hb => by
    rcases hb with rfl | hb
    · exact .inl H.rg
    · exact .inr (hf b hb)
  have hto' : ∀ {v : Value} {l : List Nat}, ToV ρ v l w → ToV (moreR w ρ 4) v l w' := fun h1 => (h1.role (fun b hb => moreR_old b hb)).keep hk (fun b hb => by have := hX b hb; omega)
  exact {
    hr := H.hr, hB := Nat.le_trans h.hB hk.size, rg := H.rg, cell := hc
    c := H.c.keep hk (fun b hb h3 => by have := hX b hb; omega)
    k := H.k.keep hk (fun b hb h3 => by have := hX b hb; omega)
    f := ⟨z ++ [(x, u)], by simp [hz], by
      have hl : (X.fl ++ [x]).length = z.length + 1 := by simp [← hz]
      simp only [hl]
      exact ho.weaken (fun b hb => by
        rcases hb.1 with h1 | h1
        · exact hf b h1
        · exact moreR_new b h1), fun p hp => by
        rcases List.mem_append.1 hp with hp | hp
        · exact hto' (hto p hp)
        · rw [List.mem_singleton] at hp
          subst hp
          exact hto' hu⟩
    d := H.d.keep hk (fun b hb => by have := hX b hb; omega) }
theorem PxW.newd (h : PxW B0 ρ g X cv kv fv dv w) {v' u : Value} {x : Ln3} (z : List (Ln3 × Value)) (hz : z.map (·.1) = X.dl) (hto : ∀ p ∈ z, ToV ρ p.2 p.1.2.1 w) (hu : ToV ρ u x.2.1 w) (hk : Keep (fun b => b = g ∨ dv.ownBlock = some b) w w') (hc : w'.heap[g]? = some (.cells #[cv, kv, fv, v'] 115 (0, 0)))
    (ho : OwnS (fun b => (dv.ownBlock = some b ∨ w.heap.size ≤ b) ∧ b ≠ g) 120 3 v' (z.length + 1) (lnE (z ++ [(x, u)])) w') : PxW B0 (moreR w ρ 5) g { X with dl := X.dl ++ [x] } cv kv fv v' w' := by
  have H := h.role_more 5
  have hf : ∀ b, dv.ownBlock = some b → moreR w ρ 5 b = 5 := fun b hb => by
    obtain ⟨_, _, h2, _⟩ := H.d
    exact h2.2 b hb
  have hX : ∀ b, (b = g ∨ dv.ownBlock = some b) → moreR w ρ 5 b = 1 ∨ moreR w ρ 5 b = 5 := fun b hb => by
    rcases hb with rfl | hb
    · exact .inl H.rg
    · exact .inr (hf b hb)
  have hto' : ∀ {v : Value} {l : List Nat}, ToV ρ v l w → ToV (moreR w ρ 5) v l w' := fun h1 => (h1.role (fun b hb => moreR_old b hb)).keep hk (fun b hb => by have := hX b hb; omega)
  exact {
    hr := H.hr, hB := Nat.le_trans h.hB hk.size, rg := H.rg, cell := hc
    c := H.c.keep hk (fun b hb h3 => by have := hX b hb; omega)
    k := H.k.keep hk (fun b hb h3 => by have := hX b hb; omega)
    f := H.f.keep hk (fun b hb => by have := hX b hb; omega)
    d := ⟨z ++ [(x, u)], by simp [hz], by
      have hl : (X.dl ++ [x]).length = z.length + 1 := by simp [← hz]
      simp only [hl]
      exact ho.weaken (fun b hb => by
        rcases hb.1 with h1 | h1
        · exact hf b h1
        · exact moreR_new b h1), fun p hp => by
        rcases List.mem_append.1 hp with hp | hp
        · exact hto' (hto p hp)
        · rw [List.mem_singleton] at hp
          subst hp
          exact hto' hu⟩ }
def PxOut (B0 g N no : Nat) (E : RdS) (w : World) (e : Ending) (w' : World) : Prop :=
  e = .returned (.int .i64 (no : Nat)) ∧ Below B0 w w' ∧ ∃ ρ X cv kv fv dv, PxW B0 ρ g X cv kv fv dv w' ∧ (no = 0 → XRel X E) ∧ X.fl.length ≤ N ∧ X.dl.length ≤ N
end Go.Proofs.YthhepebkfokddaaGreatDoor
