/- Parts of the proof of what the last text says. -/
import Derived.Test.YtmpjlenfnlijfaaGreatDoorCm3
import Derived.StillTailTactics
import Derived.Deep.QuietTactic
import Derived.BigQuiet
import Derived.Test.YtmpjlenfnlijfaaGreatDoorCm2
import Derived.Shelf.LaysM
import Derived.Shelf.LaysC
import Derived.Shelf.Small.Wraps
import Derived.Shelf.Strconv.ToError
import Derived.Shelf.Strconv.ToErrorRange
import Derived.Shelf.Strconv.Lower
import Derived.Shelf.Strings.Search2
import Derived.Shelf.Strings.Prefix
import Derived.Test.YtmpjlenfnlijfaaGreatDoorProg
import Derived.Lib.AtoiErrMem
import Derived.Laws.Strings3
import Derived.Laws.Closers25
import Derived.Laws.Closers25b
import Derived.BigCall
import Derived.BigGuard
import Derived.Lib.PathFns
import Derived.RegionTactic
import Derived.ChangeAlike
import Derived.BigRegion
import Derived.WalkLawsBesides
import Derived.Deep.RegionWith
import Derived.Test.YtmpjlenfnlijfaaGreatDoorCm1
import Derived.LaidHandle
import Derived.Deep.SlicePairs
import Derived.ChangeArms
import Derived.Carry
/- Join, Of. -/
namespace Go.Proofs.YtmpjlenfnlijfaaGreatDoor
open Go Go.RowKit Go.Kt Go.Kt.Rg

theorem slr_slice {W : World} {v : Value} {l : List Run} (h : SlR W v l) : ∃ ao cap, v = .slice ao l.length cap := by
  obtain ⟨ao, cap, rfl, _⟩ := h
  exact ⟨_, _, rfl⟩

set_option maxRecDepth 100000 in
set_option maxHeartbeats 2000000 in
theorem rjoin_any (s t : List Run) (b c : Nat) (w : World) (h : SetAt s b w) (k : SetAt t c w) (hs : Canon s) (ht : Canon t) :
    Calls Tryz.prog 17 #[ptrV b, ptrV c] w (MadeS (joinL s t) w) := by
  have hlen := canon_len hs (Int.le_refl _)
  have hlen2 := canon_len ht (Int.le_refl _)
  have hl : s.length ≤ 1112192 := by unfold allN at hlen; omega
  have hl2 : t.length ≤ 1112192 := by unfold allN at hlen2; omega
  obtain ⟨v1, h1, h2⟩ := h
  obtain ⟨v2, k1, k2⟩ := k
  have l1 : b < w.heap.size := lt_of_cell h1
  have l2 : c < w.heap.size := lt_of_cell k1
  obtain ⟨a1, d1, rfl⟩ := slr_slice h2
  obtain ⟨a2, d2, rfl⟩ := slr_slice k2
  obtain ⟨n1, hn1⟩ : ∃ n, s.length = n := ⟨_, rfl⟩
  obtain ⟨n2, hn2⟩ : ∃ n, t.length = n := ⟨_, rfl⟩
  rw [hn1] at h1 h2 hl
  rw [hn2] at k1 k2 hl2
  obtain ⟨nL, hnL⟩ : ∃ nL, (s ++ t).length = nL := ⟨_, rfl⟩
  have CC : Hid (Calls Tryz.prog 70 #[.slice (some ⟨w.heap.size, 0, none⟩) 2 2] ((w.alloc (.cells #[.slice a1 n1 d1, .slice a2 n2 d2] 78)).drew) fun e w' => ∃ ao cp, e = .returned (.slice ao nL cp) ∧ OwnS (fun b => w.heap.size ≤ b) 85 2 (.slice ao nL cp) nL (encR (s ++ t)) w' ∧ Below w.heap.size w w') := Lib.hid (by
    have hbA : Below w.heap.size w ((w.alloc (.cells #[.slice a1 n1 d1, .slice a2 n2 d2] 78)).drew) := below_drewN ((Below.refl _ w).alloc (Nat.le_refl _) _) 1
    have hh : ((w.alloc (.cells #[.slice a1 n1 d1, .slice a2 n2 d2] 78)).drew).heap[w.heap.size]? = _ := World.alloc_heap_new w (.cells #[.slice a1 n1 d1, .slice a2 n2 d2] 78)
    rw [← hnL]
    refine (rconcat_any s t _ _ w.heap.size _ (by rw [Lib.cell_of_heap hh]; rfl) (by rw [Lib.cell_of_heap hh]; rfl) (h2.below hbA) (k2.below hbA) (by rw [hn1]; exact hl) (by rw [hn2]; exact hl2)).mono ?_
    rintro e w' ⟨v, rfl, ho, hb⟩
    obtain ⟨ao, cp, rfl⟩ := own_slice ho
    exact ⟨ao, cp, rfl, ho.weaken (fun b hb => Nat.le_trans hbA.size hb), hbA.trans (hb.mono hbA.size)⟩)
  have CM : Hid (∀ (ao : Option Addr) (cp : Nat) (V : World), OwnS (fun b => w.heap.size ≤ b) 85 2 (.slice ao nL cp) nL (encR (s ++ t)) V → Below w.heap.size w V →
      Calls Tryz.prog 29 #[.slice ao nL cp] V fun e w' => ∃ v, e = .returned v ∧ SlR w' v (joinL s t) ∧ Below w.heap.size w w') := Lib.hid fun ao cp V ho hb => by
    refine (rmelted_any (s ++ t) ao _ cp V ho hnL.symm (by rw [← hnL, List.length_append, hn1, hn2]; omega) (hs.fit.append ht.fit)).mono ?_
    rintro e w' ⟨ap, m, cap, rfl, hm, hown, hk⟩
    exact ⟨_, rfl, slr_of_own hown hm, hb.trans (hk.below hb.size fun b h => ho.2 b h)⟩
  have FIN : Hid (∀ (v : Value) (V : World), SlR V v (joinL s t) → Below w.heap.size w V → MadeS (joinL s t) w (.returned (.pointer (some ⟨V.heap.size, 0, none⟩))) (V.alloc (.cells #[v] 88))) :=
    Lib.hid fun v V hS hb => ⟨V.heap.size, rfl, set_box hS, hb.alloc hb.size _⟩
  clear h2 k2 hs ht hlen hlen2 hn1 hn2 hnL
  go_enter Tryz.func17, Tryz.ntmps17
  go_wp2
  go_still_tail 8, (by kernel_rfl)
  go_wp2_with fail
  refine CC.out.mono ?_
  rintro e w1 ⟨ao, cp, rfl, ho, hb⟩
  have C2 := Lib.hid (CM.out _ _ _ ho hb)
  clear ho hb
  go_wp2_with fail
  refine C2.out.mono ?_
  rintro e w2 ⟨v, rfl, hS, hb2⟩
  obtain ⟨a3, d3, rfl⟩ := slr_slice hS
  have HF := Lib.hid (FIN.out _ _ hS hb2)
  clear hS hb2
  go_wp2_with fail
  go_ret
  exact HF.out

/-- A slice of spans that is read. -/
def SpG (W : World) (v : Value) (l : List (Int × Int)) : Prop :=
  ∃ ao cap, v = .slice ao l.length cap ∧ (l = [] ∨ ∃ g off, ao = some ⟨g, off, none⟩ ∧ ∀ (i : Nat) (x : Int × Int), l[i]? = some x → W.cell? ⟨g, off + i * 2, none⟩ = some (.int .i32 x.1) ∧ W.cell? ⟨g, off + i * 2 + 1, none⟩ = some (.int .i32 x.2))
end Go.Proofs.YtmpjlenfnlijfaaGreatDoor
/- glossaryref0.SameSpans of two equal slices. -/
namespace Go.Proofs.YtmpjlenfnlijfaaGreatDoor
open Go Go.RowKit Go.Kt Go.Kt.Rg

theorem encSp_get : ∀ (l : List (Int × Int)) (i : Nat) (x : Int × Int), l[i]? = some x → (encSp l)[i * 2]? = some (.int .i32 x.1) ∧ (encSp l)[i * 2 + 1]? = some (.int .i32 x.2)
  | [], i, x, h => by simp at h
  | y :: t, 0, x, h => by simp at h; subst h; exact ⟨rfl, rfl⟩
  | y :: t, i + 1, x, h => by
    have := encSp_get t i x (by simpa using h)
    have e : encSp (y :: t) = .int .i32 y.1 :: .int .i32 y.2 :: encSp t := rfl
    rw [e, show (i + 1) * 2 = i * 2 + 1 + 1 by omega]
    exact ⟨by simpa using this.1, by simpa using this.2⟩

theorem spg_of_own {Y : Nat → Prop} {v : Value} {n : Nat} {l : List (Int × Int)} {W : World} (h : OwnS Y 39 2 v n (encSp l) W) (hn : n = l.length) : SpG W v l := by
  subst hn
  rcases h.1.2 with ⟨hv, hn⟩ | ⟨g, cap, cur, hv, rest⟩
  · exact ⟨none, 0, by rw [hv, hn], .inl (List.eq_nil_of_length_eq_zero hn)⟩
  · refine ⟨_, cap, hv, .inr ⟨g, 0, rfl, fun i x hx => ?_⟩⟩
    subst hv
    have e := encSp_get l i x hx
    have c1 := h.1.cells (g := g) rfl _ _ e.1
    have c2 := h.1.cells (g := g) rfl _ _ e.2
    rw [Addr.add_lit] at c1 c2
    rw [Nat.zero_add] at c1 c2 ⊢
    exact ⟨c1, c2⟩

theorem SpG.below {A B : World} {v : Value} {l : List (Int × Int)} (h : SpG A v l) (hb : Below A.heap.size A B) : SpG B v l := by
  obtain ⟨ao, cap, rfl, h⟩ := h
  refine ⟨ao, cap, rfl, ?_⟩
  rcases h with h | ⟨g, off, rfl, h⟩
  · exact .inl h
  · exact .inr ⟨g, off, rfl, fun i x hx => ⟨(hb.cell (lt_of_cell (h i x hx).1)).trans (h i x hx).1, (hb.cell (lt_of_cell (h i x hx).2)).trans (h i x hx).2⟩⟩

set_option maxRecDepth 100000 in
set_option maxHeartbeats 2000000 in
theorem sameSpans_yes (v1 v2 : Value) (l : List (Int × Int)) (w : World) (h1 : SpG w v1 l) (h2 : SpG w v2 l) (m1 : l.length ≤ 4611686018427387904) :
    Calls Tryz.prog 36 #[v1, v2] w fun e w' => e = .returned (.bool true) ∧ Drawn w w' := by
  obtain ⟨a1, c1, rfl, h1⟩ := h1
  obtain ⟨a2, c2, rfl, h2⟩ := h2
  obtain ⟨n, hn⟩ : ∃ n, l.length = n := ⟨_, rfl⟩
  rw [hn] at m1
  have HN := Lib.hid hn
  have H1 := Lib.hid h1
  have H2 := Lib.hid h2
  have hne : ((n : Int) != n) = false := by simp
  rw [hn]
  clear h1 h2 hn
  go_enter Tryz.func36, Tryz.ntmps36
  go_wp2
  go_loopw [5] (fun v wr => ∃ k : Nat, k ≤ n ∧ v = .int .i64 k ∧ Drawn w wr) (fun v _ => n - (RowKit.intOf v).toNat)
  case atStart => exact ⟨0, by omega, rfl, Drawn.refl _⟩
  case round =>
    obtain ⟨k, hk, rfl, hb⟩ := hrel
    by_cases hlt : k < n
    · obtain ⟨x, e1⟩ : ∃ x, l[k]? = some x := ⟨_, List.getElem?_eq_getElem (by rw [HN.out]; exact hlt)⟩
      obtain ⟨g1, o1, rfl, k1⟩ : ∃ g off, a1 = some ⟨g, off, none⟩ ∧ ∀ (i : Nat) (x : Int × Int), l[i]? = some x → w.cell? ⟨g, off + i * 2, none⟩ = some (.int .i32 x.1) ∧ w.cell? ⟨g, off + i * 2 + 1, none⟩ = some (.int .i32 x.2) := by
        rcases H1.out with h | h
        · subst h; simp at e1
        · exact h
      obtain ⟨g2, o2, rfl, k2⟩ : ∃ g off, a2 = some ⟨g, off, none⟩ ∧ ∀ (i : Nat) (x : Int × Int), l[i]? = some x → w.cell? ⟨g, off + i * 2, none⟩ = some (.int .i32 x.1) ∧ w.cell? ⟨g, off + i * 2 + 1, none⟩ = some (.int .i32 x.2) := by
        rcases H2.out with h | h
        · subst h; simp at e1
        · exact h
      obtain ⟨p1, p2⟩ := k1 k x e1
      obtain ⟨p3, p4⟩ := k2 k x e1
      have hlt' : (k : Int) < n := by omega
      have q : ∀ V, Drawn w V → V.cell? ⟨g1, o1 + k * 2, none⟩ = some (.int .i32 x.1) ∧ V.cell? ⟨g1, o1 + k * 2 + 1, none⟩ = some (.int .i32 x.2) ∧ V.cell? ⟨g2, o2 + k * 2, none⟩ = some (.int .i32 x.1) ∧ V.cell? ⟨g2, o2 + k * 2 + 1, none⟩ = some (.int .i32 x.2) :=
        fun V hV => ⟨(hV.cell _).trans p1, (hV.cell _).trans p2, (hV.cell _).trans p3, (hV.cell _).trans p4⟩
      obtain ⟨q1, q2, q3, q4⟩ := q wr hb
      have hxx : (x.1 != x.1) = false := by simp
      have hxy : (x.2 != x.2) = false := by simp
      clear k1 k2 p1 p2 p3 p4 q e1
      go_wp2
      go_quiet (fail)
      go_wp2
      go_roundw
      case rel => exact ⟨k + 1, by omega, by go_num, hb.more _⟩
      case measure => simp [RowKit.intOf]; omega
    · have hke : k = n := by omega
      clear hke
      have hlt' : ¬ (k : Int) < n := by omega
      go_wp2
      go_ret
      exact ⟨rfl, hb⟩
end Go.Proofs.YtmpjlenfnlijfaaGreatDoor
/- The law's own: same. -/
namespace Go.Proofs.YtmpjlenfnlijfaaGreatDoor
open Go Go.RowKit Go.Kt Go.Kt.Rg

/-- The tables of layer 3 lie. -/
def REnv (w : World) : Prop := PTab w ∧ BTab w ∧ 7 < w.heap.size
theorem REnv.below {w w' : World} (h : REnv w) (hb : Below w.heap.size w w') : REnv w' :=
  ⟨h.1.next hb, fun k hk => (hb.cell (p := ⟨7, k, none⟩) h.2.2).trans (h.2.1 k hk), Nat.lt_of_lt_of_le h.2.2 hb.size⟩

end Go.Proofs.YtmpjlenfnlijfaaGreatDoor
/- What the listed variables of RangesLaws' row give the walk, and the world that its witness starts in. -/
namespace Go.Proofs.YtmpjlenfnlijfaaGreatDoor
open Go.Lib Go.Shelf Go.Kt.Bits
set_option maxRecDepth 100000

noncomputable def theLaid5 : List (String × DataW Unit) := [("math/bits.deBruijn32tab", Rows.laid_math_bits_deBruijn32tab), ("math/bits.deBruijn64tab", Rows.laid_math_bits_deBruijn64tab), ("internal/strconv.uint64pow10", Rows.laid_internal_strconv_uint64pow10), ("glossary/ranges.parts", Rows.laid_glossary_ranges_parts)]

def partL : List (Int × Int) := [(0, 55295), (57344, 1114111), (1114240, 1114367)]
theorem parts_eq : (Rows.laid_glossary_ranges_parts : DataW Unit) = .agg (partL.map fun x => .agg [.lit (.int .i32 x.1), .lit (.int .i32 x.2)]) := rfl
theorem ptab_of_reads {W : World} (h3 : VarReads Tryz.prog W "glossary/ranges.parts" (.agg (partL.map fun x => .agg [.lit (.int .i32 x.1), .lit (.int .i32 x.2)]))) : PTab W := by
  have c4 : Tryz.prog.cellsOf 21 = 1 := by kernel_rfl
  have c80 : Tryz.prog.cellsOf 39 = 2 := by kernel_rfl
  have key : ∀ (i : Nat) (x : Int × Int), i < 3 → partL[i]? = some x → W.cell? ⟨0, 2 * i, none⟩ = some (.int .i32 x.1) ∧ W.cell? ⟨0, 2 * i + 1, none⟩ = some (.int .i32 x.2) := by
    intro i x hi hx
    obtain ⟨g, t, cs, fuel, p, hg, hty, hvar, hd⟩ := h3
    obtain rfl := Option.some.inj ((show Tryz.prog.globalNamed "glossary/ranges.parts" = some 0 by kernel_rfl).symm.trans hg)
    obtain rfl := Option.some.inj ((show (Tryz.prog.globals[0]?).map (·.type) = some 137 by kernel_rfl).symm.trans hty)
    obtain ⟨fuel', d, q, hdi, he⟩ := array_elem Tryz.underlying137 hd i hi
    rw [List.getElem?_map, hx] at hdi
    simp only [Option.map_some, Option.some.injEq] at hdi
    subst hdi
    rw [c80] at he
    have eL : DataW.agg [DataW.lit (H := Unit) (Lit.int .i32 x.1), DataW.lit (Lit.int .i32 x.2)] = DataW.agg (([x.1, x.2] : List Int).map fun z => DataW.lit (Lit.int .i32 z)) := rfl
    rw [eL] at he
    have hcs := ints_of_struct Tryz.underlying39 (fun j f hj => by
      match j, hj with
      | 0, hj => simp at hj; subst hj; exact ⟨Tryz.underlying21, rfl, c4⟩
      | 1, hj => simp at hj; subst hj; exact ⟨Tryz.underlying21, rfl, c4⟩
      | j + 2, hj => simp at hj) (by rw [c80]; rfl) he
    have e0 := congrArg (·[0]?) hcs
    have e1 := congrArg (·[1]?) hcs
    simp only [List.getElem?_take, List.getElem?_drop] at e0 e1
    constructor
    · rw [World.var?_cell hg hvar (2 * i), ← Array.getElem?_toList]
      simpa [Nat.mul_comm] using e0
    · rw [World.var?_cell hg hvar (2 * i + 1), ← Array.getElem?_toList]
      simpa [Nat.mul_comm] using e1
  exact ⟨(key 0 _ (by decide) rfl).1, (key 0 _ (by decide) rfl).2, (key 1 _ (by decide) rfl).1, (key 1 _ (by decide) rfl).2, (key 2 _ (by decide) rfl).1, (key 2 _ (by decide) rfl).2⟩

theorem of_laid5 {W : World} (h : laidMetH Tryz.prog theLaid5 W) : REnv W := by
  have h' : laidMet Tryz.prog theLaid5 W := by rw [MakeChecks.laidMetH_plain _ _ _ (by kernel_rfl)] at h; exact h
  have hb := btab_of_reads (bruijn_eq ▸ laidMet.reads h' (.tail _ (.head _)))
  exact ⟨ptab_of_reads (parts_eq ▸ laidMet.reads h' (.tail _ (.tail _ (.tail _ (.head _))))), hb, Go.Kt.lt_of_cell (hb 0 (by decide))⟩

/-- The witness's world. -/
noncomputable def world5 (os : Os) : World := World.laidAll Tryz.prog os theLaid5
theorem world5_os (os : Os) : (world5 os).os = os := World.laidAll_os _ _ _
theorem laid_met5 (os : Os) (args : Array Value) : laidMetH Tryz.prog theLaid5 ((world5 os).forCall (fun _ _ => 0) ⟨#[], args, []⟩).memory := by
  rw [MakeChecks.laidMetH_plain _ _ _ (by kernel_rfl)]
  exact laidMet_laidAll _ (by kernel_rfl) (by kernel_rfl)
end Go.Proofs.YtmpjlenfnlijfaaGreatDoor
/- Hexadecimal digits read, a point, a span, a set read: mathematics. -/
namespace Go.Proofs.YtmpjlenfnlijfaaGreatDoor
open Go Go.RowKit Go.Kt Go.Kt.Rg

/-- What a digit is worth, to whatever base. -/
def digV (c : Nat) : Option Nat := if 48 ≤ c ∧ c ≤ 57 then some (c - 48) else if 97 ≤ (c ||| 32) ∧ (c ||| 32) ≤ 122 then some ((c ||| 32) - 87) else none
def puF (mx : Nat) : Nat → List UInt8 → Option Nat
  | n, [] => some n
  | n, c :: t => match digV c.toNat with
    | none => none
    | some d => if 16 ≤ d then none else if mx < n * 16 + d then none else puF mx (n * 16 + d) t
def puV (mx : Nat) (l : List UInt8) : Option Nat := if l = [] then none else puF mx 0 l
theorem puF_append (mx : Nat) : ∀ (a b : List UInt8) (n : Nat), puF mx n (a ++ b) = (puF mx n a).bind fun m => puF mx m b
  | [], b, n => rfl
  | c :: t, b, n => by
    simp only [List.cons_append, puF]
    cases digV c.toNat with
    | none => rfl
    | some d =>
      simp only
      by_cases h1 : 16 ≤ d
      · simp [h1]
      · by_cases h2 : mx < n * 16 + d
        · simp [h1, h2]
        · simp only [h1, h2, if_false]
          exact puF_append mx t b _
theorem digV_hex : ∀ d, d < 16 → digV (hexD d).toNat = some d := by decide
theorem hexD_ne : ∀ d, d < 16 → hexD d ≠ 125 ∧ hexD d ≠ 45 := by decide
theorem puF_hexF (mx : Nat) : ∀ (f u : Nat), u < 16 ^ (f + 1) → u ≤ mx → puF mx 0 (hexF f u) = some u
  | 0, u, h, hm => by
    have hu : u < 16 := by simpa using h
    have := digV_hex u hu
    simp only [hexF, Nat.mod_eq_of_lt hu, puF, this]
    rw [if_neg (by omega), if_neg (by omega)]
    simp
  | f + 1, u, h, hm => by
    unfold hexF
    by_cases h16 : u < 16
    · have := digV_hex u h16
      rw [if_pos h16]
      simp only [puF, this]
      rw [if_neg (by omega), if_neg (by omega)]
      simp
    · have hd : u / 16 < 16 ^ (f + 1) := by
        have : u < 16 ^ (f + 1) * 16 := by rw [← Nat.pow_succ]; exact h
        omega
      have h2 := digV_hex (u % 16) (Nat.mod_lt _ (by decide))
      rw [if_neg h16, puF_append, puF_hexF mx f (u / 16) hd (by omega)]
      simp only [Option.bind_some, puF, h2]
      rw [if_neg (by omega), if_neg (by omega)]
      congr 1
      omega
theorem hexF_ne : ∀ (f u : Nat), hexF f u ≠ []
  | 0, u => by simp [hexF]
  | f + 1, u => by unfold hexF; split <;> simp
theorem puV_hex (mx u : Nat) (h : u < 68719476736) (hm : u ≤ mx) : puV mx (hexL u) = some u := by
  unfold puV hexL
  rw [if_neg (hexF_ne 8 u)]
  exact puF_hexF mx 8 u (by simpa using h) hm
theorem hexF_clean : ∀ (f u : Nat), ∀ c ∈ hexF f u, c ≠ 125 ∧ c ≠ 45
  | 0, u, c, h => by
    simp only [hexF, List.mem_singleton] at h
    subst h; exact hexD_ne _ (Nat.mod_lt _ (by decide))
  | f + 1, u, c, h => by
    unfold hexF at h
    split at h
    · simp only [List.mem_singleton] at h
      subst h; exact hexD_ne _ (by omega)
    · rcases List.mem_append.1 h with h | h
      · exact hexF_clean f _ c h
      · simp only [List.mem_singleton] at h
        subst h; exact hexD_ne _ (Nat.mod_lt _ (by decide))
theorem puF_bd (mx : Nat) : ∀ (l : List UInt8) (n m : Nat), n ≤ mx → puF mx n l = some m → m ≤ mx
  | [], n, m, h, e => by simp only [puF, Option.some.injEq] at e; omega
  | c :: t, n, m, h, e => by
    simp only [puF] at e
    cases hd : digV c.toNat with
    | none => rw [hd] at e; cases e
    | some d =>
      rw [hd] at e
      simp only at e
      by_cases h1 : 16 ≤ d
      · rw [if_pos h1] at e; cases e
      · rw [if_neg h1] at e
        by_cases h2 : mx < n * 16 + d
        · rw [if_pos h2] at e; cases e
        · rw [if_neg h2] at e
          exact puF_bd mx t _ m (by omega) e
theorem puV_bd {mx m : Nat} {l : List UInt8} (e : puV mx l = some m) : m ≤ mx := by
  unfold puV at e
  split at e
  · cases e
  · exact puF_bd mx l 0 m (Nat.zero_le _) e

/-- What stands ahead of the first }, or all. -/
def upB (l : List UInt8) : List UInt8 := l.takeWhile (· != 125)
theorem upB_at (a b : List UInt8) (h : ∀ c ∈ a, c ≠ 125) : upB (a ++ 125 :: b) = a := by
  induction a with
  | nil => simp [upB]
  | cons x t ih =>
    have hx := h x (.head _)
    simp only [upB, List.cons_append, List.takeWhile_cons] at ih ⊢
    rw [if_pos (by simpa using hx)]
    rw [ih fun c hc => h c (.tail _ hc)]
/-- The point that a text may begin with. -/
def sptD (l : List UInt8) : Int × List UInt8 :=
  if [92, 117, 123].isPrefixOf l then (0, upB (l.drop 3)) else if [92, 120].isPrefixOf l then (1114112, (l.drop 2).take 2) else (0, [])
def sptR (l : List UInt8) : Int := match puV 2097151 (sptD l).2 with | none => -1 | some n => (sptD l).1 + (n : Int)
theorem sptD_bd (l : List UInt8) : (sptD l).1 = 0 ∨ (sptD l).1 = 1114112 := by
  unfold sptD
  split
  · exact .inl rfl
  · split
    · exact .inr rfl
    · exact .inl rfl
theorem sptR_bd (l : List UInt8) : -1 ≤ sptR l ∧ sptR l ≤ 3211263 := by
  unfold sptR
  have hb := sptD_bd l
  cases h : puV 2097151 (sptD l).2 with
  | none => simp
  | some n =>
    have := puV_bd h
    simp only
    omega
theorem num_true {r : Int} (h : (numB r).2 = true) : pntI (numB r).1 = r ∧ 0 ≤ r ∧ r ≤ 1114367 ∧ (1114111 < r → 1114240 ≤ r) := by
  unfold numB at h ⊢
  by_cases c1 : r < 0
  · rw [if_pos c1] at h; cases h
  rw [if_neg c1] at h ⊢
  by_cases c2 : r ≤ 55295
  · rw [if_pos c2]; unfold pntI; simp only; exact ⟨by rw [if_pos (by omega)], by omega, by omega, by omega⟩
  rw [if_neg c2] at h ⊢
  by_cases c3 : r < 57344
  · rw [if_pos c3] at h; cases h
  rw [if_neg c3] at h ⊢
  by_cases c4 : r ≤ 1114111
  · rw [if_pos c4]; unfold pntI; simp only; exact ⟨by rw [if_neg (by omega), if_pos (by omega)]; omega, by omega, by omega, by omega⟩
  rw [if_neg c4] at h ⊢
  by_cases c5 : r < 1114240
  · rw [if_pos c5] at h; cases h
  rw [if_neg c5] at h ⊢
  by_cases c6 : r ≤ 1114367
  · rw [if_pos c6]; unfold pntI; simp only; exact ⟨by rw [if_neg (by omega), if_neg (by omega), if_pos (by omega)]; omega, by omega, by omega, by omega⟩
  rw [if_neg c6] at h; cases h
theorem hex_two : ∀ u, u < 256 → 16 ≤ u → (hexL u).length = 2 := by decide +kernel
theorem sptR_print {r : Int} (h : (numB r).2 = true) (rest : List UInt8) : sptR (printP r ++ rest) = r := by
  obtain ⟨_, h0, h1, h2⟩ := num_true h
  unfold printP
  split
  · rename_i hr
    obtain ⟨u, hu⟩ : ∃ u : Nat, r - 1114112 = u := ⟨(r - 1114112).toNat, by omega⟩
    have h2' := h2 hr
    have hl := hex_two u (by omega) (by omega)
    have e : sptD ([92, 120] ++ hexL u ++ rest) = (1114112, hexL u) := by
      unfold sptD
      rw [if_neg (by simp [List.isPrefixOf]), if_pos (by simp [List.isPrefixOf])]
      simp only [List.cons_append, List.nil_append, List.drop_succ_cons, List.drop_zero]
      rw [List.take_append_of_le_length (by omega), List.take_of_length_le (by omega)]
    rw [hu, Int.toNat_natCast]
    unfold sptR
    rw [e]
    simp only
    rw [puV_hex _ _ (by omega) (by omega)]
    simp only
    omega
  · rename_i hr
    obtain ⟨u, hu⟩ : ∃ u : Nat, r = u := ⟨r.toNat, by omega⟩
    subst hu
    have e : sptD ([92, 117, 123] ++ hexL u ++ [125] ++ rest) = (0, hexL u) := by
      unfold sptD
      rw [if_pos (by simp [List.isPrefixOf])]
      simp only [List.append_assoc, List.cons_append, List.nil_append, List.drop_succ_cons, List.drop_zero]
      show (0, upB (hexF 8 u ++ 125 :: rest)) = (0, hexF 8 u)
      rw [upB_at _ _ fun c hc => (hexF_clean 8 u c hc).1]
    rw [Int.toNat_natCast]
    unfold sptR
    rw [e]
    simp only
    rw [puV_hex _ _ (by omega) (by omega)]
    simp only
    omega

/-- The point at the head of a text: its number, and how many bytes it has. -/
def ptAt (l : List UInt8) : Option (Int × Nat) := if (numB (sptR l)).2 && (printP (sptR l)).isPrefixOf l then some ((numB (sptR l)).1, (printP (sptR l)).length) else none
theorem ptAt_print {n : Int} (h0 : 0 ≤ n) (h1 : n < allN) (rest : List UInt8) : ptAt (printP (pntI n) ++ rest) = some (n, (printP (pntI n)).length) := by
  have hn := num_pnt h0 h1
  have e := sptR_print (r := pntI n) (by rw [hn]) rest
  unfold ptAt
  rw [e, hn, if_pos]
  rw [Bool.true_and]
  exact List.isPrefixOf_iff_prefix.2 ⟨rest, rfl⟩
theorem ptAt_sound {l : List UInt8} {n : Int} {k : Nat} (h : ptAt l = some (n, k)) : 0 ≤ n ∧ n < allN ∧ k = (printP (pntI n)).length ∧ ∃ rest, l = printP (pntI n) ++ rest := by
  unfold ptAt at h
  split at h
  · rename_i hc
    rw [Bool.and_eq_true] at hc
    obtain ⟨t, ht⟩ := List.isPrefixOf_iff_prefix.1 hc.2
    have e := num_true hc.1
    have hb := numB_bd (sptR l)
    simp only [Option.some.injEq, Prod.mk.injEq] at h
    obtain ⟨rfl, rfl⟩ := h
    rw [e.1]
    exact ⟨hb.1, hb.2, rfl, t, ht.symm⟩
  · cases h
theorem printP_ne (r : Int) : printP r ≠ [] := by unfold printP; split <;> simp
theorem printP_pos (r : Int) : 0 < (printP r).length := by
  rcases Nat.eq_zero_or_pos (printP r).length with h | h
  · exact absurd (List.eq_nil_of_length_eq_zero h) (printP_ne r)
  · exact h

/-- The span at a byte: it, and the byte behind it; or the error's number, and its byte. -/
def spAt (s : List UInt8) (p : Nat) : Except (Int × Nat) (Run × Nat) :=
  match ptAt (s.drop p) with
  | none => .error (9, p)
  | some (lo, k) => if s[p + k]? = some 45 then match ptAt (s.drop (p + k + 1)) with
      | none => .error (9, p + k + 1)
      | some (hi, k2) => if hi ≤ lo then .error (4, p) else .ok ((lo, hi + 1), p + k + 1 + k2)
    else .ok ((lo, lo + 1), p + k)
/-- Does a run lie above all of a list's, without touching? -/
def aboveB (l : List Run) (x : Run) : Bool := match l.getLast? with | none => true | some y => decide (y.2 < x.1)
/-- A set read from a byte on, behind the runs that were read. -/
def prF : Nat → List UInt8 → Nat → List Run → Except (Int × Nat) (List Run)
  | 0, _, p, _ => .error (25, p)
  | f + 1, s, p, l =>
    if s.length ≤ p then .error (25, p)
    else if s[p]? = some 93 then (if p + 1 < s.length then .error (3, p + 1) else .ok l)
    else match spAt s p with
      | .error e => .error e
      | .ok (x, q) => if aboveB l x then prF f s q (l ++ [x]) else .error (4, p)
def prL (s : List UInt8) : Except (Int × Nat) (List Run) := if [91].isPrefixOf s then prF s.length s 1 [] else .error (25, 0)

theorem spAt_sound {s : List UInt8} {p q : Nat} {x : Run} (h : spAt s p = .ok (x, q)) : 0 ≤ x.1 ∧ x.1 < x.2 ∧ x.2 ≤ allN ∧ p < q ∧ q ≤ s.length ∧ s.take q = s.take p ++ printS (spanP x) ∧ p ≤ s.length := by
  unfold spAt at h
  have key : ∀ (p : Nat) (t r : List UInt8), s.drop p = t ++ r → t ≠ [] → p + t.length ≤ s.length ∧ s.take (p + t.length) = s.take p ++ t := by
    intro p t r e ht
    have hl : (s.drop p).length = t.length + r.length := by rw [e, List.length_append]
    rw [List.length_drop] at hl
    have : 0 < t.length := by
      cases t with
      | nil => exact absurd rfl ht
      | cons => simp
    refine ⟨by omega, ?_⟩
    rw [List.take_add, e, List.take_append_of_le_length (Nat.le_refl _), List.take_length]
  cases h1 : ptAt (s.drop p) with
  | none => rw [h1] at h; cases h
  | some a =>
    obtain ⟨lo, k⟩ := a
    obtain ⟨l0, l1, rfl, t1, e1⟩ := ptAt_sound h1
    obtain ⟨k1, k2⟩ := key p _ _ e1 (printP_ne _)
    have kp := printP_pos (pntI lo)
    rw [h1] at h
    simp only at h
    by_cases hc : s[p + (printP (pntI lo)).length]? = some 45
    · rw [if_pos hc] at h
      cases h2 : ptAt (s.drop (p + (printP (pntI lo)).length + 1)) with
      | none => rw [h2] at h; cases h
      | some b =>
        obtain ⟨hi, m⟩ := b
        obtain ⟨m0, m1, rfl, t2, e2⟩ := ptAt_sound h2
        obtain ⟨j1, j2⟩ := key _ _ _ e2 (printP_ne _)
        rw [h2] at h
        simp only at h
        by_cases hlo : hi ≤ lo
        · rw [if_pos hlo] at h; cases h
        · rw [if_neg hlo] at h
          simp only [Except.ok.injEq, Prod.mk.injEq] at h
          obtain ⟨rfl, rfl⟩ := h
          refine ⟨l0, by simp only; omega, by simp only; omega, by omega, j1, ?_, by omega⟩
          rw [j2, List.take_add_one, hc, k2]
          have hne : pntI hi ≠ pntI lo := by
            intro e
            have a1 := num_pnt l0 l1
            have a2 := num_pnt m0 m1
            rw [e, a1] at a2
            injection a2; omega
          simp only [printS, spanP, Int.add_sub_cancel]
          rw [if_neg hne]
          simp
    · rw [if_neg hc] at h
      simp only [Except.ok.injEq, Prod.mk.injEq] at h
      obtain ⟨rfl, rfl⟩ := h
      refine ⟨l0, by simp only; omega, by simp only; omega, by omega, k1, ?_, by omega⟩
      rw [k2]
      simp only [printS, spanP, Int.add_sub_cancel]
      simp
theorem spans_snoc (l : List Run) (x : Run) : printL (spansL (l ++ [x])) = printL (spansL l) ++ printS (spanP x) := by
  rw [spansL, List.map_append, List.map_singleton, printL_snoc]; rfl
theorem canon_snoc : ∀ {l : List Run} {lo : Int} {x : Run}, CanonFrom lo l → lo < x.1 → 0 ≤ x.1 → x.1 < x.2 → x.2 ≤ allN → aboveB l x = true → CanonFrom lo (l ++ [x])
  | [], lo, x, _, h1, _, h2, h3, _ => ⟨h1, h2, h3, trivial⟩
  | y :: t, lo, x, h, h1, h0, h2, h3, ha => by
    refine ⟨h.1, h.2.1, h.2.2.1, canon_snoc h.2.2.2 ?_ h0 h2 h3 ?_⟩
    · unfold aboveB at ha
      cases hl : (y :: t).getLast? with
      | none => simp at hl
      | some z =>
        rw [hl] at ha
        have hz : z ∈ y :: t := List.mem_of_getLast? hl
        simp only [decide_eq_true_eq] at ha
        rcases List.mem_cons.1 hz with rfl | hz
        · exact ha
        · have := canon_mem h.2.2.2 z hz; omega
    · unfold aboveB at ha ⊢
      cases t with
      | nil => simp
      | cons a b => rw [List.getLast?_cons_cons] at ha; exact ha
theorem prF_sound : ∀ (f : Nat) (s : List UInt8) (p : Nat) (l R : List Run), Canon l → s.take p = 91 :: printL (spansL l) → prF f s p l = .ok R → Canon R ∧ s = 91 :: printL (spansL R) ++ [93]
  | 0, s, p, l, R, _, _, h => by simp [prF] at h
  | f + 1, s, p, l, R, hl, ht, h => by
    unfold prF at h
    split at h
    · cases h
    · rename_i hp
      split at h
      · rename_i hc
        split at h
        · cases h
        · rename_i hq
          simp only [Except.ok.injEq] at h
          subst h
          refine ⟨hl, ?_⟩
          have e : s.take (p + 1) = s := List.take_of_length_le (by omega)
          rw [List.take_add_one, hc, ht] at e
          exact e.symm
      · cases hs : spAt s p with
        | error e => rw [hs] at h; cases h
        | ok a =>
          obtain ⟨x, q⟩ := a
          rw [hs] at h
          simp only at h
          have hx := spAt_sound hs
          by_cases ha : aboveB l x = true
          · rw [if_pos ha] at h
            exact prF_sound f s q (l ++ [x]) R (canon_snoc hl (by omega) hx.1 hx.2.1 hx.2.2.1 ha) (by rw [spans_snoc, hx.2.2.2.2.2.1, ht]; rfl) h
          · rw [if_neg ha] at h; cases h
theorem prL_sound {s : List UInt8} {R : List Run} (h : prL s = .ok R) : Canon R ∧ s = 91 :: printL (spansL R) ++ [93] := by
  unfold prL at h
  split at h
  · rename_i hp
    refine prF_sound _ s 1 [] R trivial ?_ h
    cases s with
    | nil => simp [List.isPrefixOf] at hp
    | cons c t => simp [List.isPrefixOf] at hp; subst hp; simp [spansL, printL]
  · cases h

theorem spAt_print (s : List UInt8) (p : Nat) (x : Run) (rest : List UInt8) (h0 : 0 ≤ x.1) (h1 : x.1 < x.2) (h2 : x.2 ≤ allN) (hs : s.drop p = printS (spanP x) ++ rest) (hr : rest.head? ≠ some 45) : spAt s p = .ok (x, p + (printS (spanP x)).length) := by
  obtain ⟨x1, x2⟩ := x
  simp only at h0 h1 h2
  unfold printS spanP at hs ⊢
  simp only at hs ⊢
  by_cases he : pntI (x2 - 1) = pntI x1
  · have e2 : x2 = x1 + 1 := by
      have a1 := num_pnt h0 (show x1 < allN by omega)
      have a2 := num_pnt (show 0 ≤ x2 - 1 by omega) (show x2 - 1 < allN by omega)
      rw [he, a1] at a2
      injection a2; omega
    rw [if_pos he, List.append_nil] at hs ⊢
    have hp := ptAt_print h0 (show x1 < allN by omega) rest
    rw [← hs] at hp
    unfold spAt
    rw [hp]
    simp only
    have hn : s[p + (printP (pntI x1)).length]? ≠ some 45 := by
      rw [← List.getElem?_drop, hs, List.getElem?_append_right (Nat.le_refl _), Nat.sub_self, ← List.head?_eq_getElem?]
      exact hr
    rw [if_neg hn, e2]
  · rw [if_neg he] at hs ⊢
    have hp := ptAt_print h0 (show x1 < allN by omega) (45 :: printP (pntI (x2 - 1)) ++ rest)
    rw [← List.append_assoc, ← hs] at hp
    unfold spAt
    rw [hp]
    simp only
    have hn : s[p + (printP (pntI x1)).length]? = some 45 := by
      rw [← List.getElem?_drop, hs, List.append_assoc, List.getElem?_append_right (Nat.le_refl _), Nat.sub_self]; rfl
    rw [if_pos hn]
    have hd : s.drop (p + (printP (pntI x1)).length + 1) = printP (pntI (x2 - 1)) ++ rest := by
      have e := congrArg (List.drop ((printP (pntI x1)).length + 1)) hs
      rw [List.drop_drop, List.append_assoc, List.drop_append] at e
      rw [show p + (printP (pntI x1)).length + 1 = p + ((printP (pntI x1)).length + 1) by omega, e]
      rw [List.drop_of_length_le (by omega), show (printP (pntI x1)).length + 1 - (printP (pntI x1)).length = 1 by omega]
      rfl
    have hq := ptAt_print (show 0 ≤ x2 - 1 by omega) (show x2 - 1 < allN by omega) rest
    rw [← hd] at hq
    rw [hq]
    simp only
    have hlt : ¬ x2 - 1 ≤ x1 := by
      intro h
      have : x2 - 1 = x1 := by omega
      rw [this] at he; exact he rfl
    rw [if_neg hlt]
    simp only [List.length_append, List.length_cons, Except.ok.injEq, Prod.mk.injEq, true_and]
    exact ⟨by omega, by omega⟩
theorem printS_head (x : Int × Int) (r : List UInt8) : (printS x ++ r).head? = some 92 := by
  unfold printS printP
  split <;> split <;> simp
theorem prF_back : ∀ (f : Nat) (s : List UInt8) (p : Nat) (l t : List Run), s.drop p = printL (spansL t) ++ [93] → Canon (l ++ t) → s.length < p + f → p ≤ s.length → prF f s p l = .ok (l ++ t)
  | 0, s, p, l, t, hd, _, hf, hp => by
    have := congrArg List.length hd
    rw [List.length_drop, List.length_append, List.length_singleton] at this
    omega
  | f + 1, s, p, l, [], hd, hc, hf, hp => by
    simp only [spansL, List.map_nil, printL, List.flatMap_nil, List.nil_append] at hd
    have hl := congrArg List.length hd
    rw [List.length_drop, List.length_singleton] at hl
    have h93 : s[p]? = some 93 := by rw [← Nat.add_zero p, ← List.getElem?_drop, hd]; rfl
    unfold prF
    rw [if_neg (by omega), if_pos h93, if_neg (by omega), List.append_nil]
  | f + 1, s, p, l, x :: t, hd, hc, hf, hp => by
    have hx := canon_mem hc x (by simp)
    have hd' : s.drop p = printS (spanP x) ++ (printL (spansL t) ++ [93]) := by
      rw [hd]; simp [spansL, printL, List.flatMap_cons]
    have hlen := congrArg List.length hd'
    rw [List.length_drop, List.length_append, List.length_append, List.length_singleton] at hlen
    have hc92 : s[p]? = some 92 := by
      rw [← Nat.add_zero p, ← List.getElem?_drop, hd', ← List.head?_eq_getElem?]; exact printS_head _ _
    have hhead : (printL (spansL t) ++ [93]).head? ≠ some 45 := by
      cases t with
      | nil => simp [spansL, printL]
      | cons y u =>
        have : printL (spansL (y :: u)) ++ [93] = printS (spanP y) ++ (printL (spansL u) ++ [93]) := by simp [spansL, printL, List.flatMap_cons]
        rw [this, printS_head]; simp
    have hsp := spAt_print s p x _ (by omega) hx.2.1 hx.2.2 hd' hhead
    have hab : aboveB l x = true := by
      unfold aboveB
      cases hg : l.getLast? with
      | none => rfl
      | some y =>
        have hpw := canon_pw hc
        rw [List.pairwise_append] at hpw
        simpa using hpw.2.2 y (List.mem_of_getLast? hg) x (.head _)
    have hpos : 0 < (printS (spanP x)).length := by unfold printS; rw [List.length_append]; have := printP_pos (spanP x).1; omega
    unfold prF
    rw [if_neg (by omega), if_neg (by rw [hc92]; decide), hsp]
    simp only
    rw [if_pos hab]
    have := prF_back f s (p + (printS (spanP x)).length) (l ++ [x]) t (by
      rw [← List.drop_drop, hd', List.drop_append_of_le_length (Nat.le_refl _), List.drop_length, List.nil_append]) (by rw [List.append_assoc]; exact hc) (by omega) (by omega)
    rw [this, List.append_assoc]; rfl
theorem prL_back {R : List Run} (h : Canon R) : prL (91 :: printL (spansL R) ++ [93]) = .ok R := by
  unfold prL
  rw [if_pos (by simp [List.isPrefixOf])]
  exact prF_back _ _ 1 [] R (by simp) h (by omega) (by simp)
end Go.Proofs.YtmpjlenfnlijfaaGreatDoor
/- The contracts of the library functions that stage 3's Parse calls (strings.CutPrefix, HasPrefix, strconv's errors, stringslite.Index), laid over this translation. -/
namespace Go.Proofs
open Go.Shelf
def Tryz.lays210_ren : Go.Shelf.Ren := ⟨fun | 210 => 164 | 206 => 119 | n => n, fun | 9 => 9 | 4 => 4 | 3 => 3 | n => n, fun | n => n⟩
theorem Tryz.lays210 : Go.Proofs.Lays.n210 Tryz.prog Tryz.lays210_ren := {
  mixed := by kernel_rfl
  f206 := Tryz.func119.trans (congrArg some (by kernel_rfl))
  f210 := Tryz.func164.trans (congrArg some (by kernel_rfl))
  t3 := Tryz.underlying3
  a3 := Tryz.isAgg3
  z3 := Tryz.sizeOf3
  v3 := Tryz.zeroValue3
  t4 := Tryz.underlying4
  a4 := Tryz.isAgg4
  z4 := Tryz.sizeOf4
  v4 := Tryz.zeroValue4
  t9 := Tryz.underlying9
  a9 := Tryz.isAgg9
  z9 := Tryz.sizeOf9
  v9 := Tryz.zeroValue9 }
open Go.RowKit in
theorem Tryz.stringslite_CutPrefix (s p : ByteArray) (w : World) :
    Calls Tryz.prog 164 #[.string s, .string p] w fun e w' => e = .returned (.tuple #[.string ⟨(Lib.trimPrefix s.data.toList p.data.toList).toArray⟩, .bool (Lib.hasPrefix s.data.toList p.data.toList)]) ∧ w' = w := Any.stringslite_CutPrefix Tryz.lays210 s p w
def Tryz.lays103_ren : Go.Shelf.Ren := ⟨fun | 103 => 150 | 210 => 164 | 206 => 119 | n => n, fun | 9 => 9 | 4 => 4 | 24 => 278 | 3 => 3 | n => n, fun | n => n⟩
theorem Tryz.lays103 : Go.Proofs.Lays.n103 Tryz.prog Tryz.lays103_ren := {
  mixed := by kernel_rfl
  f103 := Tryz.func150.trans (congrArg some (by kernel_rfl))
  f206 := Tryz.func119.trans (congrArg some (by kernel_rfl))
  f210 := Tryz.func164.trans (congrArg some (by kernel_rfl))
  t3 := Tryz.underlying3
  a3 := Tryz.isAgg3
  z3 := Tryz.sizeOf3
  v3 := Tryz.zeroValue3
  t4 := Tryz.underlying4
  a4 := Tryz.isAgg4
  z4 := Tryz.sizeOf4
  v4 := Tryz.zeroValue4
  t9 := Tryz.underlying9
  a9 := Tryz.isAgg9
  z9 := Tryz.sizeOf9
  v9 := Tryz.zeroValue9
  t24 := Tryz.underlying278
  a24 := Tryz.isAgg278
  z24 := Tryz.sizeOf278
  v24 := Tryz.zeroValue278 }
open Go.RowKit in
theorem Tryz.strings_CutPrefix (s p : ByteArray) (w : World) :
    Calls Tryz.prog 150 #[.string s, .string p] w fun e w' => e = .returned (.tuple #[.string ⟨(Lib.trimPrefix s.data.toList p.data.toList).toArray⟩, .bool (Lib.hasPrefix s.data.toList p.data.toList)]) ∧ w' = w := Any.strings_CutPrefix Tryz.lays103 s p w
def Tryz.laysC245_ren : Go.Shelf.Ren := ⟨fun | 245 => 167 | 279 => 176 | 280 => 177 | 281 => 178 | 282 => 179 | 316 => 186 | 171 => 188 | 205 => 187 | 243 => 191 | 246 => 149 | 283 => 160 | 284 => 161 | 285 => 162 | 286 => 163 | 129 => 141 | 317 => 169 | 318 => 170 | 319 => 171 | 320 => 172 | 337 => 180 | 338 => 181 | n => n, fun | 9 => 9 | 3 => 3 | 75 => 27 | 167 => 318 | 4 => 4 | 168 => 320 | 210 => 326 | 37 => 146 | 0 => 0 | 127 => 251 | 145 => 334 | 143 => 332 | 2 => 2 | 171 => 306 | 53 => 168 | 5 => 5 | 173 => 308 | 212 => 315 | 51 => 187 | 20 => 20 | 213 => 316 | 46 => 246 | 232 => 328 | 233 => 329 | 80 => 95 | n => n, fun | 15 => 4 | 16 => 5 | 17 => 2 | 18 => 6 | 19 => 7 | n => n⟩
theorem Tryz.laysC245 : Go.Proofs.LaysC.n245 Tryz.prog Tryz.laysC245_ren := {
  mixed := by kernel_rfl
  f129 := Tryz.func141.trans (congrArg some (by kernel_rfl))
  f171 := Tryz.func188.trans (congrArg some (by kernel_rfl))
  f205 := Tryz.func187.trans (congrArg some (by kernel_rfl))
  f243 := Tryz.func191.trans (congrArg some (by kernel_rfl))
  f245 := Tryz.func167.trans (congrArg some (by kernel_rfl))
  f246 := Tryz.func149.trans (congrArg some (by kernel_rfl))
  f279 := Tryz.func176.trans (congrArg some (by kernel_rfl))
  f280 := Tryz.func177.trans (congrArg some (by kernel_rfl))
  f281 := Tryz.func178.trans (congrArg some (by kernel_rfl))
  f282 := Tryz.func179.trans (congrArg some (by kernel_rfl))
  f283 := Tryz.func160.trans (congrArg some (by kernel_rfl))
  f284 := Tryz.func161.trans (congrArg some (by kernel_rfl))
  f285 := Tryz.func162.trans (congrArg some (by kernel_rfl))
  f286 := Tryz.func163.trans (congrArg some (by kernel_rfl))
  f316 := Tryz.func186.trans (congrArg some (by kernel_rfl))
  f317 := Tryz.func169.trans (congrArg some (by kernel_rfl))
  f318 := Tryz.func170.trans (congrArg some (by kernel_rfl))
  f319 := Tryz.func171.trans (congrArg some (by kernel_rfl))
  f320 := Tryz.func172.trans (congrArg some (by kernel_rfl))
  f337 := Tryz.func180.trans (congrArg some (by kernel_rfl))
  f338 := Tryz.func181.trans (congrArg some (by kernel_rfl))
  t0 := Tryz.underlying0
  a0 := Tryz.isAgg0
  z0 := Tryz.sizeOf0
  v0 := Tryz.zeroValue0
  t2 := Tryz.underlying2
  a2 := Tryz.isAgg2
  z2 := Tryz.sizeOf2
  v2 := Tryz.zeroValue2
  t3 := Tryz.underlying3
  a3 := Tryz.isAgg3
  z3 := Tryz.sizeOf3
  v3 := Tryz.zeroValue3
  t4 := Tryz.underlying4
  a4 := Tryz.isAgg4
  z4 := Tryz.sizeOf4
  v4 := Tryz.zeroValue4
  t5 := Tryz.underlying5
  a5 := Tryz.isAgg5
  z5 := Tryz.sizeOf5
  v5 := Tryz.zeroValue5
  t9 := Tryz.underlying9
  a9 := Tryz.isAgg9
  z9 := Tryz.sizeOf9
  v9 := Tryz.zeroValue9
  t20 := Tryz.underlying20
  a20 := Tryz.isAgg20
  z20 := Tryz.sizeOf20
  v20 := Tryz.zeroValue20
  t37 := Tryz.underlying146
  a37 := Tryz.isAgg146
  z37 := Tryz.sizeOf146
  v37 := Tryz.zeroValue146
  t46 := Tryz.underlying246
  a46 := Tryz.isAgg246
  z46 := Tryz.sizeOf246
  v46 := Tryz.zeroValue246
  t51 := Tryz.underlying187
  a51 := Tryz.isAgg187
  z51 := Tryz.sizeOf187
  v51 := Tryz.zeroValue187
  t53 := Tryz.underlying168
  a53 := Tryz.isAgg168
  z53 := Tryz.sizeOf168
  v53 := Tryz.zeroValue168
  t75 := Tryz.underlying27
  a75 := Tryz.isAgg27
  z75 := Tryz.sizeOf27
  v75 := Tryz.zeroValue27
  t127 := Tryz.underlying251
  a127 := Tryz.isAgg251
  z127 := Tryz.sizeOf251
  v127 := Tryz.zeroValue251
  t143 := Tryz.underlying332
  a143 := Tryz.isAgg332
  z143 := Tryz.sizeOf332
  v143 := Tryz.zeroValue332
  t145 := Tryz.underlying334
  a145 := Tryz.isAgg334
  z145 := Tryz.sizeOf334
  v145 := Tryz.zeroValue334
  t167 := Tryz.underlying318
  a167 := Tryz.isAgg318
  z167 := Tryz.sizeOf318
  v167 := Tryz.zeroValue318
  t168 := Tryz.underlying320
  a168 := Tryz.isAgg320
  z168 := Tryz.sizeOf320
  v168 := Tryz.zeroValue320
  t171 := Tryz.underlying306
  a171 := Tryz.isAgg306
  z171 := Tryz.sizeOf306
  v171 := Tryz.zeroValue306
  t173 := Tryz.underlying308
  a173 := Tryz.isAgg308
  z173 := Tryz.sizeOf308
  v173 := Tryz.zeroValue308
  t210 := Tryz.underlying326
  a210 := Tryz.isAgg326
  z210 := Tryz.sizeOf326
  v210 := Tryz.zeroValue326
  t212 := Tryz.underlying315
  a212 := Tryz.isAgg315
  z212 := Tryz.sizeOf315
  v212 := Tryz.zeroValue315
  t213 := Tryz.underlying316
  a213 := Tryz.isAgg316
  z213 := Tryz.sizeOf316
  t232 := Tryz.underlying328
  a232 := Tryz.isAgg328
  z232 := Tryz.sizeOf328
  v232 := Tryz.zeroValue328
  t233 := Tryz.underlying329
  a233 := Tryz.isAgg329
  z233 := Tryz.sizeOf329
  v233 := Tryz.zeroValue329
  g15 := by kernel_rfl
  g16 := by kernel_rfl
  g17 := by kernel_rfl
  g18 := by kernel_rfl
  g19 := by kernel_rfl
  t80 := Tryz.underlying95
  a80 := Tryz.isAgg95
  z80 := Tryz.sizeOf95
  v80 := Tryz.zeroValue95
  i0 := by kernel_rfl
  i2 := by kernel_rfl
  i3 := by kernel_rfl
  i4 := by kernel_rfl
  i5 := by kernel_rfl
  i9 := by kernel_rfl
  i20 := by kernel_rfl
  i37 := by kernel_rfl
  i46 := by kernel_rfl
  i51 := by kernel_rfl
  i53 := by kernel_rfl
  i75 := by kernel_rfl
  i80 := by kernel_rfl
  i127 := by kernel_rfl
  i143 := by kernel_rfl
  i145 := by kernel_rfl
  i167 := by kernel_rfl
  i168 := by kernel_rfl
  i171 := by kernel_rfl
  i173 := by kernel_rfl
  i210 := by kernel_rfl
  i212 := by kernel_rfl
  i232 := by kernel_rfl
  i233 := by kernel_rfl
  m15 := by kernel_rfl
  m16 := by kernel_rfl
  m17 := by kernel_rfl
  m18 := by kernel_rfl
  m19 := by kernel_rfl
  c0 := by kernel_rfl
  c2 := by kernel_rfl
  c3 := by kernel_rfl
  c4 := by kernel_rfl
  c5 := by kernel_rfl
  c9 := by kernel_rfl
  c20 := by kernel_rfl
  c37 := by kernel_rfl
  c46 := by kernel_rfl
  c51 := by kernel_rfl
  c53 := by kernel_rfl
  c75 := by kernel_rfl
  c80 := by kernel_rfl
  c127 := by kernel_rfl
  c143 := by kernel_rfl
  c145 := by kernel_rfl
  c167 := by kernel_rfl
  c168 := by kernel_rfl
  c171 := by kernel_rfl
  c173 := by kernel_rfl
  c210 := by kernel_rfl
  c212 := by kernel_rfl
  c213 := by kernel_rfl
  c232 := by kernel_rfl
  c233 := by kernel_rfl }
open Go.RowKit in
theorem Tryz.strconv_toError_syntax (fn s : ByteArray) (base bits : Int) (ev : Value) (w : World) (hlim : s.size ≤ 281474976710656) (hv : w.cell? ⟨4, 0, none⟩ = some ev) (hev : ev = .nilIface ∨ ∃ te pe, ev = .iface te pe) :
    Calls Tryz.prog 167 #[.string fn, .string s, .int .i64 base, .int .i64 bits, .iface 318 (.int .i64 2)] w fun e w' => ∃ N, e = .returned (.iface 320 (.pointer (some ⟨N, 0, none⟩))) ∧ w.heap.size ≤ N ∧ w'.heap[N]? = some (.cells #[.string fn, .string s, ev] 326 (0, 0)) ∧ Below w.heap.size w w' := Any.strconv_toError_syntax Tryz.laysC245 fn s base bits ev w hlim hv hev
def Tryz.lays321_ren : Go.Shelf.Ren := ⟨fun | 321 => 174 | n => n, fun | 5 => 5 | n => n, fun | n => n⟩
theorem Tryz.lays321 : Go.Proofs.Lays.n321 Tryz.prog Tryz.lays321_ren := {
  mixed := by kernel_rfl
  f321 := Tryz.func174.trans (congrArg some (by kernel_rfl))
  t5 := Tryz.underlying5
  a5 := Tryz.isAgg5
  z5 := Tryz.sizeOf5
  v5 := Tryz.zeroValue5 }
open Go.RowKit in
theorem Tryz.internal_strconv_lower (c : Int) (w : World) :
    Calls Tryz.prog 174 #[.int .u8 c] w fun e w' => e = .returned (.int .u8 (bits .or .u8 c 32)) ∧ w' = w := Any.internal_strconv_lower Tryz.lays321 c w
open Go.RowKit in
theorem Tryz.strconv_toError_range (fn s : ByteArray) (base bits : Int) (ev : Value) (w : World) (hlim : s.size ≤ 281474976710656) (hv : w.cell? ⟨5, 0, none⟩ = some ev) (hev : ev = .nilIface ∨ ∃ te pe, ev = .iface te pe) :
    Calls Tryz.prog 167 #[.string fn, .string s, .int .i64 base, .int .i64 bits, .iface 318 (.int .i64 1)] w fun e w' => ∃ N, e = .returned (.iface 320 (.pointer (some ⟨N, 0, none⟩))) ∧ w.heap.size ≤ N ∧ w'.heap[N]? = some (.cells #[.string fn, .string s, ev] 326 (0, 0)) ∧ Below w.heap.size w w' := Any.strconv_toError_range Tryz.laysC245 fn s base bits ev w hlim hv hev
def Tryz.lays219_ren : Go.Shelf.Ren := ⟨fun | 219 => 173 | 217 => 182 | 225 => 183 | 224 => 184 | 267 => 185 | 266 => 189 | 314 => 190 | n => n, fun | 9 => 9 | 3 => 3 | 4 => 4 | 5 => 5 | 46 => 246 | 146 => 330 | 51 => 187 | n => n, fun | 1 => 3 | n => n⟩
theorem Tryz.lays219 : Go.Proofs.Lays.n219 Tryz.prog Tryz.lays219_ren := {
  mixed := by kernel_rfl
  f217 := Tryz.func182.trans (congrArg some (by kernel_rfl))
  f219 := Tryz.func173.trans (congrArg some (by kernel_rfl))
  f224 := Tryz.func184.trans (congrArg some (by kernel_rfl))
  f225 := Tryz.func183.trans (congrArg some (by kernel_rfl))
  f266 := Tryz.func189.trans (congrArg some (by kernel_rfl))
  f267 := Tryz.func185.trans (congrArg some (by kernel_rfl))
  f314 := Tryz.func190.trans (congrArg some (by kernel_rfl))
  t3 := Tryz.underlying3
  a3 := Tryz.isAgg3
  z3 := Tryz.sizeOf3
  v3 := Tryz.zeroValue3
  t4 := Tryz.underlying4
  a4 := Tryz.isAgg4
  z4 := Tryz.sizeOf4
  v4 := Tryz.zeroValue4
  t5 := Tryz.underlying5
  a5 := Tryz.isAgg5
  z5 := Tryz.sizeOf5
  v5 := Tryz.zeroValue5
  t9 := Tryz.underlying9
  a9 := Tryz.isAgg9
  z9 := Tryz.sizeOf9
  v9 := Tryz.zeroValue9
  t46 := Tryz.underlying246
  a46 := Tryz.isAgg246
  z46 := Tryz.sizeOf246
  v46 := Tryz.zeroValue246
  t51 := Tryz.underlying187
  a51 := Tryz.isAgg187
  z51 := Tryz.sizeOf187
  v51 := Tryz.zeroValue187
  t146 := Tryz.underlying330
  a146 := Tryz.isAgg330
  z146 := Tryz.sizeOf330
  v146 := Tryz.zeroValue330
  g1 := by kernel_rfl }
open Go.RowKit Go.Lib in
theorem Tryz.stringslite_Index_one (s : ByteArray) (c : UInt8) (w : World) :
    Calls Tryz.prog 173 #[.string s, .string ⟨#[c]⟩] w fun e w' => e = .returned (.int .i64 (Lib.indexByte s.data.toList c)) ∧ w' = w := Any.stringslite_Index_one Tryz.lays219 s c w
def Tryz.lays206_ren : Go.Shelf.Ren := ⟨fun | 206 => 119 | n => n, fun | 9 => 9 | 4 => 4 | 3 => 3 | n => n, fun | n => n⟩
theorem Tryz.lays206 : Go.Proofs.Lays.n206 Tryz.prog Tryz.lays206_ren := {
  mixed := by kernel_rfl
  f206 := Tryz.func119.trans (congrArg some (by kernel_rfl))
  t3 := Tryz.underlying3
  a3 := Tryz.isAgg3
  z3 := Tryz.sizeOf3
  v3 := Tryz.zeroValue3
  t4 := Tryz.underlying4
  a4 := Tryz.isAgg4
  z4 := Tryz.sizeOf4
  v4 := Tryz.zeroValue4
  t9 := Tryz.underlying9
  a9 := Tryz.isAgg9
  z9 := Tryz.sizeOf9
  v9 := Tryz.zeroValue9 }
open Go.RowKit Go.Lib in
theorem Tryz.stringslite_HasPrefix (s p : ByteArray) (w : World) :
    Calls Tryz.prog 119 #[.string s, .string p] w fun e w' => e = .returned (.bool (Lib.hasPrefix s.data.toList p.data.toList)) ∧ w' = w := Any.stringslite_HasPrefix Tryz.lays206 s p w
def Tryz.lays99_ren : Go.Shelf.Ren := ⟨fun | 99 => 73 | 206 => 119 | n => n, fun | 9 => 9 | 4 => 4 | 3 => 3 | n => n, fun | n => n⟩
theorem Tryz.lays99 : Go.Proofs.Lays.n99 Tryz.prog Tryz.lays99_ren := {
  mixed := by kernel_rfl
  f99 := Tryz.func73.trans (congrArg some (by kernel_rfl))
  f206 := Tryz.func119.trans (congrArg some (by kernel_rfl))
  t3 := Tryz.underlying3
  a3 := Tryz.isAgg3
  z3 := Tryz.sizeOf3
  v3 := Tryz.zeroValue3
  t4 := Tryz.underlying4
  a4 := Tryz.isAgg4
  z4 := Tryz.sizeOf4
  v4 := Tryz.zeroValue4
  t9 := Tryz.underlying9
  a9 := Tryz.isAgg9
  z9 := Tryz.sizeOf9
  v9 := Tryz.zeroValue9 }
open Go.RowKit Go.Lib in
theorem Tryz.strings_HasPrefix (s p : ByteArray) (w : World) :
    Calls Tryz.prog 73 #[.string s, .string p] w fun e w' => e = .returned (.bool (Lib.hasPrefix s.data.toList p.data.toList)) ∧ w' = w := Any.strings_HasPrefix Tryz.lays99 s p w
end Go.Proofs
/- strconv.ParseUint to the base 16. -/
namespace Go.Proofs.YtmpjlenfnlijfaaGreatDoor
open Go Go.RowKit Go.Kt Go.Kt.Rg

theorem or_32 : ∀ c, c < 256 → bits .or .u8 ((c : Nat) : Int) 32 = ((c ||| 32 : Nat) : Int) := by decide +kernel
theorem or_ge : ∀ c, c < 256 → c ≤ c ||| 32 := by decide +kernel
theorem or_bd : ∀ c, c < 256 → c ||| 32 < 256 := by decide +kernel
theorem or_dig : ∀ c, c < 256 → 97 ≤ c ||| 32 → c ||| 32 ≤ 122 → 57 < c ∧ c ≠ 95 := by decide +kernel
/-- The answer of ParseUint, the inner one and the outer one. -/
def PuOut (T : TypeId) (K : Value → Prop) (o : Option Nat) (e : Ending) : Prop :=
  match o with
  | some n => e = .returned (.tuple #[.int .u64 (n : Nat), .nilIface])
  | none => ∃ (z : Int) (k : Value), e = .returned (.tuple #[.int .u64 z, .iface T k]) ∧ K k
theorem PuOut.yes {T : TypeId} {K : Value → Prop} {o : Option Nat} {n : Nat} (h : o = some n) : PuOut T K o (.returned (.tuple #[.int .u64 (n : Nat), .nilIface])) := by subst h; rfl
theorem PuOut.no {T : TypeId} {K : Value → Prop} {o : Option Nat} (z : Int) {k : Value} (h : o = none) (hk : K k) : PuOut T K o (.returned (.tuple #[.int .u64 z, .iface T k])) := by subst h; exact ⟨z, k, rfl, hk⟩
def PuErr (k : Value) : Prop := k = .int .i64 1 ∨ k = .int .i64 2
theorem puF_some {mx n d : Nat} {c : UInt8} {t : List UInt8} (h : digV c.toNat = some d) (h1 : d < 16) (h2 : n * 16 + d ≤ mx) : puF mx n (c :: t) = puF mx (n * 16 + d) t := by
  rw [puF, h]; simp only; rw [if_neg (by omega), if_neg (by omega)]
theorem puF_over {mx n d : Nat} {c : UInt8} {t : List UInt8} (h : digV c.toNat = some d) (h1 : d < 16) (h2 : mx < n * 16 + d) : puF mx n (c :: t) = none := by
  rw [puF, h]; simp only; rw [if_neg (by omega), if_pos h2]
theorem puF_big {mx n d : Nat} {c : UInt8} {t : List UInt8} (h : digV c.toNat = some d) (h1 : 16 ≤ d) : puF mx n (c :: t) = none := by
  rw [puF, h]; simp only; rw [if_pos h1]
theorem puF_bad {mx n : Nat} {c : UInt8} {t : List UInt8} (h : digV c.toNat = none) : puF mx n (c :: t) = none := by
  rw [puF, h]
theorem digV_dig {c : Nat} (h1 : 48 ≤ c) (h2 : c ≤ 57) : digV c = some (c - 48) := by unfold digV; rw [if_pos ⟨h1, h2⟩]
theorem digV_let {c : Nat} (h : 57 < c) (h1 : 97 ≤ c ||| 32) (h2 : c ||| 32 ≤ 122) : digV c = some ((c ||| 32) - 87) := by unfold digV; rw [if_neg (by omega), if_pos ⟨h1, h2⟩]
theorem digV_no {c : Nat} (h : ¬ (48 ≤ c ∧ c ≤ 57)) (h1 : ¬ (97 ≤ c ||| 32 ∧ c ||| 32 ≤ 122)) : digV c = none := by unfold digV; rw [if_neg h, if_neg h1]

end Go.Proofs.YtmpjlenfnlijfaaGreatDoor
/- strconv.ParseUint to the base 16, of 21 bits. -/
namespace Go.Proofs.YtmpjlenfnlijfaaGreatDoor
open Go Go.RowKit Go.Kt Go.Kt.Rg

set_option maxRecDepth 100000 in
set_option maxHeartbeats 8000000 in
theorem ipu21_any (s : ByteArray) (w : World) (hs : s.size ≤ 281474976710656) :
    Calls Tryz.prog 166 #[.string s, .int .i64 16, .int .i64 21] w fun e w' => PuOut 318 PuErr (puV 2097151 s.data.toList) e ∧ Below w.heap.size w w' := by
  obtain ⟨l, hl⟩ : ∃ l, s.data.toList = l := ⟨_, rfl⟩
  have hln : l.length = s.size := by rw [← hl]; exact (Lib.size_eq s).symm
  rw [hl]
  by_cases h0 : s.size = 0
  · have hn : l = [] := List.eq_nil_of_length_eq_zero (by omega)
    have hsn : s.toList = [] := by
      have : s.toList.length = 0 := by rw [ByteArray.toList_eq, hl, hn]; rfl
      exact List.eq_nil_of_length_eq_zero this
    have hsn2 : (!s.toList.isEmpty) = false := by rw [hsn]; rfl
    have HF : Hid (PuOut 318 PuErr (puV 2097151 l) (.returned (.tuple #[.int .u64 0, .iface 318 (.int .i64 2)])) ∧ Below w.heap.size w w) := Lib.hid ⟨.no 0 (by rw [hn]; rfl) (.inr rfl), Below.refl _ _⟩
    clear hn hl hln h0
    go_enter Tryz.func166, Tryz.ntmps166
    go_wp2
    go_ret2
    exact HF.out
  · have hemp : s.toList.isEmpty = false := by
      cases h : s.toList with
      | nil => rw [ByteArray.toList_eq, hl] at h; rw [h] at hln; exact absurd hln.symm h0
      | cons => rfl
    have hcv := Lib.run_convert_string_bytes (P := Tryz.prog) w 9 146 5 s (u := .string) Tryz.underlying9 Tryz.underlying146 Tryz.underlying5
    have hB : ∀ j, j < s.size → (Lib.bytesWorld w 5 s).cell? ⟨w.heap.size, j, none⟩ = some (.int .u8 (s.data.toList.getD j 0).toNat) := fun j hj => Lib.bytesWorld_cell w 5 s j hj
    have hBel : Below w.heap.size w (Lib.bytesWorld w 5 s) := Lib.bytesWorld_below w _ s
    obtain ⟨W1, hW1⟩ : ∃ W1, Lib.bytesWorld w 5 s = W1 := ⟨_, rfl⟩
    rw [hW1] at hcv hB hBel
    rw [hl] at hB
    have HB := Lib.hid hB
    have HBel := Lib.hid hBel
    obtain ⟨n, hn⟩ : ∃ n, s.size = n := ⟨_, rfl⟩
    rw [hn] at hs h0 hcv hln HB
    have HLN := Lib.hid hln
    have hV : Hid (puV 2097151 l = puF 2097151 0 l) := Lib.hid (by unfold puV; rw [if_neg]; intro e; rw [e] at hln; exact h0 hln.symm)
    clear hW1 hB hBel hl hln
    go_enter Tryz.func166, Tryz.ntmps166
    go_wp2
    go_loop [12, 13, 101] (fun vu vn vi => ∃ (k acc : Nat) (a : Int), vu = .bool false ∧ vn = .int .u64 a ∧ vi = .int .i64 k ∧ k ≤ n ∧ Hid (a = (acc : Int) ∧ acc ≤ 2097151 ∧ puF 2097151 acc (l.drop k) = puF 2097151 0 l)) (fun _ _ vi => n - (RowKit.intOf vi).toNat)
    case atStart => exact ⟨0, 0, 0, rfl, rfl, rfl, by omega, Lib.hid ⟨rfl, by omega, rfl⟩⟩
    case round =>
      obtain ⟨k, acc, a, rfl, rfl, rfl, hk, hh⟩ := hrel
      have a0 : 0 ≤ a := by have := hh.out.1; omega
      have a1 : a ≤ 2097151 := by have := hh.out; omega
      by_cases hkn : k < n
      · have hkn' : (k : Int) < n := by omega
        have hc := HB.out k hkn
        have hdrop : l.drop k = l[k]'(by rw [HLN.out]; exact hkn) :: l.drop (k + 1) := List.drop_eq_getElem_cons (by rw [HLN.out]; exact hkn)
        have hget : l.getD k 0 = l[k]'(by rw [HLN.out]; exact hkn) := by simp [List.getD, List.getElem?_eq_getElem (show k < l.length by rw [HLN.out]; exact hkn)]
        rw [hget] at hc
        generalize l[k]'(by rw [HLN.out]; exact hkn) = c at hc hdrop
        have HD := Lib.hid hdrop
        have hc256 : c.toNat < 256 := c.toNat_lt
        have q1 := or_32 c.toNat hc256
        have q2 := or_ge c.toNat hc256
        have q3 := or_bd c.toNat hc256
        have q4 := or_dig c.toNat hc256
        have e1 := @digV_dig c.toNat
        have e2 := @digV_let c.toNat
        have e3 := @digV_no c.toNat
        obtain ⟨L, hL⟩ : ∃ L, c.toNat ||| 32 = L := ⟨_, rfl⟩
        rw [hL] at q1 q2 q3 q4 e2 e3
        have FIN : ∀ d, digV c.toNat = some d → d < 16 → acc * 16 + d ≤ 2097151 → Hid (puF 2097151 (acc * 16 + d) (l.drop (k + 1)) = puF 2097151 0 l) := fun d h1 h2 h3 => Lib.hid (by rw [← hh.out.2.2, HD.out, puF_some h1 h2 h3])
        have OVR : ∀ d, digV c.toNat = some d → d < 16 → 2097151 < acc * 16 + d → Hid (puV 2097151 l = none) := fun d h1 h2 h3 => Lib.hid (by rw [hV.out, ← hh.out.2.2, HD.out, puF_over h1 h2 h3])
        have BIG : ∀ d, digV c.toNat = some d → 16 ≤ d → Hid (puV 2097151 l = none) := fun d h1 h2 => Lib.hid (by rw [hV.out, ← hh.out.2.2, HD.out, puF_big h1 h2])
        have BAD : digV c.toNat = none → Hid (puV 2097151 l = none) := fun h1 => Lib.hid (by rw [hV.out, ← hh.out.2.2, HD.out, puF_bad h1])
        have hacc := hh.out.1
        generalize c.toNat = cn at *
        clear hdrop hget hL
        by_cases hdig : 48 ≤ cn ∧ cn ≤ 57
        · obtain ⟨hd0, hd1⟩ := hdig
          have hdv := e1 hd0 hd1
          have i0 : (48 : Int) ≤ cn := by omega
          have i1 : (cn : Int) ≤ 57 := by omega
          by_cases hov : 2097151 < acc * 16 + (cn - 48)
          · have HF := OVR _ hdv (by omega) hov
            have iov : (2097151 : Int) < a * 16 + ((cn : Int) - 48) := by omega
            clear FIN OVR BIG BAD hdv e1 e2 e3 q1 q2 q3 q4 hacc hov hd0 hd1
            go_wp2
            go_ret2
            exact ⟨.no _ HF.out (.inl rfl), HBel.out⟩
          · have HF := FIN _ hdv (by omega) (by omega)
            have iov : a * 16 + ((cn : Int) - 48) ≤ 2097151 := by omega
            have HA : Hid (a * 16 + ((cn : Int) - 48) = ((acc * 16 + (cn - 48) : Nat) : Int) ∧ acc * 16 + (cn - 48) ≤ 2097151) := Lib.hid ⟨by omega, by omega⟩
            clear FIN OVR BIG BAD hdv e1 e2 e3 q1 q2 q3 q4 hacc hov hd0 hd1
            go_wp2
            go_round
            case rel => exact ⟨k + 1, acc * 16 + (cn - 48), a * 16 + ((cn : Int) - 48), rfl, rfl, by go_num, by omega, Lib.hid ⟨HA.out.1, HA.out.2, HF.out⟩⟩
            case measure => simp [RowKit.intOf]; omega
        · by_cases hlet : 97 ≤ L ∧ L ≤ 122
          · obtain ⟨hd0, hd1⟩ := hlet
            obtain ⟨g1, g2⟩ := q4 hd0 hd1
            have hdv := e2 g1 hd0 hd1
            have i0 : (97 : Int) ≤ L := by omega
            have i1 : (L : Int) ≤ 122 := by omega
            have i2 : (57 : Int) < cn := by omega
            have i3 : ((cn : Int) == 95) = false := by rw [beq_eq_false_iff_ne]; omega
            by_cases hbig : 102 < L
            · have HF := BIG _ hdv (by omega)
              have i4 : (102 : Int) < L := by omega
              clear FIN OVR BIG BAD hdv e1 e2 e3 q2 q3 q4 hacc hd0 hd1 g1 g2 hdig hbig
              go_wp2_with (go_at_call 174; refine (Tryz.internal_strconv_lower _ _).mono ?_; rintro e w' ⟨rfl, rfl⟩)
              go_ret2
              exact ⟨.no _ HF.out (.inr rfl), HBel.out⟩
            · have i4 : (L : Int) ≤ 102 := by omega
              by_cases hov : 2097151 < acc * 16 + (L - 87)
              · have HF := OVR _ hdv (by omega) hov
                have iov : (2097151 : Int) < a * 16 + ((L : Int) - 97 + 10) := by omega
                clear FIN OVR BIG BAD hdv e1 e2 e3 q2 q3 q4 hacc hov hd0 hd1 g1 g2 hdig hbig
                go_wp2_with (go_at_call 174; refine (Tryz.internal_strconv_lower _ _).mono ?_; rintro e w' ⟨rfl, rfl⟩)
                go_ret2
                exact ⟨.no _ HF.out (.inl rfl), HBel.out⟩
              · have HF := FIN _ hdv (by omega) (by omega)
                have iov : a * 16 + ((L : Int) - 97 + 10) ≤ 2097151 := by omega
                have HA : Hid (a * 16 + ((L : Int) - 97 + 10) = ((acc * 16 + (L - 87) : Nat) : Int) ∧ acc * 16 + (L - 87) ≤ 2097151) := Lib.hid ⟨by omega, by omega⟩
                clear FIN OVR BIG BAD hdv e1 e2 e3 q2 q3 q4 hacc hov hd0 hd1 g1 g2 hdig hbig
                go_wp2_with (go_at_call 174; refine (Tryz.internal_strconv_lower _ _).mono ?_; rintro e w' ⟨rfl, rfl⟩)
                go_round
                case rel => exact ⟨k + 1, acc * 16 + (L - 87), a * 16 + ((L : Int) - 97 + 10), rfl, rfl, by go_num, by omega, Lib.hid ⟨HA.out.1, HA.out.2, HF.out⟩⟩
                case measure => simp [RowKit.intOf]; omega
          · have HF := BAD (e3 hdig hlet)
            have u0 : (cn : Int) < 48 ∨ (57 : Int) < cn := by omega
            have u1 : (L : Int) < 97 ∨ (122 : Int) < L := by omega
            have hb0 : 0 ≤ (L : Int) := by omega
            have hb1 : (L : Int) < 256 := by omega
            clear FIN OVR BIG BAD e1 e2 e3 q2 q3 q4 hacc hdig hlet
            rcases u0 with u0 | u0
            all_goals rcases u1 with u1 | u1
            all_goals
              go_wp2_with (go_at_call 174; refine (Tryz.internal_strconv_lower _ _).mono ?_; rintro e w' ⟨rfl, rfl⟩)
            all_goals go_ret2
            all_goals exact ⟨.no _ HF.out (.inr rfl), HBel.out⟩
      · have hkn' : ¬ (k : Int) < n := by omega
        obtain rfl : k = n := by omega
        have HF : Hid (puV 2097151 l = some acc) := Lib.hid (by rw [hV.out, ← hh.out.2.2, List.drop_eq_nil_of_le (by rw [HLN.out]; exact Nat.le_refl _)]; rfl)
        have HA := hh.out.1
        subst HA
        go_wp2
        go_ret2
        exact ⟨.yes HF.out, HBel.out⟩
end Go.Proofs.YtmpjlenfnlijfaaGreatDoor
/- spelt, the point that a text may begin with. -/
namespace Go.Proofs.YtmpjlenfnlijfaaGreatDoor
open Go Go.RowKit Go.Kt Go.Kt.Rg

/-- strconv's two errors lie. -/
def SVar (w : World) : Prop := (∃ t p, w.cell? ⟨4, 0, none⟩ = some (.iface t p)) ∧ ∃ t p, w.cell? ⟨5, 0, none⟩ = some (.iface t p)
theorem SVar.below {A B : World} (h : SVar A) (hb : Below A.heap.size A B) : SVar B := by
  obtain ⟨⟨t, p, h1⟩, t2, p2, h2⟩ := h
  exact ⟨⟨t, p, (hb.cell (lt_of_cell h1)).trans h1⟩, t2, p2, (hb.cell (lt_of_cell h2)).trans h2⟩
theorem upB_ix : ∀ l : List UInt8, (Lib.indexByte l 125 = -1 ∧ upB l = l) ∨ ∃ o : Nat, Lib.indexByte l 125 = o ∧ o < l.length ∧ upB l = l.take o
  | [] => .inl ⟨rfl, rfl⟩
  | c :: t => by
    by_cases hc : c = 125
    · subst hc
      exact .inr ⟨0, by simp [Lib.indexByte], by simp, by simp [upB]⟩
    · have e : upB (c :: t) = c :: upB t := by simp [upB, hc]
      have hc' : (c == 125) = false := by simpa using hc
      rcases upB_ix t with ⟨h1, h2⟩ | ⟨o, h1, h2, h3⟩
      · exact .inl ⟨by simp [Lib.indexByte, hc', h1], by rw [e, h2]⟩
      · refine .inr ⟨o + 1, ?_, by simp; omega, by rw [e, h3]; rfl⟩
        unfold Lib.indexByte
        rw [hc', h1]
        have : ((o : Int) == -1) = false := by rw [beq_eq_false_iff_ne]; omega
        simp [this]

set_option maxRecDepth 100000 in
set_option maxHeartbeats 2000000 in
theorem cutB_any (s : ByteArray) (w : World) (hs : s.size ≤ 140737488351232) :
    Calls Tryz.prog 151 #[.string s, .string ⟨#[125]⟩] w fun e w' => ∃ (X : ByteArray) (b : Bool), e = .returned (.tuple #[.string ⟨(upB s.data.toList).toArray⟩, .string X, .bool b]) ∧ Below w.heap.size w w' := by
  have hln : s.data.toList.length = s.size := (Lib.size_eq s).symm
  have hsz1 : (⟨#[125]⟩ : ByteArray).size = 1 := rfl
  have C : Hid (Calls Tryz.prog 165 #[.string s, .string ⟨#[125]⟩] w fun e w' => ∃ (X : ByteArray) (b : Bool), e = .returned (.tuple #[.string ⟨(upB s.data.toList).toArray⟩, .string X, .bool b]) ∧ Below w.heap.size w w') := Lib.hid (by
    rcases upB_ix s.data.toList with ⟨h1, h2⟩ | ⟨o, h1, h2, h3⟩
    · have CI := Lib.hid (Tryz.stringslite_Index_one s 125 w)
      rw [h1] at CI
      rw [h2]
      have e : (⟨s.data.toList.toArray⟩ : ByteArray) = s := by cases s; simp
      rw [e]
      clear h1 h2 e hln hsz1
      go_enter Tryz.func165, Tryz.ntmps165
      go_wp2_with fail
      refine CI.out.mono ?_
      rintro e w' ⟨rfl, rfl⟩
      go_wp2
      go_ret3
      exact ⟨_, _, rfl, Below.refl _ _⟩
    · have CI := Lib.hid (Tryz.stringslite_Index_one s 125 w)
      rw [h1] at CI
      rw [h3, ← Lib.Pa.extract_upto]
      have c1 : (0 : Int) ≤ o := by omega
      have c2 : (o : Int) ≤ s.size := by omega
      have c3 : (0 : Int) ≤ (o : Int) + 1 := by omega
      have c4 : (o : Int) + 1 ≤ s.size := by omega
      clear h1 h2 h3 hln
      go_enter Tryz.func165, Tryz.ntmps165
      go_wp2_with fail
      refine CI.out.mono ?_
      rintro e w' ⟨rfl, rfl⟩
      go_wp2
      go_region
      all_goals
        go_wp2
        go_ret3
        exact ⟨_, _, rfl, below_drewN (Below.refl _ _) 1⟩)
  clear hln hsz1 hs
  go_enter Tryz.func151, Tryz.ntmps151
  go_wp2_with fail
  refine C.out.mono ?_
  rintro e w' ⟨X, b, rfl, hb⟩
  have HB := Lib.hid hb
  clear hb
  go_wp2
  go_ret3
  exact ⟨X, b, rfl, HB.out⟩

set_option maxRecDepth 100000 in
set_option maxHeartbeats 2000000 in
theorem pu21_any (s : ByteArray) (w : World) (hs : s.size ≤ 140737488351232) (hV : SVar w) :
    Calls Tryz.prog 152 #[.string s, .int .i64 16, .int .i64 21] w fun e w' => PuOut 320 (fun _ => True) (puV 2097151 s.data.toList) e ∧ Below w.heap.size w w' := by
  have CI := Lib.hid (ipu21_any s w (by omega))
  have HV := Lib.hid hV
  obtain ⟨o, ho⟩ : ∃ o, puV 2097151 s.data.toList = o := ⟨_, rfl⟩
  rw [ho] at CI ⊢
  clear hV ho
  go_enter Tryz.func152, Tryz.ntmps152
  go_wp2_with fail
  refine CI.out.mono ?_
  rintro e w1 ⟨hp, hb⟩
  have HB := Lib.hid hb
  clear hb
  cases o with
  | some n =>
    obtain rfl := hp
    have HF := Lib.hid (PuOut.yes (T := 320) (K := fun _ => True) (o := some n) rfl)
    go_wp2
    go_ret2
    exact ⟨HF.out, HB.out⟩
  | none =>
    obtain ⟨z, k, rfl, hk⟩ := hp
    have HF := Lib.hid (fun v => PuOut.no (T := 320) (K := fun _ => True) (o := none) z (k := v) rfl trivial)
    obtain ⟨⟨t1, p1, v1⟩, t2, p2, v2⟩ := HV.out.below HB.out
    rcases hk with rfl | rfl
    · have CT := Lib.hid (fun fn => Tryz.strconv_toError_range fn s 16 21 _ w1 (by omega) v2 (.inr ⟨_, _, rfl⟩))
      clear v1 v2
      go_wp2_with fail
      refine (CT.out _).mono ?_
      rintro e w2 ⟨N, rfl, _, _, hb2⟩
      have HB2 := Lib.hid (HB.out.trans (hb2.mono HB.out.size))
      clear hb2
      go_wp2
      go_ret2
      exact ⟨HF.out _, HB2.out⟩
    · have CT := Lib.hid (fun fn => Tryz.strconv_toError_syntax fn s 16 21 _ w1 (by omega) v1 (.inr ⟨_, _, rfl⟩))
      clear v1 v2
      go_wp2_with fail
      refine (CT.out _).mono ?_
      rintro e w2 ⟨N, rfl, _, _, hb2⟩
      have HB2 := Lib.hid (HB.out.trans (hb2.mono HB.out.size))
      clear hb2
      go_wp2
      go_ret2
      exact ⟨HF.out _, HB2.out⟩

theorem data_mk (l : List UInt8) : (⟨l.toArray⟩ : ByteArray).data.toList = l := rfl
theorem size_mk (l : List UInt8) : (⟨l.toArray⟩ : ByteArray).size = l.length := by show l.toArray.size = _; simp
theorem upB_len (l : List UInt8) : (upB l).length ≤ l.length := by unfold upB; exact (List.takeWhile_sublist _).length_le

set_option maxRecDepth 100000 in
set_option maxHeartbeats 4000000 in
theorem rspelt_1 (s : ByteArray) (w : World) (hs : s.size ≤ 140737488351232) (hV : SVar w) (h1 : [92, 117, 123].isPrefixOf s.data.toList = true) :
    Calls Tryz.prog 131 #[.string s] w fun e w' => e = .returned (.int .i32 (sptR s.data.toList)) ∧ Below w.heap.size w w' := by
  obtain ⟨l, hl⟩ : ∃ l, s.data.toList = l := ⟨_, rfl⟩
  have hln : l.length = s.size := by rw [← hl]; exact (Lib.size_eq s).symm
  have C1 := Lib.hid (fun V => Tryz.strings_CutPrefix s ⟨#[92, 117, 123]⟩ V)
  have C2 := Lib.hid (fun V => Tryz.strings_CutPrefix s ⟨#[92, 120]⟩ V)
  rw [hl] at C1 C2 h1 ⊢
  have CC := Lib.hid (fun (t : ByteArray) V (h : t.size ≤ 140737488351232) => cutB_any t V h)
  have CP := Lib.hid (fun (t : ByteArray) V (h : t.size ≤ 140737488351232) (hb : Below w.heap.size w V) => pu21_any t V h (hV.below hb))
  have BD := Lib.hid (fun (n : Nat) (q : List UInt8) (h : puV 2097151 q = some n) => puV_bd h)
  have HS : Hid (sptR l = match puV 2097151 (sptD l).2 with | none => -1 | some n => (sptD l).1 + (n : Int)) := Lib.hid rfl
  obtain ⟨R, hR⟩ : ∃ R, sptR l = R := ⟨_, rfl⟩
  rw [hR] at HS ⊢
  have HLN := Lib.hid hln
  have HW : Hid (s.size ≤ 140737488351232) := Lib.hid hs
  clear hV hl hR hln hs
  have hD : sptD l = (0, upB (l.drop 3)) := by unfold sptD; rw [if_pos h1]
  have D1 : Hid (∀ V, Calls Tryz.prog 150 #[.string s, .string ⟨#[92, 117, 123]⟩] V fun e w' => e = .returned (.tuple #[.string ⟨(l.drop 3).toArray⟩, .bool true]) ∧ V = w') := Lib.hid fun V => by
    refine (C1.out V).mono ?_
    rintro e w' ⟨rfl, rfl⟩
    have hp : Lib.hasPrefix l [92, 117, 123] = true := h1
    refine ⟨?_, rfl⟩
    show Ending.returned (.tuple #[.string ⟨(Lib.trimPrefix l [92, 117, 123]).toArray⟩, .bool (Lib.hasPrefix l [92, 117, 123])]) = _
    unfold Lib.trimPrefix
    rw [hp]; rfl
  have hz : (⟨(l.drop 3).toArray⟩ : ByteArray).size ≤ 140737488351232 := by rw [size_mk, List.length_drop]; have := HLN.out; have := HW.out; omega
  have D2 := Lib.hid (fun V => CC.out ⟨(l.drop 3).toArray⟩ V hz)
  rw [hD] at HS
  try simp only at D2
  obtain ⟨D, hDD⟩ : ∃ D, upB (l.drop 3) = D := ⟨_, rfl⟩
  have hzd : (⟨D.toArray⟩ : ByteArray).size ≤ 140737488351232 := by rw [size_mk, ← hDD]; have := upB_len (l.drop 3); rw [List.length_drop] at this; have := HLN.out; have := HW.out; omega
  rw [hDD] at HS D2
  have D3 := Lib.hid (fun V => CP.out ⟨D.toArray⟩ V hzd)
  try simp only at D3 HS
  generalize (⟨(l.drop 3).toArray⟩ : ByteArray) = RS at *
  generalize (⟨D.toArray⟩ : ByteArray) = DS at *
  clear hD hDD hz hzd h1 C1 C2 CC CP
  go_enter Tryz.func131, Tryz.ntmps131
  go_wp2_with fail
  refine (D1.out _).mono ?_
  rintro e w1 ⟨rfl, rfl⟩
  go_wp2_with fail
  refine (D2.out _).mono ?_
  rintro e w1 ⟨X, b, rfl, hb⟩
  have HB := Lib.hid hb
  clear hb
  go_wp2_with fail
  refine (D3.out _ HB.out).mono ?_
  rintro e w2 ⟨hp, hb2⟩
  have HB2 := Lib.hid (HB.out.trans (hb2.mono HB.out.size))
  clear hb2
  obtain ⟨o, ho⟩ : ∃ o, puV 2097151 D = o := ⟨_, rfl⟩
  have hp2 : PuOut 320 (fun _ => True) o e := by rw [← ho]; exact hp
  clear hp
  rw [ho] at HS
  cases o with
  | some n =>
    obtain rfl := hp2
    have hn : n ≤ 2097151 := BD.out n _ ho
    have HE : Hid (R = (n : Int)) := Lib.hid (by have := HS.out; simp only at this; omega)
    clear HS ho
    go_wp2
    go_ret
    exact ⟨by rw [HE.out]; (first | done | rfl), HB2.out⟩
  | none =>
    obtain ⟨z, k, rfl, _⟩ := hp2
    have HE : Hid (R = -1) := Lib.hid HS.out
    clear HS ho
    go_wp2
    go_ret
    exact ⟨by rw [HE.out]; (first | done | rfl), HB2.out⟩

set_option maxRecDepth 100000 in
set_option maxHeartbeats 4000000 in
theorem rspelt_2 (s : ByteArray) (w : World) (hs : s.size ≤ 140737488351232) (hV : SVar w) (h1 : ¬ [92, 117, 123].isPrefixOf s.data.toList = true) (h2 : [92, 120].isPrefixOf s.data.toList = true) :
    Calls Tryz.prog 131 #[.string s] w fun e w' => e = .returned (.int .i32 (sptR s.data.toList)) ∧ Below w.heap.size w w' := by
  obtain ⟨l, hl⟩ : ∃ l, s.data.toList = l := ⟨_, rfl⟩
  have hln : l.length = s.size := by rw [← hl]; exact (Lib.size_eq s).symm
  have C1 := Lib.hid (fun V => Tryz.strings_CutPrefix s ⟨#[92, 117, 123]⟩ V)
  have C2 := Lib.hid (fun V => Tryz.strings_CutPrefix s ⟨#[92, 120]⟩ V)
  rw [hl] at C1 C2 h1 h2 ⊢
  have CC := Lib.hid (fun (t : ByteArray) V (h : t.size ≤ 140737488351232) => cutB_any t V h)
  have CP := Lib.hid (fun (t : ByteArray) V (h : t.size ≤ 140737488351232) (hb : Below w.heap.size w V) => pu21_any t V h (hV.below hb))
  have BD := Lib.hid (fun (n : Nat) (q : List UInt8) (h : puV 2097151 q = some n) => puV_bd h)
  have HS : Hid (sptR l = match puV 2097151 (sptD l).2 with | none => -1 | some n => (sptD l).1 + (n : Int)) := Lib.hid rfl
  obtain ⟨R, hR⟩ : ∃ R, sptR l = R := ⟨_, rfl⟩
  rw [hR] at HS ⊢
  have HLN := Lib.hid hln
  have HW : Hid (s.size ≤ 140737488351232) := Lib.hid hs
  clear hV hl hR hln hs
  have D1 : Hid (∀ V, Calls Tryz.prog 150 #[.string s, .string ⟨#[92, 117, 123]⟩] V fun e w' => ∃ X, e = .returned (.tuple #[.string X, .bool false]) ∧ V = w') := Lib.hid fun V => by
    refine (C1.out V).mono ?_
    rintro e w' ⟨rfl, rfl⟩
    have hp : Lib.hasPrefix l [92, 117, 123] = false := Bool.eq_false_iff.2 h1
    refine ⟨⟨(Lib.trimPrefix l [92, 117, 123]).toArray⟩, ?_, rfl⟩
    show Ending.returned (.tuple #[.string ⟨(Lib.trimPrefix l [92, 117, 123]).toArray⟩, .bool (Lib.hasPrefix l [92, 117, 123])]) = _
    rw [hp]
  have hD : sptD l = (1114112, (l.drop 2).take 2) := by unfold sptD; rw [if_neg h1, if_pos h2]
  have D2 : Hid (∀ V, Calls Tryz.prog 150 #[.string s, .string ⟨#[92, 120]⟩] V fun e w' => e = .returned (.tuple #[.string ⟨(l.drop 2).toArray⟩, .bool true]) ∧ V = w') := Lib.hid fun V => by
    refine (C2.out V).mono ?_
    rintro e w' ⟨rfl, rfl⟩
    have hp : Lib.hasPrefix l [92, 120] = true := h2
    refine ⟨?_, rfl⟩
    show Ending.returned (.tuple #[.string ⟨(Lib.trimPrefix l [92, 120]).toArray⟩, .bool (Lib.hasPrefix l [92, 120])]) = _
    unfold Lib.trimPrefix
    rw [hp]; rfl
  obtain ⟨RS, hRS⟩ : ∃ RS : ByteArray, (⟨(l.drop 2).toArray⟩ : ByteArray) = RS := ⟨_, rfl⟩
  have hrl : RS.data.toList = l.drop 2 := by rw [← hRS]
  have hz : RS.size ≤ 140737488351232 := by rw [← hRS, size_mk, List.length_drop]; have := HLN.out; have := HW.out; omega
  rw [hRS] at D2
  rw [hD, ← hrl] at HS
  simp only at HS
  clear hD h1 h2 C1 C2 CC hRS hrl
  have hM : RS.data.toList.take (min 2 (RS.size : Int)).toNat = RS.data.toList.take 2 := by
    have hn : RS.data.toList.length = RS.size := (Lib.size_eq RS).symm
    by_cases h : 2 ≤ RS.size
    · rw [show (min 2 (RS.size : Int)).toNat = 2 by omega]
    · rw [show (min 2 (RS.size : Int)).toNat = RS.size by omega, List.take_of_length_le (by omega), List.take_of_length_le (by omega)]
  have D3 : Hid (∀ V, Below w.heap.size w V → Calls Tryz.prog 152 #[.string (RS.extract 0 (min 2 (RS.size : Int)).toNat), .int .i64 16, .int .i64 21] V fun e w' => PuOut 320 (fun _ => True) (puV 2097151 (RS.data.toList.take 2)) e ∧ Below V.heap.size V w') := Lib.hid fun V hb => by
    have := CP.out (RS.extract 0 (min 2 (RS.size : Int)).toNat) V (by rw [ByteArray.size_extract]; omega) hb
    rw [Lib.Pa.extract_upto_list, hM] at this
    exact this
  have hm0 : (0 : Int) ≤ min 2 (RS.size : Int) := by omega
  have hm1 : min 2 (RS.size : Int) ≤ RS.size := by omega
  clear CP hM
  go_enter Tryz.func131, Tryz.ntmps131
  go_wp2_with fail
  refine (D1.out _).mono ?_
  rintro e w1 ⟨X, rfl, rfl⟩
  go_wp2_with fail
  refine (D2.out _).mono ?_
  rintro e w1 ⟨rfl, rfl⟩
  go_wp2_with fail
  go_region
  all_goals
    go_wp2_with fail
    refine (D3.out _ (Below.refl _ _).drew).mono ?_
    rintro e w2 ⟨hp, hb2⟩
    have HB2 := Lib.hid ((Below.refl w.heap.size w).drew.trans (hb2.mono (Below.refl w.heap.size w).drew.size))
    clear hb2
    obtain ⟨o, ho⟩ : ∃ o, puV 2097151 (RS.data.toList.take 2) = o := ⟨_, rfl⟩
    have hp2 : PuOut 320 (fun _ => True) o e := by rw [← ho]; exact hp
    clear hp
    rw [ho] at HS
    cases o with
    | some n =>
      obtain rfl := hp2
      have hn : n ≤ 2097151 := BD.out n _ ho
      have HE : Hid (R = 1114112 + (n : Int)) := Lib.hid (by have := HS.out; simp only at this; omega)
      clear HS ho
      go_wp2
      go_ret
      exact ⟨by rw [HE.out]; (first | done | rfl), HB2.out⟩
    | none =>
      obtain ⟨z, k, rfl, _⟩ := hp2
      have HE : Hid (R = -1) := Lib.hid HS.out
      clear HS ho
      go_wp2
      go_ret
      exact ⟨by rw [HE.out]; (first | done | rfl), HB2.out⟩

set_option maxRecDepth 100000 in
set_option maxHeartbeats 4000000 in
theorem rspelt_3 (s : ByteArray) (w : World) (hs : s.size ≤ 140737488351232) (hV : SVar w) (h1 : ¬ [92, 117, 123].isPrefixOf s.data.toList = true) (h2 : ¬ [92, 120].isPrefixOf s.data.toList = true) :
    Calls Tryz.prog 131 #[.string s] w fun e w' => e = .returned (.int .i32 (sptR s.data.toList)) ∧ Below w.heap.size w w' := by
  obtain ⟨l, hl⟩ : ∃ l, s.data.toList = l := ⟨_, rfl⟩
  have hln : l.length = s.size := by rw [← hl]; exact (Lib.size_eq s).symm
  have C1 := Lib.hid (fun V => Tryz.strings_CutPrefix s ⟨#[92, 117, 123]⟩ V)
  have C2 := Lib.hid (fun V => Tryz.strings_CutPrefix s ⟨#[92, 120]⟩ V)
  rw [hl] at C1 C2 h1 h2 ⊢
  have CC := Lib.hid (fun (t : ByteArray) V (h : t.size ≤ 140737488351232) => cutB_any t V h)
  have CP := Lib.hid (fun (t : ByteArray) V (h : t.size ≤ 140737488351232) (hb : Below w.heap.size w V) => pu21_any t V h (hV.below hb))
  have BD := Lib.hid (fun (n : Nat) (q : List UInt8) (h : puV 2097151 q = some n) => puV_bd h)
  have HS : Hid (sptR l = match puV 2097151 (sptD l).2 with | none => -1 | some n => (sptD l).1 + (n : Int)) := Lib.hid rfl
  obtain ⟨R, hR⟩ : ∃ R, sptR l = R := ⟨_, rfl⟩
  rw [hR] at HS ⊢
  have HLN := Lib.hid hln
  have HW : Hid (s.size ≤ 140737488351232) := Lib.hid hs
  clear hV hl hR hln hs
  have D1 : Hid (∀ V, Calls Tryz.prog 150 #[.string s, .string ⟨#[92, 117, 123]⟩] V fun e w' => ∃ X, e = .returned (.tuple #[.string X, .bool false]) ∧ V = w') := Lib.hid fun V => by
    refine (C1.out V).mono ?_
    rintro e w' ⟨rfl, rfl⟩
    have hp : Lib.hasPrefix l [92, 117, 123] = false := Bool.eq_false_iff.2 h1
    refine ⟨⟨(Lib.trimPrefix l [92, 117, 123]).toArray⟩, ?_, rfl⟩
    show Ending.returned (.tuple #[.string ⟨(Lib.trimPrefix l [92, 117, 123]).toArray⟩, .bool (Lib.hasPrefix l [92, 117, 123])]) = _
    rw [hp]
  have hD : sptD l = (0, []) := by unfold sptD; rw [if_neg h1, if_neg h2]
  have D2 : Hid (∀ V, Calls Tryz.prog 150 #[.string s, .string ⟨#[92, 120]⟩] V fun e w' => ∃ X, e = .returned (.tuple #[.string X, .bool false]) ∧ V = w') := Lib.hid fun V => by
    refine (C2.out V).mono ?_
    rintro e w' ⟨rfl, rfl⟩
    have hp : Lib.hasPrefix l [92, 120] = false := Bool.eq_false_iff.2 h2
    refine ⟨⟨(Lib.trimPrefix l [92, 120]).toArray⟩, ?_, rfl⟩
    show Ending.returned (.tuple #[.string ⟨(Lib.trimPrefix l [92, 120]).toArray⟩, .bool (Lib.hasPrefix l [92, 120])]) = _
    rw [hp]
  have D3 := Lib.hid (fun V => CP.out ⟨#[]⟩ V (by show 0 ≤ _; omega))
  rw [hD] at HS
  simp only at HS
  clear hD h1 h2 C1 C2 CC CP
  go_enter Tryz.func131, Tryz.ntmps131
  go_wp2_with fail
  refine (D1.out _).mono ?_
  rintro e w1 ⟨X, rfl, rfl⟩
  go_wp2_with fail
  refine (D2.out _).mono ?_
  rintro e w1 ⟨X2, rfl, rfl⟩
  go_wp2_with fail
  refine (D3.out _ (Below.refl _ _)).mono ?_
  rintro e w2 ⟨hp, hb2⟩
  have HB2 := Lib.hid ((Below.refl w.heap.size w).trans (hb2.mono (Below.refl w.heap.size w).size))
  clear hb2
  obtain ⟨o, ho⟩ : ∃ o, puV 2097151 [] = o := ⟨_, rfl⟩
  have hp2 : PuOut 320 (fun _ => True) o e := by rw [← ho]; exact hp
  clear hp
  rw [ho] at HS
  cases o with
  | some n =>
    obtain rfl := hp2
    have hn : n ≤ 2097151 := BD.out n _ ho
    have HE : Hid (R = (n : Int)) := Lib.hid (by have := HS.out; simp only at this; omega)
    clear HS ho
    go_wp2
    go_ret
    exact ⟨by rw [HE.out]; (first | done | rfl), HB2.out⟩
  | none =>
    obtain ⟨z, k, rfl, _⟩ := hp2
    have HE : Hid (R = -1) := Lib.hid HS.out
    clear HS ho
    go_wp2
    go_ret
    exact ⟨by rw [HE.out]; (first | done | rfl), HB2.out⟩

theorem rspelt_any (s : ByteArray) (w : World) (hs : s.size ≤ 140737488351232) (hV : SVar w) :
    Calls Tryz.prog 131 #[.string s] w fun e w' => e = .returned (.int .i32 (sptR s.data.toList)) ∧ Below w.heap.size w w' := by
  by_cases h1 : [92, 117, 123].isPrefixOf s.data.toList = true
  · exact rspelt_1 s w hs hV h1
  · by_cases h2 : [92, 120].isPrefixOf s.data.toList = true
    · exact rspelt_2 s w hs hV h1 h2
    · exact rspelt_3 s w hs hV h1 h2
end Go.Proofs.YtmpjlenfnlijfaaGreatDoor
/- parsedPoint: the point that is written at a byte. -/
namespace Go.Proofs.YtmpjlenfnlijfaaGreatDoor
open Go Go.RowKit Go.Kt Go.Kt.Rg

/-- What Parse reads besides its text. -/
def PEnv (w : World) : Prop := REnv w ∧ SVar w
theorem PEnv.below {A B : World} (h : PEnv A) (hb : Below A.heap.size A B) : PEnv B := ⟨h.1.below hb, h.2.below hb⟩
abbrev faultV (no at_ : Int) : Value := .iface 83 (.agg #[.int .i64 no, .int .i64 0, .int .i64 at_])
/-- The answer of parsedPoint. -/
def PtOut (l : List UInt8) (p : Nat) (e : Ending) : Prop :=
  match ptAt (l.drop p) with
  | some (n, k) => e = .returned (.tuple #[.int .i64 n, .int .i64 ((p + k : Nat) : Int), .nilIface])
  | none => e = .returned (.tuple #[.int .i64 0, .int .i64 0, faultV 9 (p : Nat)])

set_option maxRecDepth 100000 in
set_option maxHeartbeats 2000000 in
theorem rpp_any (s : ByteArray) (p : Nat) (w : World) (hp : p ≤ s.size) (hs : s.size ≤ 140737488351232) (hE : PEnv w) :
    Calls Tryz.prog 120 #[.string s, .int .i64 p] w fun e w' => PtOut s.data.toList p e ∧ Below w.heap.size w w' := by
  have hd : (s.extract p s.size).data.toList = s.data.toList.drop p := by rw [Lib.Pa.extract_from]
  have hz : (s.extract p s.size).size ≤ 140737488351232 := by rw [ByteArray.size_extract]; omega
  have CS := Lib.hid (rspelt_any (s.extract p s.size) w hz hE.2)
  have CH := Lib.hid (fun (t : ByteArray) V => Tryz.strings_HasPrefix (s.extract p s.size) t V)
  obtain ⟨l, hl⟩ : ∃ l, s.data.toList.drop p = l := ⟨_, rfl⟩
  rw [hd, hl] at CS
  simp only [hd, hl] at CH
  have HO : Hid (∀ e, PtOut s.data.toList p e ↔ match ptAt l with
    | some (n, k) => e = .returned (.tuple #[.int .i64 n, .int .i64 ((p + k : Nat) : Int), .nilIface])
    | none => e = .returned (.tuple #[.int .i64 0, .int .i64 0, faultV 9 (p : Nat)])) := Lib.hid fun e => by rw [← hl]; rfl
  obtain ⟨r, hr⟩ : ∃ r, sptR l = r := ⟨_, rfl⟩
  have hrb := sptR_bd l
  rw [hr] at CS hrb
  have CN := Lib.hid (fun V (hb : Below w.heap.size w V) => rnumber_any r V (hE.1.1.next hb) ⟨by omega, by omega⟩)
  obtain ⟨n, t, hn⟩ : ∃ n t, numB r = (n, t) := ⟨_, _, rfl⟩
  have HP : Hid (ptAt l = if t && (printP r).isPrefixOf l then some (n, (printP r).length) else none) := Lib.hid (by unfold ptAt; rw [hr, hn])
  rw [hn] at CN
  simp only at CN
  have hpl : (p : Int) ≤ s.size := by omega
  have hp0 : (0 : Int) ≤ p := by omega
  have hp1 : (p : Int) ≤ 140737488351232 := by omega
  cases t with
  | false =>
    have HF : Hid (PtOut s.data.toList p (.returned (.tuple #[.int .i64 0, .int .i64 0, faultV 9 (p : Nat)]))) := Lib.hid (by rw [HO.out, HP.out]; simp)
    clear hd hz hl hr hE hn hs hp HO HP CH
    go_enter Tryz.func120, Tryz.ntmps120
    go_wp2_with fail
    refine CS.out.mono ?_
    rintro e w1 ⟨rfl, hb⟩
    have HB := Lib.hid hb
    clear hb
    go_wp2_with fail
    refine (CN.out _ HB.out).mono ?_
    rintro e w2 ⟨rfl, hb2⟩
    have HB2 := Lib.hid (HB.out.trans (hb2.mono HB.out.size))
    clear hb2
    go_wp2_with fail
    go_quiet (fail)
    go_wp2
    go_ret3
    exact ⟨HF.out, below_drewN HB2.out _⟩
  | true =>
    have hnt := num_true (r := r) (by rw [hn])
    have CR := Lib.hid (fun V (hb : Below w.heap.size w V) => rprinted_any r V (hE.1.below hb).2.1 ⟨hnt.2.1, hnt.2.2.1⟩)
    have hpr := printP_len r
    obtain ⟨S, hS⟩ : ∃ S : ByteArray, (⟨(printP r).toArray⟩ : ByteArray) = S := ⟨_, rfl⟩
    have hSd : S.data.toList = printP r := by rw [← hS]
    have hSz : S.size = (printP r).length := by rw [← hS]; exact size_mk _
    rw [hS] at CR
    have CH2 := Lib.hid (fun V => CH.out S V)
    simp only [hSd] at CH2
    obtain ⟨b, hbb⟩ : ∃ b, Lib.hasPrefix l (printP r) = b := ⟨_, rfl⟩
    simp only [hbb] at CH2
    obtain ⟨m, hm⟩ : ∃ m, (printP r).length = m := ⟨_, rfl⟩
    rw [hm] at hSz hpr
    have HP2 : Hid (ptAt l = if b then some (n, m) else none) := Lib.hid (by rw [HP.out, Bool.true_and]; rw [show (printP r).isPrefixOf l = b from hbb, hm])
    have HZ : Hid (S.size = m) := Lib.hid hSz
    have hSz2 : S.size ≤ 13 := by omega
    cases b with
    | false =>
      have HF : Hid (PtOut s.data.toList p (.returned (.tuple #[.int .i64 0, .int .i64 0, faultV 9 (p : Nat)]))) := Lib.hid (by rw [HO.out, HP2.out]; simp)
      clear hd hz hl hr hE hn hs hp HO HP HP2 CH hnt hS hSd hbb hm hSz
      go_enter Tryz.func120, Tryz.ntmps120
      go_wp2_with fail
      refine CS.out.mono ?_
      rintro e w1 ⟨rfl, hb⟩
      have HB := Lib.hid hb
      clear hb
      go_wp2_with fail
      refine (CN.out _ HB.out).mono ?_
      rintro e w2 ⟨rfl, hb2⟩
      have HB2 := Lib.hid (HB.out.trans (hb2.mono HB.out.size))
      clear hb2
      go_wp2_with fail
      go_region_with (first
        | (go_at_call 85; refine (CR.out _ HB2.out.drew).mono ?_; rintro e w3 ⟨rfl, hb3⟩; have HB3 := Lib.hid (HB2.out.drew.trans (hb3.mono HB2.out.drew.size)); clear hb3)
        | (go_at_call 73; refine (CH2.out _).mono ?_; rintro e w4 ⟨rfl, rfl⟩))
      all_goals
        go_wp2
        go_ret3
        exact ⟨HF.out, HB3.out⟩
    | true =>
      have HF : Hid (PtOut s.data.toList p (.returned (.tuple #[.int .i64 n, .int .i64 ((p : Int) + (S.size : Nat)), .nilIface]))) := Lib.hid (by rw [HO.out, HP2.out]; simp only [if_true]; rw [HZ.out]; simp)
      clear hd hz hl hr hE hn hs hp HO HP HP2 CH hnt hS hSd hbb hm hSz
      go_enter Tryz.func120, Tryz.ntmps120
      go_wp2_with fail
      refine CS.out.mono ?_
      rintro e w1 ⟨rfl, hb⟩
      have HB := Lib.hid hb
      clear hb
      go_wp2_with fail
      refine (CN.out _ HB.out).mono ?_
      rintro e w2 ⟨rfl, hb2⟩
      have HB2 := Lib.hid (HB.out.trans (hb2.mono HB.out.size))
      clear hb2
      go_wp2_with fail
      go_region_with (first
        | (go_at_call 85; refine (CR.out _ HB2.out.drew).mono ?_; rintro e w3 ⟨rfl, hb3⟩; have HB3 := Lib.hid (HB2.out.drew.trans (hb3.mono HB2.out.drew.size)); clear hb3)
        | (go_at_call 73; refine (CH2.out _).mono ?_; rintro e w4 ⟨rfl, rfl⟩))
      all_goals
        go_wp2_with fail
        refine (CR.out _ HB3.out).mono ?_
        rintro e w5 ⟨rfl, hb5⟩
        have HB5 := Lib.hid (HB3.out.trans (hb5.mono HB3.out.size))
        clear hb5
        go_wp2
        go_ret3
        exact ⟨HF.out, HB5.out⟩
end Go.Proofs.YtmpjlenfnlijfaaGreatDoor
/- What the listed variables of RangesForms' and RangesBack's rows give the walks, and the world that their witnesses start in. -/
namespace Go.Proofs.YtmpjlenfnlijfaaGreatDoor
open Go.Lib Go.Shelf Go.Kt.Bits
set_option maxRecDepth 100000

noncomputable def theLaid6 : List (String × DataW Unit) := [("math/bits.deBruijn32tab", Rows.laid_math_bits_deBruijn32tab), ("math/bits.deBruijn64tab", Rows.laid_math_bits_deBruijn64tab), ("internal/strconv.uint64pow10", Rows.laid_internal_strconv_uint64pow10), ("strconv.ErrRange", Rows.laid_strconv_ErrRange), ("strconv.ErrSyntax", Rows.laid_strconv_ErrSyntax), ("glossary/ranges.parts", Rows.laid_glossary_ranges_parts)]

theorem trod_iface {H : Type} {enc : TypeId × Value → H} {P : Program} {w : World} {base : Nat} {sp : Nat → Bool} {held : Bool} {fuel : Nat} {t : TypeId} {cs : List Value} {T : String} {D : DataW H} {q : List MemPlace} {ms : Array (String × TypeId)}
    (ht : P.underlying t = some (.interface ms)) (h : DataW.trod enc P w base sp held fuel t cs = some (.iface T D, q)) : ∃ u v, cs = [.iface u v] := by
  cases fuel with
  | zero => simp [DataW.trod] at h
  | succ n =>
    unfold DataW.trod at h
    rw [ht] at h
    split at h <;> simp_all
theorem iface_of_reads {W : World} {nm : String} {g : Nat} {T : String} {D : DataW Unit} (hn : Tryz.prog.globalNamed nm = some g) (ht : (Tryz.prog.globals[g]?).map (·.type) = some 27) (h : VarReads Tryz.prog W nm (.iface T D)) : ∃ t p, W.cell? ⟨g, 0, none⟩ = some (.iface t p) := by
  obtain ⟨g', t, cs, fuel, p, hg, hty, hvar, hd⟩ := h
  obtain rfl := Option.some.inj (hn.symm.trans hg)
  obtain rfl := Option.some.inj (ht.symm.trans hty)
  obtain ⟨u, v, e⟩ := trod_iface Tryz.underlying27 hd
  refine ⟨u, v, ?_⟩
  rw [World.var?_cell hg hvar 0, ← Array.getElem?_toList, e]
  rfl
theorem of_laid6 {W : World} (h : laidMetH Tryz.prog theLaid6 W) : PEnv W := by
  have h' : laidMet Tryz.prog theLaid6 W := by rw [MakeChecks.laidMetH_plain _ _ _ (by kernel_rfl)] at h; exact h
  have hb := btab_of_reads (bruijn_eq ▸ laidMet.reads h' (.tail _ (.head _)))
  have hp := ptab_of_reads (parts_eq ▸ laidMet.reads h' (.tail _ (.tail _ (.tail _ (.tail _ (.tail _ (.head _)))))))
  have e1 := laidMet.reads h' (.tail _ (.tail _ (.tail _ (.head _))))
  have e2 := laidMet.reads h' (.tail _ (.tail _ (.tail _ (.tail _ (.head _)))))
  exact ⟨⟨hp, hb, Go.Kt.lt_of_cell (hb 0 (by decide))⟩, iface_of_reads (by kernel_rfl) (by kernel_rfl) e2, iface_of_reads (by kernel_rfl) (by kernel_rfl) e1⟩

/-- The witness's world. -/
noncomputable def world6 (os : Os) : World := World.laidAll Tryz.prog os theLaid6
theorem world6_os (os : Os) : (world6 os).os = os := World.laidAll_os _ _ _
theorem laid_met6 (os : Os) (args : Array Value) : laidMetH Tryz.prog theLaid6 ((world6 os).forCall (fun _ _ => 0) ⟨#[], args, []⟩).memory := by
  rw [MakeChecks.laidMetH_plain _ _ _ (by kernel_rfl)]
  exact laidMet_laidAll _ (by kernel_rfl) (by kernel_rfl)
end Go.Proofs.YtmpjlenfnlijfaaGreatDoor
/- What the walks of layer 3's laws ask of the world. -/
namespace Go.Proofs.YtmpjlenfnlijfaaGreatDoor
open Go Go.RowKit Go.Kt Go.Kt.Rg

/-- The tables lie, and the handle of errors' type. -/
def FEnv (w : World) : Prop := REnv w ∧ ErrT w
theorem FEnv.below {A B : World} (h : FEnv A) (hb : Below A.heap.size A B) : FEnv B := ⟨h.1.below hb, h.2.below (lt_of_cell h.2) hb⟩
end Go.Proofs.YtmpjlenfnlijfaaGreatDoor
/- What the listed variables of RangesReads', RangesMade's, RangesOf's rows give the walks, and the worlds that their witnesses start in. -/
namespace Go.Proofs.YtmpjlenfnlijfaaGreatDoor
open Go.Lib Go.Shelf Go.Kt.Bits
set_option maxRecDepth 100000

/-- The rows' lists: with the handle of an error's type, and without. -/
noncomputable def theLaid9 : List (String × DataW Unit) := [("math/bits.deBruijn32tab", Rows.laid_math_bits_deBruijn32tab), ("math/bits.deBruijn64tab", Rows.laid_math_bits_deBruijn64tab), ("internal/strconv.uint64pow10", Rows.laid_internal_strconv_uint64pow10), ("errors.errorType", Rows.laid_errors_errorType), ("strconv.ErrRange", Rows.laid_strconv_ErrRange), ("strconv.ErrSyntax", Rows.laid_strconv_ErrSyntax), ("glossary/ranges.parts", Rows.laid_glossary_ranges_parts)]
noncomputable def theLaid9b : List (String × DataW Unit) := [("math/bits.deBruijn32tab", Rows.laid_math_bits_deBruijn32tab), ("math/bits.deBruijn64tab", Rows.laid_math_bits_deBruijn64tab), ("internal/strconv.uint64pow10", Rows.laid_internal_strconv_uint64pow10), ("strconv.ErrRange", Rows.laid_strconv_ErrRange), ("strconv.ErrSyntax", Rows.laid_strconv_ErrSyntax), ("glossary/ranges.parts", Rows.laid_glossary_ranges_parts)]
noncomputable def theLaid10 : List (String × DataW Unit) := [("math/bits.deBruijn32tab", Rows.laid_math_bits_deBruijn32tab), ("math/bits.deBruijn64tab", Rows.laid_math_bits_deBruijn64tab), ("internal/strconv.uint64pow10", Rows.laid_internal_strconv_uint64pow10), ("errors.errorType", Rows.laid_errors_errorType), ("glossary/ranges.parts", Rows.laid_glossary_ranges_parts)]
noncomputable def theLaid10b : List (String × DataW Unit) := [("math/bits.deBruijn32tab", Rows.laid_math_bits_deBruijn32tab), ("math/bits.deBruijn64tab", Rows.laid_math_bits_deBruijn64tab), ("internal/strconv.uint64pow10", Rows.laid_internal_strconv_uint64pow10), ("glossary/ranges.parts", Rows.laid_glossary_ranges_parts)]

theorem errIx9 : Tryz.prog.globalNamed "errors.errorType" = some 1 := by kernel_rfl
theorem rtypeIx9 : (Tryz.prog.cutTypes.find? (·.1 == "internal/reflectlite.rtype")).map (·.2) = some 291 := by kernel_rfl
theorem typesN9 : Tryz.prog.types.size = 361 := by kernel_rfl
theorem errRow9 : ((List.range 361).filter fun t => Tryz.prog.rowNamed t [101, 114, 114, 111, 114]) = [27] := by kernel_rfl
theorem errT_of_handles9 {W : World} (h : handlesMet Tryz.prog [("errors.errorType", Rows.laid_errors_errorType)] W) : ErrT W := by
  obtain ⟨name, u, ty, e1, e2, e3, e4, e5⟩ := h _ (List.mem_singleton.2 rfl)
  have en : name = [101, 114, 114, 111, 114] := (Option.some.inj e1).symm
  subst en
  obtain rfl := Option.some.inj (rtypeIx9.symm.trans e2)
  have hm : ty ∈ (List.range 361).filter fun t => Tryz.prog.rowNamed t [101, 114, 114, 111, 114] := List.mem_filter.2 ⟨List.mem_range.2 (by rw [← typesN9]; exact e3), e4⟩
  rw [errRow9] at hm
  obtain rfl := List.mem_singleton.1 hm
  have hh : typeHandle Tryz.prog 27 = tyH 27 := by kernel_rfl
  rw [hh] at e5
  simpa using World.var?_cell errIx9 e5 0


theorem of_laid9 {W : World} (h : laidMetH Tryz.prog theLaid9 W) : PEnv W ∧ FEnv W := by
  have h' : laidMet Tryz.prog theLaid9b W ∧ handlesMet Tryz.prog [("errors.errorType", Rows.laid_errors_errorType)] W := h
  have hb := btab_of_reads (bruijn_eq ▸ laidMet.reads h'.1 (.tail _ (.head _)))
  have hp := ptab_of_reads (parts_eq ▸ laidMet.reads h'.1 (.tail _ (.tail _ (.tail _ (.tail _ (.tail _ (.head _)))))))
  have e1 := laidMet.reads h'.1 (.tail _ (.tail _ (.tail _ (.head _))))
  have e2 := laidMet.reads h'.1 (.tail _ (.tail _ (.tail _ (.tail _ (.head _)))))
  have hR : REnv W := ⟨hp, hb, Go.Kt.lt_of_cell (hb 0 (by decide))⟩
  exact ⟨⟨hR, iface_of_reads (by kernel_rfl) (by kernel_rfl) e2, iface_of_reads (by kernel_rfl) (by kernel_rfl) e1⟩, hR, errT_of_handles9 h'.2⟩
theorem of_laid10 {W : World} (h : laidMetH Tryz.prog theLaid10 W) : FEnv W := by
  have h' : laidMet Tryz.prog theLaid10b W ∧ handlesMet Tryz.prog [("errors.errorType", Rows.laid_errors_errorType)] W := h
  have hb := btab_of_reads (bruijn_eq ▸ laidMet.reads h'.1 (.tail _ (.head _)))
  have hp := ptab_of_reads (parts_eq ▸ laidMet.reads h'.1 (.tail _ (.tail _ (.tail _ (.head _)))))
  exact ⟨⟨hp, hb, Go.Kt.lt_of_cell (hb 0 (by decide))⟩, errT_of_handles9 h'.2⟩

/-- The settled world, errors.errorType laid. -/
noncomputable def errWorld9 (os : Os) : World :=
  let w0 := World.holding Tryz.prog os ⟨#[], #[], []⟩
  { w0 with heap := w0.heap.modify 1 fun
      | .cells _ t frozen => .cells #[.iface 291 (.agg #[tyH 27])] t frozen
      | o => o }
theorem laidMet_on9 {P : Program} {w0 : World} {laid : List (String × DataW Unit)} (args : Array Value) (hf : w0.layFits P laid [] = true) (hi : w0.layIfaces P laid (w0.layVars P laid) = true) :
    laidMet P laid ((w0.layVars P laid).forCall (fun _ _ => 0) ⟨#[], args, []⟩).memory := by
  have e1 : (laid.filter fun x => (laid.map (·.1)).contains x.1) = laid := List.filter_eq_self.2 fun x hx => List.contains_iff_mem.2 (List.mem_map.2 ⟨x, hx, rfl⟩)
  have e2 : (laid.filter fun x => !(laid.map (·.1)).contains x.1) = [] := List.filter_eq_nil_iff.2 fun x hx => by rw [List.contains_iff_mem.2 (List.mem_map.2 ⟨x, hx, rfl⟩)]; simp
  have h : laidMet P laid (w0.layVars P laid) := laidMet_layVars (w0 := w0) (laid.map (·.1)) [] (by rw [e1]) (by rw [e1]; exact hf) (by rw [e1]; exact hi) (by rw [e2]; exact LaidIn.none)
  exact h.of_heap (by simp [World.memory, World.forCall, Input.heap])


/-- The witnesses' worlds. -/
noncomputable def world9 (os : Os) : World := (errWorld9 os).layVars Tryz.prog theLaid9b
theorem world9_os (os : Os) : (world9 os).os = os := World.layVars_os _ _ _
theorem laid_met9 (os : Os) (args : Array Value) : laidMetH Tryz.prog theLaid9 ((world9 os).forCall (fun _ _ => 0) ⟨#[], args, []⟩).memory :=
  laidMetH_of_parts (show laidMet Tryz.prog theLaid9b _ from laidMet_on9 args (by kernel_rfl) (by kernel_rfl)) (by kernel_rfl)
noncomputable def world10 (os : Os) : World := (errWorld9 os).layVars Tryz.prog theLaid10b
theorem world10_os (os : Os) : (world10 os).os = os := World.layVars_os _ _ _
theorem laid_met10 (os : Os) (args : Array Value) : laidMetH Tryz.prog theLaid10 ((world10 os).forCall (fun _ _ => 0) ⟨#[], args, []⟩).memory :=
  laidMetH_of_parts (show laidMet Tryz.prog theLaid10b _ from laidMet_on9 args (by kernel_rfl) (by kernel_rfl)) (by kernel_rfl)
end Go.Proofs.YtmpjlenfnlijfaaGreatDoor
/- ranges.Of. -/
namespace Go.Proofs.YtmpjlenfnlijfaaGreatDoor
open Go Go.RowKit Go.Kt Go.Kt.Rg

/-- The memory of n empty runs. -/
theorem mk_zeros (W : World) (n : Nat) (hn : 16 * n ≤ 281474976710656) :
    ∃ w2, (Instr.makeSlice 78 (.int .i64 (n : Int)) (.int .i64 (n : Int))).run Tryz.prog W = .ok (.slice (some ⟨W.heap.size, 0, none⟩) n n) w2 ∧
      OwnS (fun b => W.heap.size ≤ b) 85 2 (.slice (some ⟨W.heap.size, 0, none⟩) n n) n (encR (List.replicate n (0, 0))) w2 ∧ Below W.heap.size W w2 := by
  obtain ⟨i, hi, hz, hs1, hbb1⟩ := info_parts tinfoRun
  have hr := run_make (P := Tryz.prog) W 78 85 i _ Tryz.underlying78 hi hz .i64 .i64 n n (by omega) (Int.le_refl _) (by rw [hbb1]; omega) (by omega)
  simp only [Int.toNat_natCast] at hr
  rw [hs1] at hr
  refine ⟨_, hr, ⟨⟨by rw [encR_len, List.length_replicate], .inr ⟨W.heap.size, n, _, rfl, Nat.zero_le _, heap_alloc_new W _, Nat.le_refl _, by unfold maxLen; omega, by simp [madeCells], ?_⟩⟩, fun g hg => by cases hg; exact Nat.le_refl _⟩, (Below.refl _ W).alloc (Nat.le_refl _) _⟩
  apply List.ext_getElem?
  intro j
  have hz2 : ∀ (m : Nat), (encR (List.replicate m (0, 0)))[j]? = if j < m * 2 then some (.int .i64 0) else none := by
    intro m
    split
    · rename_i h
      have e := encR_get (List.replicate m (0, 0)) (j / 2) (0, 0) (by rw [List.getElem?_replicate, if_pos (by omega)])
      rcases (by omega : j % 2 = 0 ∨ j % 2 = 1) with k | k
      · rw [show j / 2 * 2 = j by omega] at e; exact e.1
      · rw [show j / 2 * 2 + 1 = j by omega] at e; exact e.2
    · rename_i h
      exact List.getElem?_eq_none (by rw [encR_len, List.length_replicate]; omega)
  rw [hz2]
  by_cases hj : j < n * 2
  · rw [if_pos hj, List.getElem?_take, if_pos hj]
    simp only [madeCells, Value.cells]
    rw [Array.getElem?_toList]
    simp [hj]
    rcases (by omega : j % 2 = 0 ∨ j % 2 = 1) with k | k <;> simp [k]
  · rw [if_neg hj, List.getElem?_take, if_neg hj]

theorem encR_put (l : List Run) (x y : Run) (t : List Run) : ((encR (l ++ x :: t)).set (l.length * 2) (.int .i64 y.1)).set (l.length * 2 + 1) (.int .i64 y.2) = encR (l ++ y :: t) := by
  rw [encR_append, encR_append, List.set_append_right _ _ (by rw [encR_len]; omega), encR_len, Nat.sub_self, List.set_append_right _ _ (by rw [encR_len]; omega), encR_len]
  rw [show l.length * 2 + 1 - l.length * 2 = 1 by omega]
  rfl

/-- The answer of Of. -/
def OfOut (l : List (Int × Int)) (w : World) (e : Ending) (w' : World) : Prop :=
  ((∃ k x, l[k]? = some x ∧ badR x ≠ 0 ∧ (∀ j y, j < k → l[j]? = some y → badR y = 0) ∧ e = .returned (.tuple #[.pointer none, .iface 83 (.agg #[.int .i64 (badR x), .int .i64 0, .int .i64 (k : Nat)])])) ∨
   ((∀ x ∈ l, badR x = 0) ∧ ∃ b, e = .returned (.tuple #[ptrV b, .nilIface]) ∧ SetAt (canonOf (numsR l)) b w')) ∧ Below w.heap.size w w'
set_option maxRecDepth 100000 in
set_option maxHeartbeats 2000000 in
theorem rof_any (l : List (Int × Int)) (v : Value) (w : World) (h : SpG w v l) (hT : PTab w) (hl : l.length ≤ 2199023255552) (hw : ∀ x ∈ l, (-2147483648 ≤ x.1 ∧ x.1 ≤ 2147483647) ∧ (-2147483648 ≤ x.2 ∧ x.2 ≤ 2147483647)) :
    Calls Tryz.prog 7 #[v] w (OfOut l w) := by
  have H := Lib.hid h
  obtain ⟨ao, cap, rfl, h2⟩ := h
  have H2 := Lib.hid h2
  have HT := Lib.hid hT
  have HW := Lib.hid hw
  obtain ⟨n, hn⟩ : ∃ n, l.length = n := ⟨_, rfl⟩
  rw [hn] at hl H ⊢
  have HN := Lib.hid hn
  obtain ⟨w1, hrun, hown1, hb1⟩ := mk_zeros w n (by omega)
  have CN := Lib.hid (fun (r : Int) (V : World) (hr : -2147483648 ≤ r ∧ r ≤ 2147483647) (hb : Below w.heap.size w V) => rnumber_any r V (HT.out.next hb) hr)
  have O1 := Lib.hid (And.intro hown1 hb1)
  have FT : Hid (∀ (x : Int × Int) (k : Nat) (V : World), l[k]? = some x → badR x ≠ 0 → (∀ j y, j < k → l[j]? = some y → badR y = 0) → Below w.heap.size w V → OfOut l w (.returned (.tuple #[.pointer none, .iface 83 (.agg #[.int .i64 (badR x), .int .i64 0, .int .i64 (k : Nat)])])) V) :=
    Lib.hid fun x k V h1 h2 h3 h4 => ⟨.inl ⟨k, x, h1, h2, h3, rfl⟩, h4⟩
  clear h2 hT hw hn hown1 hb1
  go_enter Tryz.func7, Tryz.ntmps7
  go_wp2
  go_loopw [16] (fun x wr => ∃ k : Nat, x = .int .i64 k ∧ k ≤ n ∧ (∀ j y, j < k → l[j]? = some y → badR y = 0) ∧ OwnS (fun b => w.heap.size ≤ b) 85 2 (.slice (some ⟨w.heap.size, 0, none⟩) n n) n (encR (numsR (l.take k) ++ List.replicate (n - k) (0, 0))) wr ∧ Below w.heap.size w wr) (fun x _ => n - (RowKit.intOf x).toNat)
  case atStart => exact ⟨0, rfl, by omega, fun j y hj => by omega, by have := O1.out.1; simpa [numsR] using this, O1.out.2⟩
  case round =>
    obtain ⟨k, rfl, hk, hgood, hown, hb⟩ := hrel
    have HI := Lib.hid (And.intro hgood (And.intro hown hb))
    have hbs := hb.size
    clear hgood hown hb hrun
    by_cases hlt : k < n
    · have hlt' : (k : Int) < n := by omega
      obtain ⟨x, hx⟩ : ∃ x, l[k]? = some x := ⟨_, List.getElem?_eq_getElem (by rw [HN.out]; exact hlt)⟩
      obtain ⟨g, off, rfl, r1, r2⟩ : ∃ g off, ao = some ⟨g, off, none⟩ ∧ wr.cell? ⟨g, off + k * 2, none⟩ = some (.int .i32 x.1) ∧ wr.cell? ⟨g, off + k * 2 + 1, none⟩ = some (.int .i32 x.2) := by
        rcases H2.out with h | ⟨g, off, e, h⟩
        · subst h; simp at hx
        · exact ⟨g, off, e, (HI.out.2.2.cell (lt_of_cell (h k x hx).1)).trans (h k x hx).1, (HI.out.2.2.cell (lt_of_cell (h k x hx).2)).trans (h k x hx).2⟩
      have hxw := HW.out x (List.mem_of_getElem? hx)
      have HX := Lib.hid hx
      have F := Lib.hid (fun V => FT.out x k V hx)
      have hbad : Hid (badR x = if (numB x.1).2 = false ∨ (numB x.2).2 = false then 8 else if (numB x.2).1 < (numB x.1).1 then 1 else 0) := Lib.hid rfl
      have hnx : Hid (numsR (l.take (k + 1)) = numsR (l.take k) ++ [((numB x.1).1, (numB x.2).1 + 1)]) := Lib.hid (by
        rw [List.take_add_one, hx]; simp [numsR])
      obtain ⟨x1, x2⟩ := x
      simp only at r1 r2 hxw hbad hnx
      have C1 := Lib.hid (fun V => CN.out x1 V hxw.1)
      have C2 := Lib.hid (fun V => CN.out x2 V hxw.2)
      have q1 := numB_bd x1
      have q2 := numB_bd x2
      generalize numB x1 = R1 at *
      generalize numB x2 = R2 at *
      obtain ⟨m1, t1⟩ := R1
      obtain ⟨m2, t2⟩ := R2
      simp only at hbad hnx q1 q2 C1 C2
      unfold allN at q1 q2
      have HA : Hid (Below w.heap.size w (wr.alloc (.cells #[.int .i32 x1, .int .i32 x2] 39))) := Lib.hid (HI.out.2.2.alloc hbs _)
      clear hx hxw
      go_wp2_with fail
      refine (C1.out _ HA.out).mono ?_
      rintro e v1 ⟨rfl, hb1⟩
      have k1 := (hb1.cell (by simp)).trans (Lib.cell_of_heap (World.alloc_heap_new wr (.cells #[.int .i32 x1, .int .i32 x2] 39)) 1)
      simp at k1
      have hr1 : Below wr.heap.size wr v1 := ((Below.refl _ wr).alloc (Nat.le_refl _) _).trans (hb1.mono (by simp))
      have hk1 : wr.heap.size < v1.heap.size := by have := hb1.size; simp at this; omega
      have HB1 := Lib.hid hr1
      clear hb1 hr1
      go_wp2_with fail
      refine (C2.out _ (HI.out.2.2.trans (HB1.out.mono hbs))).mono ?_
      rintro e v2 ⟨rfl, hb2⟩
      have hr2 : Below wr.heap.size wr v2 := HB1.out.trans (hb2.mono HB1.out.size)
      have hB2 := HI.out.2.2.trans (hr2.mono hbs)
      have hown2 : OwnS (fun b => w.heap.size ≤ b) 85 2 (.slice (some ⟨w.heap.size, 0, none⟩) n n) n (encR (numsR (l.take k) ++ List.replicate (n - k) (0, 0))) v2 :=
        HI.out.2.1.keep (X := fun _ => False) (.of_all hr2) (fun _ h => h.elim)
      have HB2 := Lib.hid (And.intro hB2 hown2)
      clear hb2 hr2 hB2 hown2 k1
      cases t1 with
      | false =>
        have F8 := Lib.hid (F.out v2 (by rw [hbad.out]; simp) HI.out.1 HB2.out.1)
        rw [show badR (x1, x2) = 8 by rw [hbad.out]; simp] at F8
        go_wp2_with fail
        go_ret2
        exact F8.out
      | true =>
        cases t2 with
        | false =>
          have F8 := Lib.hid (F.out v2 (by rw [hbad.out]; simp) HI.out.1 HB2.out.1)
          rw [show badR (x1, x2) = 8 by rw [hbad.out]; simp] at F8
          go_wp2_with fail
          go_ret2
          exact F8.out
        | true =>
          by_cases hlo : m2 < m1
          · have e1 : badR (x1, x2) = 1 := by rw [hbad.out]; simp [hlo]
            have F8 := Lib.hid (F.out v2 (by rw [e1]; decide) HI.out.1 HB2.out.1)
            rw [e1] at F8
            clear e1
            go_wp2_with fail
            go_ret2
            exact F8.out
          · have e0 : Hid (badR (x1, x2) = 0) := Lib.hid (by rw [hbad.out]; simp [hlo])
            have hf1 : v2.frozen? ⟨w.heap.size, k * 2, none⟩ = false := HB2.out.2.1.frozenAt _
            have hf2 : v2.frozen? ⟨w.heap.size, k * 2 + 1, none⟩ = false := HB2.out.2.1.frozenAt _
            have htk : (numsR (l.take k)).length = k := by simp [numsR, HN.out]; omega
            have hrep : List.replicate (n - k) ((0 : Int), (0 : Int)) = (0, 0) :: List.replicate (n - (k + 1)) (0, 0) := by
              rw [show n - k = (n - (k + 1)) + 1 by omega, List.replicate_succ]
            have hpt := encR_put (numsR (l.take k)) (0, 0) (m1, m2 + 1) (List.replicate (n - (k + 1)) (0, 0))
            rw [htk, ← hrep] at hpt
            have hS2 := slr_of_own HB2.out.2 (by rw [List.length_append, htk, List.length_replicate]; omega)
            obtain ⟨g', eg, cc1, cc2⟩ := hS2.at_ (i := k) (x := (0, 0)) (by rw [List.getElem?_append_right (by rw [htk]; exact Nat.le_refl _), htk, Nat.sub_self, hrep]; rfl)
            obtain rfl : w.heap.size = g' := by injection eg with eg; injection eg
            simp only at cc1 cc2
            clear eg hS2
            have st1 := HB2.out.2.1.stored (k * 2) (.int .i64 m1)
            have st2 := st1.1.stored (k * 2 + 1) (.int .i64 (m2 + 1))
            rw [hpt] at st2
            have HS : Hid (OwnS (fun b => w.heap.size ≤ b) 85 2 (.slice (some ⟨w.heap.size, 0, none⟩) n n) n (encR (numsR (l.take (k + 1)) ++ List.replicate (n - (k + 1)) (0, 0))) ((v2.setCell ⟨w.heap.size, k * 2, none⟩ (.int .i64 m1)).setCell ⟨w.heap.size, k * 2 + 1, none⟩ (.int .i64 (m2 + 1)))) :=
              Lib.hid ⟨by rw [hnx.out, List.append_assoc]; exact st2.1, HB2.out.2.2⟩
            have HB3 := Lib.hid ((HB2.out.1.setCell (p := ⟨w.heap.size, k * 2, none⟩) (Nat.le_refl _) (.int .i64 m1)).setCell (p := ⟨w.heap.size, k * 2 + 1, none⟩) (Nat.le_refl _) (.int .i64 (m2 + 1)))
            clear st1 st2 hpt htk hrep
            go_wp2_with fail
            go_roundw
            case rel => exact ⟨k + 1, by go_num, by omega, fun j y hj hy => by
              rcases Nat.lt_or_ge j k with h | h
              · exact HI.out.1 j y h hy
              · obtain rfl : j = k := by omega
                rw [HX.out] at hy; cases hy; exact e0.out, HS.out, HB3.out⟩
            case measure => simp [RowKit.intOf]; omega
    · have hlt' : ¬ (k : Int) < n := by omega
      obtain rfl : k = n := by omega
      have hall : ∀ x ∈ l, badR x = 0 := fun x hx => by
        obtain ⟨j, hj⟩ := List.mem_iff_getElem?.1 hx
        exact HI.out.1 j x (by have := (List.getElem?_eq_some_iff.1 hj).1; rw [HN.out] at this; exact this) hj
      have ho : OwnS (fun b => w.heap.size ≤ b) 85 2 (.slice (some ⟨w.heap.size, 0, none⟩) k k) k (encR (numsR l)) wr := by
        have := HI.out.2.1
        rw [Nat.sub_self, List.replicate_zero, List.append_nil, ← HN.out, List.take_length] at this
        rw [← HN.out]; exact this
      have CM := Lib.hid (rmelted_any (numsR l) (some ⟨w.heap.size, 0, none⟩) k k wr ho (by simp [numsR, HN.out]) (by omega) (good_fit hall))
      have HO := Lib.hid (And.intro hall ho)
      clear hall ho
      go_wp2_with fail
      refine CM.out.mono ?_
      rintro e v1 ⟨ap, m, cp, rfl, hm, hown, hkp⟩
      have hS := slr_of_own hown hm
      have hbb := HI.out.2.2.trans (hkp.below hbs fun b h => HO.out.2.2 b h)
      have HF : Hid (OfOut l w (.returned (.tuple #[.pointer (some ⟨v1.heap.size, 0, none⟩), .nilIface])) (v1.alloc (.cells #[.slice ap m cp] 88))) := Lib.hid ⟨.inr ⟨HO.out.1, v1.heap.size, rfl, set_box hS⟩, hbb.alloc hbb.size _⟩
      clear hS hbb hm hown hkp
      go_wp2_with fail
      go_ret2
      exact HF.out
end Go.Proofs.YtmpjlenfnlijfaaGreatDoor
/- The law's own: some. -/
namespace Go.Proofs.YtmpjlenfnlijfaaGreatDoor
open Go Go.RowKit Go.Kt Go.Kt.Rg

/-- The spans' bounds are runes. -/
def Runy (l : List (Int × Int)) : Prop := ∀ x ∈ l, (-2147483648 ≤ x.1 ∧ x.1 ≤ 2147483647) ∧ (-2147483648 ≤ x.2 ∧ x.2 ≤ 2147483647)

/-- A slice of spans, wherever it lies. -/
def SpA (W : World) (v : Value) (l : List (Int × Int)) : Prop :=
  ∃ ao cap, v = .slice ao l.length cap ∧ (l = [] ∨ ∃ a : Addr, ao = some a ∧ ∀ (i : Nat) (x : Int × Int), l[i]? = some x → W.cell? (a.add (i * 2)) = some (.int .i32 x.1) ∧ W.cell? (a.add (i * 2 + 1)) = some (.int .i32 x.2))
theorem SpA.below {A B : World} {v : Value} {l : List (Int × Int)} (h : SpA A v l) (hb : Below A.heap.size A B) : SpA B v l := by
  obtain ⟨ao, cap, rfl, h⟩ := h
  refine ⟨ao, cap, rfl, ?_⟩
  rcases h with h | ⟨a, rfl, h⟩
  · exact .inl h
  · exact .inr ⟨a, rfl, fun i x hx => ⟨(hb.cell (lt_of_cell (h i x hx).1)).trans (h i x hx).1, (hb.cell (lt_of_cell (h i x hx).2)).trans (h i x hx).2⟩⟩
theorem add_one_more (a : Addr) (i : Nat) : (a.add i).add 1 = a.add (i + 1) := by
  unfold Addr.add
  by_cases h : i = 0
  · subst h; simp
  · rw [if_neg h, if_neg (by omega), if_neg (by omega)]; simp [Nat.add_assoc]

end Go.Proofs.YtmpjlenfnlijfaaGreatDoor
/- A row's argument that is a slice of spans, opened; the walk in the row's order of arguments. -/
namespace Go.Proofs.YtmpjlenfnlijfaaGreatDoor
open Go.ChangeShapes Go.WideShapes Go.ChangeAt Go.RowKit Go.Kt Go.Deep
set_option maxRecDepth 100000

theorem cells_span : Tryz.prog.cellsOf 39 = 2 := by kernel_rfl
theorem cells_i32 : Tryz.prog.cellsOf 21 = 1 := by kernel_rfl
theorem open_spans {H : Type} {enc : TypeId × Value → H} {W : World} {base : Nat} {spare : Nat → Bool} {held : Bool} {fuel : Nat} {ad : Option Addr} {len cap : Nat} {cs : List Value} {x : DataW H × List MemPlace}
    (h : DataW.trod enc Tryz.prog W base spare held fuel 22 cs = some x) (hcs : cs = [.slice ad len cap]) :
    ∃ l : List (Int × Int), SpA W (.slice ad len cap) l ∧ Runy l ∧ l.length ≤ 9223372036854775807 ∧ l.length = len := by
  subst hcs
  rcases open_slice_pairs Tryz.underlying22 Tryz.underlying39 cells_span rfl rfl cells_i32 cells_i32 h with ⟨hcs, hx⟩ | ⟨a, len', cap', m, n, V0, V1, D0, D1, P0, P1, hcs, _, hl, hm, hmm, hx, hi⟩
  · simp at hcs
    obtain ⟨rfl, rfl, rfl⟩ := hcs
    exact ⟨[], ⟨none, 0, rfl, .inl rfl⟩, by intro x hx; simp at hx, by simp, rfl⟩
  · simp at hcs
    obtain ⟨rfl, rfl, rfl⟩ := hcs
    have hlm : len ≤ m := by rw [hmm]; split <;> omega
    have each : ∀ i, i < m → W.cell? (a.add (i * 2)) = some (.int .i32 (RowKit.intOf (V0 i))) ∧ W.cell? (a.add (i * 2 + 1)) = some (.int .i32 (RowKit.intOf (V1 i))) ∧ (-2147483648 ≤ RowKit.intOf (V0 i) ∧ RowKit.intOf (V0 i) ≤ 2147483647) ∧ (-2147483648 ≤ RowKit.intOf (V1 i) ∧ RowKit.intOf (V1 i) ≤ 2147483647) := by
      intro i him
      obtain ⟨h0, h1, t0, t1⟩ := hi i him
      obtain ⟨z0, e0, _, w0⟩ := DataW.trod_int Tryz.underlying21 t0
      obtain ⟨z1, e1, _, w1⟩ := DataW.trod_int Tryz.underlying21 t1
      have e0 : V0 i = .int .i32 z0 := by simpa using e0
      have e1 : V1 i = .int .i32 z1 := by simpa using e1
      rw [e0] at h0 ⊢
      rw [e1] at h1 ⊢
      exact ⟨h0, h1, by simpa [RowKit.intOf, Lit.wf, IntKind.min, IntKind.max, IntKind.signed, IntKind.bits] using w0, by simpa [RowKit.intOf, Lit.wf, IntKind.min, IntKind.max, IntKind.signed, IntKind.bits] using w1⟩
    have hll : ((List.range len).map fun i => (RowKit.intOf (V0 i), RowKit.intOf (V1 i))).length = len := by simp
    refine ⟨(List.range len).map fun i => (RowKit.intOf (V0 i), RowKit.intOf (V1 i)), ⟨some a, cap, by rw [hll], .inr ⟨a, rfl, fun i x hx => ?_⟩⟩, fun x hx => ?_, by rw [hll]; unfold maxLen at hm; omega, hll⟩
    · have hil : i < len := by have := (List.getElem?_eq_some_iff.1 hx).1; rw [hll] at this; exact this
      simp [hil] at hx
      subst hx
      exact ⟨(each i (by omega)).1, (each i (by omega)).2.1⟩
    · obtain ⟨i, hi2, rfl⟩ := List.mem_map.1 hx
      exact (each i (by have := List.mem_range.1 hi2; omega)).2.2
end Go.Proofs.YtmpjlenfnlijfaaGreatDoor
/- A point that is read as the document's own reading has it: the mathematics (for RangesReads). -/
namespace Go.Proofs.YtmpjlenfnlijfaaGreatDoor
open Go Go.RowKit Go.Kt Go.Kt.Rg

/-- What a digit is worth; -1: it is none. -/
def valB (b : UInt8) : Int := if 48 ≤ b.toNat ∧ b.toNat ≤ 57 then (b.toNat : Int) - 48 else if 97 ≤ b.toNat ∧ b.toNat ≤ 102 then (b.toNat : Int) - 87 else -1
def sumF : Int → List UInt8 → Int
  | n, [] => n
  | n, c :: t => sumF (16 * n + valB c) t
theorem sumF_append : ∀ (a b : List UInt8) (n : Int), sumF n (a ++ b) = sumF (sumF n a) b
  | [], _, _ => rfl
  | _c :: t, b, _n => sumF_append t b _
/-- The how-manyth point; -1: it is none. -/
def dNum (r : Int) : Int := if 0 ≤ r ∧ r < 55296 then r else if 57344 ≤ r ∧ r ≤ 1114111 then r - 2048 else if 1114240 ≤ r ∧ r ≤ 1114367 then r - 2176 else -1
theorem dNum_numB (r : Int) : dNum r = if (numB r).2 = true then (numB r).1 else -1 := by
  unfold dNum numB
  by_cases c1 : r < 0
  · rw [if_neg (by omega), if_neg (by omega), if_neg (by omega), if_pos c1]; rfl
  rw [if_neg c1]
  by_cases c2 : r ≤ 55295
  · rw [if_pos (by omega), if_pos c2]; rfl
  rw [if_neg (show ¬ (0 ≤ r ∧ r < 55296) by omega), if_neg c2]
  by_cases c3 : r < 57344
  · rw [if_neg (by omega), if_neg (by omega), if_pos c3]; rfl
  rw [if_neg c3]
  by_cases c4 : r ≤ 1114111
  · rw [if_pos (by omega), if_pos c4]; rfl
  rw [if_neg (show ¬ (57344 ≤ r ∧ r ≤ 1114111) by omega), if_neg c4]
  by_cases c5 : r < 1114240
  · rw [if_neg (by omega), if_pos c5]; rfl
  rw [if_neg c5]
  by_cases c6 : r ≤ 1114367
  · rw [if_pos (by omega), if_pos c6]; rfl
  rw [if_neg (by omega), if_neg c6]; rfl
theorem dNum_ok {r : Int} (h : 0 ≤ dNum r) : (numB r).2 = true ∧ (numB r).1 = dNum r := by
  have e := dNum_numB r
  split at e
  · rename_i h2
    exact ⟨h2, e.symm⟩
  · omega
/-- A point as it is printed. -/
def dOne (r : Int) : List UInt8 := if 1114240 ≤ r then [92, 120] ++ hexL (r - 1114112).toNat else [92, 117, 123] ++ hexL r.toNat ++ [125]
theorem dOne_print {r : Int} (h : 0 ≤ dNum r) : dOne r = printP r := by
  unfold dOne printP
  by_cases h1 : 1114240 ≤ r
  · rw [if_pos h1, if_pos (by omega)]
  · have h2 : ¬ 1114111 < r := by
      intro h3
      unfold dNum at h
      rw [if_neg (by omega), if_neg (by omega), if_neg (by omega)] at h
      omega
    rw [if_neg h1, if_neg h2]
theorem valB_hex : ∀ d, d < 16 → valB (hexD d) = (d : Int) := by decide
theorem valB_fin : ∀ k : Fin 256, 0 ≤ valB (UInt8.ofNat k.val) → hexD (valB (UInt8.ofNat k.val)).toNat = UInt8.ofNat k.val ∧ valB (UInt8.ofNat k.val) < 16 := by decide +kernel
theorem valB_back {c : UInt8} (h : 0 ≤ valB c) : hexD (valB c).toNat = c ∧ valB c < 16 := by
  have e : UInt8.ofNat c.toNat = c := by simp
  have := valB_fin ⟨c.toNat, c.toNat_lt⟩
  simp only [e] at this
  exact this h
theorem hex_pair : ∀ u, u < 256 → 16 ≤ u → hexL u = [hexD (u / 16), hexD (u % 16)] := by decide +kernel
theorem sumF_hexF : ∀ (f u : Nat), u < 16 ^ (f + 1) → sumF 0 (hexF f u) = (u : Int)
  | 0, u, h => by
    have hu : u < 16 := by simpa using h
    simp only [hexF, sumF, Nat.mod_eq_of_lt hu, valB_hex u hu]
    omega
  | f + 1, u, h => by
    unfold hexF
    by_cases h16 : u < 16
    · rw [if_pos h16]
      simp only [sumF, valB_hex u h16]
      omega
    · have hd : u / 16 < 16 ^ (f + 1) := by
        have : u < 16 ^ (f + 1) * 16 := by rw [← Nat.pow_succ]; exact h
        omega
      have h2 := valB_hex (u % 16) (Nat.mod_lt _ (by decide))
      rw [if_neg h16, sumF_append, sumF_hexF f (u / 16) hd]
      simp only [sumF, h2]
      omega
theorem okB_hexF : ∀ (f u : Nat), ∀ c ∈ hexF f u, 0 ≤ valB c
  | 0, u, c, h => by
    simp only [hexF, List.mem_singleton] at h
    rw [h, valB_hex _ (Nat.mod_lt _ (by decide))]; omega
  | f + 1, u, c, h => by
    unfold hexF at h
    split at h
    · rename_i h16
      rw [List.mem_singleton] at h
      rw [h, valB_hex _ h16]; omega
    · rcases List.mem_append.1 h with h | h
      · exact okB_hexF f _ c h
      · rw [List.mem_singleton] at h
        rw [h, valB_hex _ (Nat.mod_lt _ (by decide))]; omega

/-- The point that is read at the head of a text, and how many bytes it has; or -1. -/
def rdV (l : List UInt8) : Int × Nat := match ptAt l with | none => (-1, 0) | some x => x
theorem rdV_print {r : Int} (h : 0 ≤ dNum r) (rest : List UInt8) : rdV (dOne r ++ rest) = (dNum r, (dOne r).length) := by
  obtain ⟨h1, h2⟩ := dNum_ok h
  have hb := numB_bd r
  have e := (num_true h1).1
  have := ptAt_print hb.1 hb.2 rest
  rw [e, h2, ← dOne_print h] at this
  unfold rdV
  rw [this]
theorem rdV_some {l : List UInt8} (h : rdV l ≠ (-1, 0)) : ∃ r rest, 0 ≤ dNum r ∧ l = dOne r ++ rest := by
  unfold rdV at h
  cases hp : ptAt l with
  | none => rw [hp] at h; exact absurd rfl h
  | some x =>
    obtain ⟨n, k⟩ := x
    obtain ⟨h0, h1, _, rest, e⟩ := ptAt_sound hp
    have hn := num_pnt h0 h1
    have hd : dNum (pntI n) = n := by rw [dNum_numB, hn]; rfl
    exact ⟨pntI n, rest, by omega, by rw [dOne_print (by omega)]; exact e⟩
theorem rd_x {c d : UInt8} {t : List UInt8} (ha : 8 ≤ valB c) (hb : 0 ≤ valB d) : rdV (92 :: 120 :: c :: d :: t) = (dNum (1114112 + 16 * valB c + valB d), 4) := by
  obtain ⟨c1, c2⟩ := valB_back (c := c) (by omega)
  obtain ⟨d1, d2⟩ := valB_back hb
  obtain ⟨u, hu⟩ : ∃ u : Nat, valB c = u := ⟨(valB c).toNat, by omega⟩
  obtain ⟨v, hv⟩ : ∃ v : Nat, valB d = v := ⟨(valB d).toNat, by omega⟩
  rw [hu, Int.toNat_natCast] at c1
  rw [hv, Int.toNat_natCast] at d1
  have hn : 0 ≤ dNum (1114112 + 16 * valB c + valB d) := by
    unfold dNum
    rw [if_neg (by omega), if_neg (by omega), if_pos (by omega)]
    omega
  have ho : dOne (1114112 + 16 * valB c + valB d) = [92, 120, c, d] := by
    unfold dOne
    rw [if_pos (by omega), show (1114112 + 16 * valB c + valB d - 1114112).toNat = 16 * u + v by omega, hex_pair _ (by omega) (by omega)]
    rw [show (16 * u + v) / 16 = u by omega, show (16 * u + v) % 16 = v by omega, c1, d1]
    rfl
  have := rdV_print hn t
  rw [ho] at this
  exact this
theorem rd_u {l : List UInt8} {e : Nat} {r : Int} (he : e ≤ l.length) (h : l.take e = dOne r) (h0 : 0 ≤ dNum r) : rdV l = (dNum r, e) := by
  have := rdV_print h0 (l.drop e)
  rw [← h, List.take_append_drop, List.length_take, Nat.min_eq_left he] at this
  exact this
theorem hexF_le : ∀ (f u m : Nat), u < 16 ^ (m + 1) → m ≤ f → (hexF f u).length ≤ m + 1
  | 0, u, m, _, _ => by simp [hexF]
  | f + 1, u, m, h, hm => by
    unfold hexF
    split
    · simp
    · rename_i h16
      cases m with
      | zero => simp at h; omega
      | succ m =>
        have : u < 16 ^ (m + 1) * 16 := by rw [← Nat.pow_succ]; exact h
        have := hexF_le f (u / 16) m (by omega) (by omega)
        rw [List.length_append, List.length_singleton]
        omega
theorem hex_six (u : Nat) (h : u < 16777216) : (hexL u).length ≤ 6 := hexF_le 8 u 5 (by simpa using h) (by omega)
/-- A printed point that is no byte: its digits. -/
theorem one_u {r : Int} (h : 0 ≤ dNum r) (hr : r < 1114240) : dOne r = [92, 117, 123] ++ hexL r.toNat ++ [125] ∧ 0 ≤ r ∧ r ≤ 1114111 ∧ (hexL r.toNat).length ≤ 6 ∧ 1 ≤ (hexL r.toNat).length := by
  have h2 : 0 ≤ r ∧ r ≤ 1114111 := by
    unfold dNum at h
    repeat' split at h
    all_goals omega
  refine ⟨by unfold dOne; rw [if_neg (by omega)], h2.1, h2.2, ?_, ?_⟩
  · exact hex_six r.toNat (by omega)
  · rcases Nat.eq_zero_or_pos (hexL r.toNat).length with h | h
    · exact absurd (List.eq_nil_of_length_eq_zero h) (hexF_ne 8 _)
    · exact h
/-- What a text that a printed point stands at the head of, which is no byte, has at each place. -/
theorem shape_u {l : List UInt8} {r : Int} {rest : List UInt8} (h : 0 ≤ dNum r) (hr : r < 1114240) (e : l = dOne r ++ rest) :
    ∃ m, 1 ≤ m ∧ m ≤ 6 ∧ l[3 + m]? = some 125 ∧ (∀ j, j < m → l[3 + j]? ≠ some 125) ∧ (l.take (3 + m)).drop 3 = hexL r.toNat ∧ l.take (4 + m) = dOne r ∧ l.take 3 = [92, 117, 123] := by
  obtain ⟨h1, h2, h3, h4, h5⟩ := one_u h hr
  have e2 : l = [92, 117, 123] ++ (hexL r.toNat ++ 125 :: rest) := by rw [e, h1]; simp
  refine ⟨(hexL r.toNat).length, h5, h4, ?_, fun j hj => ?_, ?_, ?_, ?_⟩
  · rw [e2, List.getElem?_append_right (by simp), show 3 + (hexL r.toNat).length - ([92, 117, 123] : List UInt8).length = (hexL r.toNat).length by simp, List.getElem?_append_right (Nat.le_refl _), Nat.sub_self]
    rfl
  · rw [e2, List.getElem?_append_right (by simp), show 3 + j - ([92, 117, 123] : List UInt8).length = j by simp, List.getElem?_append_left hj, List.getElem?_eq_getElem hj]
    intro hc
    injection hc with hc
    exact (hexF_clean 8 r.toNat _ (List.getElem_mem hj)).1 hc
  · rw [e2, List.take_append, List.take_of_length_le (by simp), show 3 + (hexL r.toNat).length - ([92, 117, 123] : List UInt8).length = (hexL r.toNat).length by simp, List.take_append_of_le_length (Nat.le_refl _), List.take_length]
    rfl
  · rw [e, List.take_append_of_le_length, List.take_of_length_le]
    · rw [h1]; simp; omega
    · rw [h1]; simp; omega
  · rw [e2]; rfl
theorem dNum_hi {r : Int} (h : 0 ≤ dNum r) : r ≤ 1114367 := by
  unfold dNum at h
  repeat' split at h
  all_goals omega
theorem shape_x {r : Int} (h : 0 ≤ dNum r) (hr : 1114240 ≤ r) (rest : List UInt8) : ∃ c d, dOne r ++ rest = 92 :: 120 :: c :: d :: rest ∧ 8 ≤ valB c ∧ 0 ≤ valB d := by
  have h2 := dNum_hi h
  obtain ⟨u, hu⟩ : ∃ u : Nat, r = 1114112 + (u : Int) := ⟨(r - 1114112).toNat, by omega⟩
  refine ⟨hexD (u / 16), hexD (u % 16), ?_, ?_, ?_⟩
  · unfold dOne
    rw [if_pos hr, show (r - 1114112).toNat = u by omega, hex_pair u (by omega) (by omega)]
    rfl
  · rw [valB_hex _ (by omega)]; omega
  · rw [valB_hex _ (by omega)]; omega
/-- What is written wrongly between the braces is no point. -/
theorem rd_bad {l : List UInt8} {e : Nat} (h5 : 5 ≤ e) (hu : l.take 3 = [92, 117, 123]) (hc : l[e - 1]? = some 125) (hj : ∀ j, 4 ≤ j → j + 1 < e → l[j]? ≠ some 125)
    (hbad : (∃ c ∈ (l.take (e - 1)).drop 3, valB c < 0) ∨ 1114111 < sumF 0 ((l.take (e - 1)).drop 3) ∨ dNum (sumF 0 ((l.take (e - 1)).drop 3)) < 0 ∨ dOne (sumF 0 ((l.take (e - 1)).drop 3)) ≠ l.take e) : rdV l = (-1, 0) := by
  apply Classical.byContradiction
  intro hno
  obtain ⟨r, rest, h0, el⟩ := rdV_some hno
  by_cases hr : r < 1114240
  · obtain ⟨m, m1, m6, k1, k2, k3, k4, k5⟩ := shape_u h0 hr el
    have hr0 := (one_u h0 hr).2
    by_cases c1 : 3 + m + 1 < e
    · exact hj (3 + m) (by omega) c1 k1
    by_cases c2 : e < 3 + m + 1
    · have := k2 (e - 1 - 3) (by omega)
      rw [show 3 + (e - 1 - 3) = e - 1 by omega] at this
      exact this hc
    have e3 : e = 4 + m := by omega
    subst e3
    rw [show 4 + m - 1 = 3 + m by omega, k3] at hbad
    have hs : sumF 0 (hexL r.toNat) = r := by
      unfold hexL
      rw [sumF_hexF 8 _ (by omega)]
      omega
    rw [hs] at hbad
    rcases hbad with ⟨c, hc1, hc2⟩ | hb | hb | hb
    · have := okB_hexF 8 _ c hc1
      omega
    · omega
    · omega
    · exact hb k4.symm
  · obtain ⟨c, d, e2, _⟩ := shape_x h0 (by omega) rest
    rw [el, e2] at hu
    simp at hu
/-- Where nothing ends that could be one, there is none. -/
theorem rd_no {l : List UInt8} (hx : ∀ c d t, l = 92 :: 120 :: c :: d :: t → ¬ (8 ≤ valB c ∧ 0 ≤ valB d)) (hu : l.take 3 = [92, 117, 123] → ∀ j, 4 ≤ j → j < 10 → l[j]? ≠ some 125) : rdV l = (-1, 0) := by
  apply Classical.byContradiction
  intro hno
  obtain ⟨r, rest, h0, el⟩ := rdV_some hno
  by_cases hr : r < 1114240
  · obtain ⟨m, m1, m6, k1, k2, k3, k4, k5⟩ := shape_u h0 hr el
    exact hu k5 (3 + m) (by omega) (by omega) k1
  · obtain ⟨c, d, e2, hcd⟩ := shape_x h0 (by omega) rest
    exact hx c d rest (el.trans e2) hcd
/-- The span at a byte, in the words of the document's reading. -/
theorem spAt_rd (s : List UInt8) (p : Nat) : spAt s p =
    if (rdV (s.drop p)).1 < 0 then .error (9, p)
    else if s[p + (rdV (s.drop p)).2]? = some 45 then
      (if (rdV (s.drop (p + (rdV (s.drop p)).2 + 1))).1 < 0 then .error (9, p + (rdV (s.drop p)).2 + 1)
       else if (rdV (s.drop (p + (rdV (s.drop p)).2 + 1))).1 ≤ (rdV (s.drop p)).1 then .error (4, p)
       else .ok (((rdV (s.drop p)).1, (rdV (s.drop (p + (rdV (s.drop p)).2 + 1))).1 + 1), p + (rdV (s.drop p)).2 + 1 + (rdV (s.drop (p + (rdV (s.drop p)).2 + 1))).2))
    else .ok (((rdV (s.drop p)).1, (rdV (s.drop p)).1 + 1), p + (rdV (s.drop p)).2) := by
  unfold spAt
  cases h1 : ptAt (s.drop p) with
  | none =>
    have : rdV (s.drop p) = (-1, 0) := by unfold rdV; rw [h1]
    rw [this]; rfl
  | some a =>
    obtain ⟨lo, k⟩ := a
    have e1 : rdV (s.drop p) = (lo, k) := by unfold rdV; rw [h1]
    have hl := ptAt_sound h1
    rw [e1]
    simp only
    rw [if_neg (show ¬ lo < 0 by omega)]
    split
    · cases h2 : ptAt (s.drop (p + k + 1)) with
      | none =>
        have : rdV (s.drop (p + k + 1)) = (-1, 0) := by unfold rdV; rw [h2]
        rw [this]; rfl
      | some b =>
        obtain ⟨hi, m⟩ := b
        have e2 : rdV (s.drop (p + k + 1)) = (hi, m) := by unfold rdV; rw [h2]
        have hh := ptAt_sound h2
        rw [e2]
        simp only
        rw [if_neg (show ¬ hi < 0 by omega)]
    · rfl
end Go.Proofs.YtmpjlenfnlijfaaGreatDoor
/- The document's answer for ranges: Number, Point, value, hex, One. -/
namespace Go.Proofs.YtmpjlenfnlijfaaGreatDoor
open Go Go.RowKit Go.Kt Go.Kt.Rg Go.Lib
attribute [local go_sem] Oper.semAt_some

set_option maxRecDepth 100000 in
theorem xNumber_any (r : Int) (w : World) (h0 : -2147483648 ≤ r) (h1 : r ≤ 2147483647) :
    Calls Tryz.prog 31 #[.int .i32 r] w fun e w' => e = .returned (.int .i64 (dNum r)) ∧ w = w' := by
  go_enter Tryz.func31, Tryz.ntmps31
  go_wp2
  all_goals go_ret
  all_goals (refine ⟨?_, rfl⟩; unfold dNum)
  all_goals first
    | (exfalso; omega)
    | (rw [if_pos (by omega)]; first | rfl | (simp; omega))
    | (rw [if_neg (by omega), if_pos (by omega)]; first | rfl | (simp; omega))
    | (rw [if_neg (by omega), if_neg (by omega), if_pos (by omega)]; first | rfl | (simp; omega))
    | (rw [if_neg (by omega), if_neg (by omega), if_neg (by omega)]; rfl)
set_option maxRecDepth 100000 in
theorem xPoint_any (n : Int) (w : World) (h0 : 0 ≤ n) (h1 : n < 1112192) :
    Calls Tryz.prog 89 #[.int .i64 n] w fun e w' => e = .returned (.int .i32 (pntI n)) ∧ w = w' := by
  go_enter Tryz.func89, Tryz.ntmps89
  go_wp2
  all_goals go_ret
  all_goals (refine ⟨?_, rfl⟩; unfold pntI)
  all_goals first
    | (exfalso; omega)
    | (rw [if_pos (by omega)]; first | rfl | (simp; omega))
    | (rw [if_neg (by omega), if_pos (by omega)]; first | rfl | (simp; omega))
    | (rw [if_neg (by omega), if_neg (by omega), if_pos (by omega)]; first | rfl | (simp; omega))

/-- The digits. -/
def dgB : ByteArray := ⟨#[48, 49, 50, 51, 52, 53, 54, 55, 56, 57, 97, 98, 99, 100, 101, 102]⟩
theorem dgB_at : ∀ k, k < 16 → bAt dgB k = ((hexD k).toNat : Nat) := by decide
theorem dgB_one : ∀ k, k < 16 → dgB.extract k (k + 1) = ⟨[hexD k].toArray⟩ := by
  intro k hk
  have : ∀ k, k < 16 → (dgB.extract k (k + 1)).data.toList = [hexD k] := by decide +kernel
  apply ByteArray.ext
  rw [← Array.toList_inj, this k hk]
theorem valB_none {c : UInt8} (h : ∀ k, k < 16 → hexD k ≠ c) : valB c = -1 := by
  by_cases h0 : 0 ≤ valB c
  · have := valB_back h0
    exact absurd this.1 (h _ (by omega))
  · unfold valB at h0 ⊢
    split at h0
    · omega
    · rw [if_neg (by assumption)]
      split at h0
      · omega
      · rw [if_neg (by assumption)]
set_option maxRecDepth 100000 in
theorem xvalue_any (c : UInt8) (w : World) :
    Calls Tryz.prog 121 #[.int .u8 (c.toNat : Nat)] w fun e w' => e = .returned (.int .i64 (valB c)) ∧ w = w' := by
  obtain ⟨S, hS⟩ : ∃ S : ByteArray, dgB = S := ⟨_, rfl⟩
  have hz : Hid (S.size = 16) := Lib.hid (by rw [← hS]; rfl)
  have HSS := Lib.hid hS
  obtain ⟨b, hb⟩ : ∃ b : Int, ((c.toNat : Nat) : Int) = b := ⟨_, rfl⟩
  rw [hb]
  have HB := Lib.hid hb
  clear hS hb
  go_enter Tryz.func121, Tryz.ntmps121
  go_wp2
  rw [show (⟨#[48, 49, 50, 51, 52, 53, 54, 55, 56, 57, 97, 98, 99, 100, 101, 102]⟩ : ByteArray) = S from HSS.out]
  have hS := HSS.out
  have hz := hz.out
  go_loop [3] (fun v => ∃ k : Nat, k ≤ 16 ∧ v = .int .i64 k ∧ ∀ j, j < k → hexD j ≠ c) (fun v => 16 - (RowKit.intOf v).toNat)
  case atStart => exact ⟨0, by omega, rfl, fun j hj => by omega⟩
  case round =>
    obtain ⟨k, hk, rfl, hc⟩ := hrel
    by_cases hlt : k < 16
    · have HI : ∀ w, (Instr.index 9 (.string S) (.int .i64 (k : Nat))).run Tryz.prog w = .ok (.int .u8 (bAt S k)) w := fun w => run_bAt S k (by omega) w
      have hd : bAt S k = ((hexD k).toNat : Nat) := by rw [← hS]; exact dgB_at k hlt
      have h16 : (k : Int) < 16 := by omega
      have HE : Hid (bAt S k = b → hexD k = c) := Lib.hid (fun h => by
        rw [hd, ← HB.out] at h
        exact UInt8.toNat_inj.1 (by omega))
      have HE2 : Hid (hexD k = c → bAt S k = b) := Lib.hid (fun h => by rw [hd, h, HB.out])
      have HC := Lib.hid hc
      generalize bAt S k = a at *
      clear hc hd hS
      by_cases he : a = b
      · have HV : Hid (valB c = (k : Nat)) := Lib.hid (by rw [← HE.out he]; exact valB_hex k hlt)
        subst he
        clear HE HE2
        go_wp2
        go_ret
        exact ⟨by rw [HV.out]; rfl, rfl⟩
      · have HN : Hid (∀ j, j < k + 1 → hexD j ≠ c) := Lib.hid (fun j hj h => by
          rcases Nat.lt_or_ge j k with h2 | h2
          · exact HC.out j h2 h
          · obtain rfl : j = k := by omega
            exact he (HE2.out h))
        clear HE HE2
        go_wp2
        go_round
        case rel => exact ⟨k + 1, by omega, by go_num, HN.out⟩
        case measure => simp [RowKit.intOf]; omega
    · obtain rfl : k = 16 := by omega
      have HV : Hid (valB c = -1) := Lib.hid (valB_none hc)
      clear hc hS
      go_wp2
      go_ret
      exact ⟨by rw [HV.out]; rfl, rfl⟩
theorem hexF_cut : ∀ (f u : Nat), u < 16 → hexF f u = [hexD u]
  | 0, u, h => by rw [hexF, Nat.mod_eq_of_lt h]
  | f + 1, u, h => by rw [hexF, if_pos h]
set_option maxRecDepth 100000 in
theorem xhex_small (f u : Nat) (w : World) (hu : u < 16) :
    Calls Tryz.prog 129 #[.int .i64 (u : Nat)] w fun e w' => e = .returned (.string ⟨(hexF f u).toArray⟩) ∧ Below w.heap.size w w' := by
  have h16 : (u : Int) < 16 := by omega
  obtain ⟨S, hS⟩ : ∃ S : ByteArray, dgB = S := ⟨_, rfl⟩
  have hz : Hid (S.size = 16) := Lib.hid (by rw [← hS]; rfl)
  have HX : Hid (S.extract u (u + 1) = ⟨(hexF f u).toArray⟩) := Lib.hid (by rw [← hS, dgB_one u (by omega), hexF_cut f u (by omega)])
  have HSS := Lib.hid hS
  have hw : IntKind.i64.wrap ((u : Int) + 1) = (u : Int) + 1 := IntWalk.i64_in _ (by omega)
  have e1 : ((u : Int) + 1).toNat = u + 1 := by omega
  have e2 : (u : Int) ≤ (u : Int) + 1 := by omega
  have e3 : (u : Int) + 1 ≤ 16 := by omega
  clear hS
  go_enter Tryz.func129, Tryz.ntmps129
  rw [show (⟨#[48, 49, 50, 51, 52, 53, 54, 55, 56, 57, 97, 98, 99, 100, 101, 102]⟩ : ByteArray) = S from HSS.out]
  have hz := hz.out
  go_wp2
  go_ret
  exact ⟨by rw [← HX.out]; rfl, Below.refl _ _⟩
set_option maxRecDepth 100000 in
theorem xhex_any : ∀ (f u : Nat) (w : World), f ≤ 8 → u < 16 ^ (f + 1) →
    Calls Tryz.prog 129 #[.int .i64 (u : Nat)] w fun e w' => e = .returned (.string ⟨(hexF f u).toArray⟩) ∧ Below w.heap.size w w' := by
  intro f
  induction f with
  | zero => exact fun u w _ hu => xhex_small 0 u w (by simpa using hu)
  | succ f ih =>
    intro u w hf hu
    by_cases h16 : u < 16
    · exact xhex_small _ u w h16
    · obtain ⟨d, hd⟩ : ∃ d : Nat, u / 16 = d := ⟨_, rfl⟩
      obtain ⟨m, hm⟩ : ∃ m : Nat, u % 16 = m := ⟨_, rfl⟩
      have hub : u < 16 ^ 9 := Nat.lt_of_lt_of_le hu (Nat.pow_le_pow_right (by decide) (by omega))
      have hd9 : d < 16 ^ (f + 1) := by
        have : u < 16 ^ (f + 1) * 16 := by rw [← Nat.pow_succ]; exact hu
        omega
      have C := Lib.hid (fun V => ih d V (by omega) hd9)
      have hm16 : m < 16 := by omega
      obtain ⟨S, hS⟩ : ∃ S : ByteArray, dgB = S := ⟨_, rfl⟩
      have hz : Hid (S.size = 16) := Lib.hid (by rw [← hS]; rfl)
      have HX : Hid (S.extract m (m + 1) = ⟨[hexD m].toArray⟩) := Lib.hid (by rw [← hS, dgB_one m hm16])
      have HP : Hid ((⟨(hexF f d).toArray⟩ : ByteArray) ++ S.extract m (m + 1) = ⟨(hexF (f + 1) u).toArray⟩) := Lib.hid (by
        rw [HX.out, bytes_add, hexF, if_neg h16, hd, hm])
      have hx1 : (S.extract m (m + 1)).size = 1 := by rw [HX.out]; rfl
      have hl := hexF_len f d
      have hsz : (⟨(hexF f d).toArray⟩ : ByteArray).size ≤ 9 := by show (hexF f d).toArray.size ≤ 9; simp; omega
      have HSS := Lib.hid hS
      have htd : (u : Int).tdiv 16 = (d : Int) := by rw [Int.tdiv_eq_ediv_of_nonneg (by omega)]; omega
      have htm : (u : Int).tmod 16 = (m : Int) := by rw [Int.tmod_eq_emod_of_nonneg (by omega)]; omega
      have hwd : IntKind.i64.wrap (d : Int) = (d : Int) := IntWalk.i64_in _ (by omega)
      have hw : IntKind.i64.wrap ((m : Int) + 1) = (m : Int) + 1 := IntWalk.i64_in _ (by omega)
      have h16' : ¬ (u : Int) < 16 := by omega
      have e0 : (0 : Int) ≤ (m : Int) := by omega
      have e1 : ((m : Int) + 1).toNat = m + 1 := by omega
      have e2 : (m : Int) ≤ (m : Int) + 1 := by omega
      have e3 : (m : Int) + 1 ≤ 16 := by omega
      generalize (⟨(hexF f d).toArray⟩ : ByteArray) = L at *
      clear hS hd hm hub hd9 hl hu ih h16 hf
      go_enter Tryz.func129, Tryz.ntmps129
      rw [show (⟨#[48, 49, 50, 51, 52, 53, 54, 55, 56, 57, 97, 98, 99, 100, 101, 102]⟩ : ByteArray) = S from HSS.out]
      have hz := hz.out
      go_wp2_with fail
      go_region_with (go_at_call 129; refine (C.out _).mono ?_; rintro e w1 ⟨rfl, hb⟩; have HB := Lib.hid hb; clear hb)
      go_wp2
      go_ret
      exact ⟨by rw [← HP.out]; rfl, (Below.refl _ w).drew.trans HB.out⟩
set_option maxRecDepth 100000 in
theorem xOne_any (r : Int) (w : World) (h0 : 0 ≤ r) (h1 : r ≤ 1114367) :
    Calls Tryz.prog 90 #[.int .i32 r] w fun e w' => e = .returned (.string ⟨(dOne r).toArray⟩) ∧ Below w.heap.size w w' := by
  by_cases h : 1114240 ≤ r
  · obtain ⟨u, hu⟩ : ∃ u : Nat, r = 1114112 + (u : Int) := ⟨(r - 1114112).toNat, by omega⟩
    have C := Lib.hid (xhex_any 8 u w (by omega) (by omega))
    have HP : Hid ((⟨#[92, 120]⟩ : ByteArray) ++ ⟨(hexF 8 u).toArray⟩ = ⟨(dOne r).toArray⟩) := Lib.hid (by
      unfold dOne
      rw [if_pos h, show (r - 1114112).toNat = u by omega]
      exact bytes_add [92, 120] (hexL u))
    have hl := hexF_len 8 u
    have hsz : (⟨(hexF 8 u).toArray⟩ : ByteArray).size ≤ 9 := by show (hexF 8 u).toArray.size ≤ 9; simp; omega
    have hw : IntKind.i64.wrap (r - 1114112) = (u : Int) := (IntWalk.i64_in _ (by omega)).trans (by omega)
    have hw2 : IntKind.i64.wrap r = r := IntWalk.i64_in _ (by omega)
    generalize (⟨(hexF 8 u).toArray⟩ : ByteArray) = L at *
    clear hu hl h0
    go_enter Tryz.func90, Tryz.ntmps90
    go_wp2_with fail
    refine C.out.mono ?_
    rintro e w1 ⟨rfl, hb⟩
    go_wp2
    go_ret
    exact ⟨by rw [← HP.out]; rfl, hb⟩
  · obtain ⟨u, hu⟩ : ∃ u : Nat, r = (u : Int) := ⟨r.toNat, by omega⟩
    subst hu
    have C := Lib.hid (xhex_any 8 u w (by omega) (by omega))
    have HP : Hid ((⟨#[92, 117, 123]⟩ : ByteArray) ++ ⟨(hexF 8 u).toArray⟩ ++ ⟨#[125]⟩ = ⟨(dOne (u : Int)).toArray⟩) := Lib.hid (by
      unfold dOne
      rw [if_neg h, bytes_add [92, 117, 123] (hexF 8 u)]
      exact bytes_add _ [125])
    have hl := hexF_len 8 u
    have hsz : (⟨(hexF 8 u).toArray⟩ : ByteArray).size ≤ 9 := by show (hexF 8 u).toArray.size ≤ 9; simp; omega
    have hw2 : IntKind.i64.wrap (u : Int) = (u : Int) := IntWalk.i64_in _ (by omega)
    generalize (⟨(hexF 8 u).toArray⟩ : ByteArray) = L at *
    have hsz2 : ((⟨#[92, 117, 123]⟩ : ByteArray) ++ L).size ≤ 12 := by rw [ByteArray.size_append]; show 3 + L.size ≤ 12; omega
    clear hl
    go_enter Tryz.func90, Tryz.ntmps90
    go_wp2_with fail
    refine C.out.mono ?_
    rintro e w1 ⟨rfl, hb⟩
    go_wp2
    go_ret
    exact ⟨by rw [← HP.out]; rfl, hb⟩
end Go.Proofs.YtmpjlenfnlijfaaGreatDoor
/- parsedSpan: the span that is written at a byte. -/
namespace Go.Proofs.YtmpjlenfnlijfaaGreatDoor
open Go Go.RowKit Go.Kt Go.Kt.Rg

theorem results_cell3 {P : Program} {fn : Func} {p a b : Tmp} {ty : TypeId} (h : fn.results = #[.cell p ty, .tmp a, .tmp b]) (tmps : Array Value) (w : World) (g : Nat) (t : TypeId) (cs : Array Value) (fr : Nat × Nat) (d : TypeDesc)
    (hp : tmps.getD p undef = .pointer (some ⟨g, 0, none⟩)) (hg : w.heap[g]? = some (.cells cs t fr))
    (hu : P.underlying ty = some d) (hd : (match d with | .struct _ | .array _ _ => true | _ => false) = true) (hi : (P.info? ty).map (·.size) = some cs.size) :
    (results fn tmps).run P w = .ok (.tuple #[.agg cs, tmps.getD a undef, tmps.getD b undef]) w := by
  have hp' : tmps[p]?.getD undef = .pointer (some ⟨g, 0, none⟩) := by simpa using hp
  simp [results, h, hp', asAddr, run_loadVar_row w g t ty cs fr d hg hu hd hi]
theorem pre_one (l : List UInt8) (q : Nat) : Lib.hasPrefix (l.drop q) [45] = decide (l[q]? = some 45) := by
  unfold Lib.hasPrefix
  rw [← Nat.add_zero q, ← List.getElem?_drop]
  cases h : l.drop q with
  | nil => simp [List.isPrefixOf]
  | cons c t =>
    by_cases hc : c = 45
    · subst hc; simp [List.isPrefixOf]
    · have hc2 : ((45 : UInt8) == c) = false := by rw [beq_eq_false_iff_ne]; exact fun h => hc h.symm
      simp [List.isPrefixOf, hc, hc2]
theorem pt_fits {l : List UInt8} {p k : Nat} {n : Int} (h : ptAt (l.drop p) = some (n, k)) : 0 ≤ n ∧ n < 1112192 ∧ 0 < k ∧ p + k ≤ l.length := by
  obtain ⟨h0, h1, rfl, t, ht⟩ := ptAt_sound h
  have hp := printP_pos (pntI n)
  have := congrArg List.length ht
  rw [List.length_drop, List.length_append] at this
  unfold allN at h1
  exact ⟨h0, h1, hp, by omega⟩
/-- The answer of parsedSpan. -/
def SpOut (l : List UInt8) (p : Nat) (e : Ending) : Prop :=
  match spAt l p with
  | .ok (x, q) => e = .returned (.tuple #[.agg #[.int .i64 x.1, .int .i64 x.2], .int .i64 (q : Nat), .nilIface])
  | .error (no, q) => e = .returned (.tuple #[.agg #[.int .i64 0, .int .i64 0], .int .i64 0, faultV no (q : Nat)])

/-- Two cells stored. -/
theorem two_cells {V : World} {g : Nat} {a b x y : Value} {T : TypeId} (h : V.heap[g]? = some (.cells #[a, b] T (0, 0))) :
    ((V.setCell ⟨g, 0, none⟩ x).setCell ⟨g, 1, none⟩ y).heap[g]? = some (.cells #[x, y] T (0, 0)) := by
  have h1 := heap_setCell_same V g 0 _ _ x h
  have h2 := heap_setCell_same (V.setCell ⟨g, 0, none⟩ x) g 1 _ _ y h1
  simpa using h2

set_option maxRecDepth 100000 in
set_option maxHeartbeats 4000000 in
theorem rps_any (s : ByteArray) (p : Nat) (w : World) (hp : p ≤ s.size) (hs : s.size ≤ 140737488351232) (hE : PEnv w) :
    Calls Tryz.prog 74 #[.string s, .int .i64 p] w fun e w' => SpOut s.data.toList p e ∧ Below w.heap.size w w' := by
  have hln : s.data.toList.length = s.size := (Lib.size_eq s).symm
  have CP := Lib.hid (fun (q : Nat) V (hq : q ≤ s.size) (hb : Below w.heap.size w V) => rpp_any s q V hq hs (hE.below hb))
  have CH := Lib.hid (fun (q : Nat) V => Tryz.strings_HasPrefix (s.extract q s.size) ⟨#[45]⟩ V)
  simp only [Lib.Pa.extract_from] at CH
  obtain ⟨l, hl⟩ : ∃ l, s.data.toList = l := ⟨_, rfl⟩
  rw [hl] at hln ⊢
  have HD : ∀ q, (⟨(s.data.toList.drop q).toArray⟩ : ByteArray) = s.extract q s.size := fun q => (Lib.Pa.extract_from s q).symm
  simp only [HD] at CH
  have HC : Hid (∀ q V, Calls Tryz.prog 73 #[.string (s.extract q s.size), .string ⟨#[45]⟩] V fun e w' => e = .returned (.bool (decide (l[q]? = some 45))) ∧ V = w') := Lib.hid fun q V => by
    refine (CH.out q V).mono ?_
    rintro e w' ⟨rfl, rfl⟩
    refine ⟨?_, rfl⟩
    rw [← pre_one l q, ← hl]
  have PO : ∀ (q : Nat) (o : Option (Int × Nat)), ptAt (l.drop q) = o → q ≤ s.size → Hid (∀ V, Below w.heap.size w V → Calls Tryz.prog 120 #[.string s, .int .i64 q] V fun e w' => (match o with
    | some (n, k) => e = .returned (.tuple #[.int .i64 n, .int .i64 ((q + k : Nat) : Int), .nilIface])
    | none => e = .returned (.tuple #[.int .i64 0, .int .i64 0, faultV 9 (q : Nat)])) ∧ Below V.heap.size V w') := fun q o ho hq => Lib.hid fun V hV => by
    refine (CP.out q V hq hV).mono ?_
    rintro e w' ⟨h, hb⟩
    unfold PtOut at h
    rw [hl, ho] at h
    exact ⟨h, hb⟩
  have OUT : ∀ (x : Except (Int × Nat) (Run × Nat)), spAt l p = x → Hid (∀ e w', (match x with
    | .ok (x, q) => e = .returned (.tuple #[.agg #[.int .i64 x.1, .int .i64 x.2], .int .i64 (q : Nat), .nilIface])
    | .error (no, q) => e = .returned (.tuple #[.agg #[.int .i64 0, .int .i64 0], .int .i64 0, faultV no (q : Nat)])) → Below w.heap.size w w' → SpOut l p e ∧ Below w.heap.size w w') := fun x hx => Lib.hid fun e w' h hb => ⟨by unfold SpOut; rw [hx]; exact h, hb⟩
  have hpl : (p : Int) ≤ s.size := by omega
  have hp1 : (p : Int) ≤ 140737488351232 := by omega
  have hsp : spAt l p = match ptAt (l.drop p) with
    | none => .error (9, p)
    | some (lo, k) => if l[p + k]? = some 45 then match ptAt (l.drop (p + k + 1)) with
        | none => .error (9, p + k + 1)
        | some (hi, k2) => if hi ≤ lo then .error (4, p) else .ok ((lo, hi + 1), p + k + 1 + k2)
      else .ok ((lo, lo + 1), p + k) := rfl
  have AL : ∀ o, Hid (Below w.heap.size w (w.alloc o)) := fun o => Lib.hid ((Below.refl _ _).alloc (Nat.le_refl _) _)
  cases h1 : ptAt (l.drop p) with
  | none =>
    have D1 := PO p _ h1 hp
    have HO := OUT _ (by rw [hsp, h1])
    simp only at D1 HO
    clear CP CH HC HD PO OUT hsp hE hs hl hln h1 hp
    go_enter Tryz.func74, Tryz.ntmps74
    go_wp2_with fail
    refine (D1.out _ (AL _).out).mono ?_
    rintro e V1 ⟨rfl, hb1⟩
    have g1 : V1.heap[w.heap.size]? = some (.cells #[.int .i64 0, .int .i64 0] 85 (0, 0)) := (hb1.block _ (by simp)).trans (alloc_at rfl)
    have HB := Lib.hid (And.intro ((AL _).out.trans (hb1.mono (AL _).out.size)) g1)
    clear hb1 g1
    have c0 : V1.cell? ⟨w.heap.size, 0, none⟩ = some (.int .i64 0) := by rw [Lib.cell_of_heap HB.out.2]; rfl
    have c1 : V1.cell? ⟨w.heap.size, 1, none⟩ = some (.int .i64 0) := by rw [Lib.cell_of_heap HB.out.2]; rfl
    have f0 : V1.frozen? ⟨w.heap.size, 0, none⟩ = false := Lib.frozen_of_heap HB.out.2 _
    have f1 : V1.frozen? ⟨w.heap.size, 1, none⟩ = false := Lib.frozen_of_heap HB.out.2 _
    go_wp2_with fail
    (try simp only [Exit.inBlock, Exit.then])
    refine bodyPost_ret (results_cell3 rfl _ _ w.heap.size 85 #[.int .i64 0, .int .i64 0] (0, 0) _ rfl (two_cells HB.out.2) Tryz.underlying85 rfl (by kernel_rfl)) rfl ?_
    exact HO.out _ _ rfl ((HB.out.1.setCell (Nat.le_refl _) _).setCell (Nat.le_refl _) _)
  | some a =>
    obtain ⟨lo, k⟩ := a
    obtain ⟨l0, l1, kp, kf⟩ := pt_fits h1
    have D1 := PO p _ h1 hp
    simp only at D1
    obtain ⟨q, hq⟩ : ∃ q, p + k = q := ⟨_, rfl⟩
    rw [h1] at hsp
    simp only [hq] at hsp D1
    rw [hq] at kf
    have hql : (q : Int) ≤ s.size := by omega
    have hq1 : (q : Int) ≤ 140737488351232 := by omega
    by_cases hc : l[q]? = some 45
    · have D2 := Lib.hid (fun V => HC.out q V)
      rw [decide_eq_true hc] at D2
      rw [if_pos hc] at hsp
      have hqs : q < s.size := by rw [← hln]; exact (List.getElem?_eq_some_iff.1 hc).1
      have hq2 : (q : Int) + 1 ≤ s.size := by omega
      cases h2 : ptAt (l.drop (q + 1)) with
      | none =>
        have D3 := PO (q + 1) _ h2 hqs
        rw [h2] at hsp
        have HO := OUT _ hsp
        simp only at D3 HO
        rw [Int.natCast_add, Int.natCast_one] at D3 HO
        clear CP CH HC HD PO OUT hsp hE hs hl hln h1 h2 hp kf hc hqs hq kp
        go_enter Tryz.func74, Tryz.ntmps74
        go_wp2_with fail
        refine (D1.out _ (AL _).out).mono ?_
        rintro e V1 ⟨rfl, hb1⟩
        have g1 : V1.heap[w.heap.size]? = some (.cells #[.int .i64 0, .int .i64 0] 85 (0, 0)) := (hb1.block _ (by simp)).trans (alloc_at rfl)
        have HB := Lib.hid (And.intro ((AL _).out.trans (hb1.mono (AL _).out.size)) g1)
        clear hb1 g1
        go_wp2_with fail
        refine (D2.out _).mono ?_
        rintro e V2 ⟨rfl, rfl⟩
        go_wp2_with fail
        refine (D3.out _ HB.out.1).mono ?_
        rintro e V2 ⟨rfl, hb2⟩
        have hlt := HB.out.1.size
        replace HB := Lib.hid (And.intro (HB.out.1.trans (hb2.mono HB.out.1.size)) ((hb2.block _ (by have := (Array.getElem?_eq_some_iff.1 HB.out.2).1; exact this)).trans HB.out.2))
        clear hb2 hlt
        have c0 : V2.cell? ⟨w.heap.size, 0, none⟩ = some (.int .i64 0) := by rw [Lib.cell_of_heap HB.out.2]; rfl
        have c1 : V2.cell? ⟨w.heap.size, 1, none⟩ = some (.int .i64 0) := by rw [Lib.cell_of_heap HB.out.2]; rfl
        have f0 : V2.frozen? ⟨w.heap.size, 0, none⟩ = false := Lib.frozen_of_heap HB.out.2 _
        have f1 : V2.frozen? ⟨w.heap.size, 1, none⟩ = false := Lib.frozen_of_heap HB.out.2 _
        go_wp2_with fail
        (try simp only [Exit.inBlock, Exit.then])
        refine bodyPost_ret (results_cell3 rfl _ _ w.heap.size 85 #[.int .i64 0, .int .i64 0] (0, 0) _ rfl (two_cells HB.out.2) Tryz.underlying85 rfl (by kernel_rfl)) rfl ?_
        exact HO.out _ _ rfl ((HB.out.1.setCell (Nat.le_refl _) _).setCell (Nat.le_refl _) _)
      | some b =>
        obtain ⟨hi, k2⟩ := b
        obtain ⟨m0, m1, mp, mf⟩ := pt_fits h2
        have D3 := PO (q + 1) _ h2 hqs
        rw [h2] at hsp
        simp only at D3 hsp
        obtain ⟨u, hu⟩ : ∃ u, q + 1 + k2 = u := ⟨_, rfl⟩
        rw [Int.natCast_add, Int.natCast_one] at D3
        rw [hu] at D3 hsp mf
        by_cases hlo : hi ≤ lo
        · rw [if_pos hlo] at hsp
          have HO := OUT _ hsp
          simp only at HO
          clear CP CH HC HD PO OUT hsp hE hs hl hln h1 h2 hp kf hc hqs hq kp hu mp mf
          go_enter Tryz.func74, Tryz.ntmps74
          go_wp2_with fail
          refine (D1.out _ (AL _).out).mono ?_
          rintro e V1 ⟨rfl, hb1⟩
          have g1 : V1.heap[w.heap.size]? = some (.cells #[.int .i64 0, .int .i64 0] 85 (0, 0)) := (hb1.block _ (by simp)).trans (alloc_at rfl)
          have HB := Lib.hid (And.intro ((AL _).out.trans (hb1.mono (AL _).out.size)) g1)
          clear hb1 g1
          go_wp2_with fail
          refine (D2.out _).mono ?_
          rintro e V2 ⟨rfl, rfl⟩
          go_wp2_with fail
          refine (D3.out _ HB.out.1).mono ?_
          rintro e V2 ⟨rfl, hb2⟩
          have hlt := HB.out.1.size
          replace HB := Lib.hid (And.intro (HB.out.1.trans (hb2.mono HB.out.1.size)) ((hb2.block _ (by have := (Array.getElem?_eq_some_iff.1 HB.out.2).1; exact this)).trans HB.out.2))
          clear hb2 hlt
          have c0 : V2.cell? ⟨w.heap.size, 0, none⟩ = some (.int .i64 0) := by rw [Lib.cell_of_heap HB.out.2]; rfl
          have c1 : V2.cell? ⟨w.heap.size, 1, none⟩ = some (.int .i64 0) := by rw [Lib.cell_of_heap HB.out.2]; rfl
          have f0 : V2.frozen? ⟨w.heap.size, 0, none⟩ = false := Lib.frozen_of_heap HB.out.2 _
          have f1 : V2.frozen? ⟨w.heap.size, 1, none⟩ = false := Lib.frozen_of_heap HB.out.2 _
          go_wp2_with fail
          (try simp only [Exit.inBlock, Exit.then])
          refine bodyPost_ret (results_cell3 rfl _ _ w.heap.size 85 #[.int .i64 0, .int .i64 0] (0, 0) _ rfl (two_cells HB.out.2) Tryz.underlying85 rfl (by kernel_rfl)) rfl ?_
          exact HO.out _ _ rfl ((HB.out.1.setCell (Nat.le_refl _) _).setCell (Nat.le_refl _) _)
        · rw [if_neg hlo] at hsp
          have HO := OUT _ hsp
          simp only at HO
          clear CP CH HC HD PO OUT hsp hE hs hl hln h1 h2 hp kf hc hqs hq kp hu mp mf
          go_enter Tryz.func74, Tryz.ntmps74
          go_wp2_with fail
          refine (D1.out _ (AL _).out).mono ?_
          rintro e V1 ⟨rfl, hb1⟩
          have g1 : V1.heap[w.heap.size]? = some (.cells #[.int .i64 0, .int .i64 0] 85 (0, 0)) := (hb1.block _ (by simp)).trans (alloc_at rfl)
          have HB := Lib.hid (And.intro ((AL _).out.trans (hb1.mono (AL _).out.size)) g1)
          clear hb1 g1
          go_wp2_with fail
          refine (D2.out _).mono ?_
          rintro e V2 ⟨rfl, rfl⟩
          go_wp2_with fail
          refine (D3.out _ HB.out.1).mono ?_
          rintro e V2 ⟨rfl, hb2⟩
          have hlt := HB.out.1.size
          replace HB := Lib.hid (And.intro (HB.out.1.trans (hb2.mono HB.out.1.size)) ((hb2.block _ (by have := (Array.getElem?_eq_some_iff.1 HB.out.2).1; exact this)).trans HB.out.2))
          clear hb2 hlt
          have c0 : V2.cell? ⟨w.heap.size, 0, none⟩ = some (.int .i64 0) := by rw [Lib.cell_of_heap HB.out.2]; rfl
          have c1 : V2.cell? ⟨w.heap.size, 1, none⟩ = some (.int .i64 0) := by rw [Lib.cell_of_heap HB.out.2]; rfl
          have f0 : V2.frozen? ⟨w.heap.size, 0, none⟩ = false := Lib.frozen_of_heap HB.out.2 _
          have f1 : V2.frozen? ⟨w.heap.size, 1, none⟩ = false := Lib.frozen_of_heap HB.out.2 _
          go_wp2_with fail
          (try simp only [Exit.inBlock, Exit.then])
          refine bodyPost_ret (results_cell3 rfl _ _ w.heap.size 85 #[.int .i64 lo, .int .i64 (hi + 1)] (0, 0) _ rfl (two_cells HB.out.2) Tryz.underlying85 rfl (by kernel_rfl)) rfl ?_
          exact HO.out _ _ rfl ((HB.out.1.setCell (Nat.le_refl _) _).setCell (Nat.le_refl _) _)
    · have D2 := Lib.hid (fun V => HC.out q V)
      rw [decide_eq_false hc] at D2
      rw [if_neg hc] at hsp
      have HO := OUT _ hsp
      simp only at HO
      clear CP CH HC HD PO OUT hsp hE hs hl hln h1 hp kf hc hq kp
      go_enter Tryz.func74, Tryz.ntmps74
      go_wp2_with fail
      refine (D1.out _ (AL _).out).mono ?_
      rintro e V1 ⟨rfl, hb1⟩
      have g1 : V1.heap[w.heap.size]? = some (.cells #[.int .i64 0, .int .i64 0] 85 (0, 0)) := (hb1.block _ (by simp)).trans (alloc_at rfl)
      have HB := Lib.hid (And.intro ((AL _).out.trans (hb1.mono (AL _).out.size)) g1)
      clear hb1 g1
      go_wp2_with fail
      refine (D2.out _).mono ?_
      rintro e V2 ⟨rfl, rfl⟩
      have c0 : V1.cell? ⟨w.heap.size, 0, none⟩ = some (.int .i64 0) := by rw [Lib.cell_of_heap HB.out.2]; rfl
      have c1 : V1.cell? ⟨w.heap.size, 1, none⟩ = some (.int .i64 0) := by rw [Lib.cell_of_heap HB.out.2]; rfl
      have f0 : V1.frozen? ⟨w.heap.size, 0, none⟩ = false := Lib.frozen_of_heap HB.out.2 _
      have f1 : V1.frozen? ⟨w.heap.size, 1, none⟩ = false := Lib.frozen_of_heap HB.out.2 _
      go_wp2_with fail
      (try simp only [Exit.inBlock, Exit.then])
      refine bodyPost_ret (results_cell3 rfl _ _ w.heap.size 85 #[.int .i64 lo, .int .i64 (lo + 1)] (0, 0) _ rfl (two_cells HB.out.2) Tryz.underlying85 rfl (by kernel_rfl)) rfl ?_
      exact HO.out _ _ rfl ((HB.out.1.setCell (Nat.le_refl _) _).setCell (Nat.le_refl _) _)
end Go.Proofs.YtmpjlenfnlijfaaGreatDoor
/- The document's rows in memory; the worlds of its Parse and Of. -/
namespace Go.Kt
open Go
section
variable {P : Program} {o : Oper} {a : Act} {w w' : World}
theorem exec_asg {x : Operand} {u : Value} (ho : o.op = .assign x) (hx : a.eval x = u) : (execOp a.eval o).run P w = .ok (.value u) w := by
  unfold execOp; rw [ho]; simp only [hx]; rfl
theorem exec_ix {t : TypeId} {x y : Operand} {u1 u2 v : Value} (ho : o.op = .index t x y) (hx : a.eval x = u1) (hy : a.eval y = u2) (h : (Instr.index t u1 u2).run P w = .ok v w') : (execOp a.eval o).run P w = .ok (.value v) w' := by
  unfold execOp; rw [ho]; simp only [hx, hy]; exact run_val h
theorem exec_sliceS {t : TypeId} {x lo hi : Operand} {u u1 u2 v : Value} (ho : o.op = .slice t x (some lo) (some hi) none) (hx : a.eval x = u) (h1 : a.eval lo = u1) (h2 : a.eval hi = u2) (h : (Instr.sliceAt t u (some u1) (some u2) none).run P w = .ok v w') : (execOp a.eval o).run P w = .ok (.value v) w' := by
  unfold execOp; rw [ho]; simp only [Option.map_some, Option.map_none, hx, h1, h2]; exact run_val h
end
end Go.Kt
namespace Go.Proofs.YtmpjlenfnlijfaaGreatDoor
open Go Go.RowKit Go.Kt Go.Kt.Rg
attribute [local go_sem] Oper.semAt_some

theorem rdV_fits {l : List UInt8} {p k : Nat} {n : Int} (h : rdV (l.drop p) = (n, k)) (h0 : 0 ≤ n) : n < 1112192 ∧ 0 < k ∧ p + k ≤ l.length := by
  unfold rdV at h
  cases hp : ptAt (l.drop p) with
  | none =>
    rw [hp] at h
    have h : ((-1 : Int), (0 : Nat)) = (n, k) := h
    injection h with h1 _
    omega
  | some x =>
    rw [hp] at h
    have h : x = (n, k) := h
    subst h
    exact ⟨(pt_fits hp).2.1, (pt_fits hp).2.2.1, (pt_fits hp).2.2.2⟩
/-- The document's row of a run: its last number stands there. -/
def dnR (x : Run) : Run := (x.1, x.2 - 1)
theorem tinfoTwo : (Tryz.prog.info? 90).map (fun i => (i.zero, i.size, i.bytes)) = some (some (.agg #[.int .i64 0, .int .i64 0]), 2, 16) := by kernel_rfl
theorem append_two {Y : Nat → Prop} {ao : Option Addr} {n cp : Nat} {l : List Run} {W : World} (hown : OwnS Y 90 2 (.slice ao n cp) n (encR l) W) (hY : ∀ y, W.heap.size ≤ y → Y y) (x : Run) (hn : n ≤ 2199023255552) :
    ∃ g cap w', (∀ ty, (Builtin.append_ #[31, 31] ty #[.slice ao n cp, .slice (some ⟨W.heap.size, 0, none⟩) 1 1]).run Tryz.prog (W.alloc (.cells #[.int .i64 x.1, .int .i64 x.2] 90)) = .ok (.slice (some ⟨g, 0, none⟩) (n + 1) cap) w') ∧
      OwnS Y 90 2 (.slice (some ⟨g, 0, none⟩) (n + 1) cap) (n + 1) (encR (l ++ [x])) w' ∧ W.heap.size < w'.heap.size ∧ Keep (fun b => (Value.slice ao n cp).ownBlock = some b) W w' := by
  obtain ⟨g, cap, w2, hrun, hown2, hk2, hg2, hz2⟩ := append_x (P := Tryz.prog) W 31 90 Tryz.underlying31 tinfoTwo rfl (by omega) hown [.int .i64 x.1, .int .i64 x.2] rfl
    (by intro u hu; simp at hu; rcases hu with rfl | rfl <;> rfl) (by unfold maxLen; omega) (by omega)
  have hge : Y g := by
    rcases hg2 with h | h
    · exact hown.2 g h
    · exact hY g (by omega)
  refine ⟨g, cap, w2, hrun, ?_, hz2, hk2⟩
  rw [encR_snoc]; exact hown2.weaken (fun b h => by subst h; exact hge)
theorem slr_own {Y : Nat → Prop} {e : TypeId} {v : Value} {n : Nat} {l : List Run} {W : World} (h : OwnS Y e 2 v n (encR l) W) (hn : n = l.length) : SlR W v l := by
  subst hn
  rcases h.1.2 with ⟨hv, hn⟩ | ⟨g, cap, cur, hv, rest⟩
  · exact ⟨none, 0, by rw [hv, hn], .inl (List.eq_nil_of_length_eq_zero hn)⟩
  · refine ⟨_, cap, hv, .inr ⟨g, rfl, fun i x hx => ?_⟩⟩
    subst hv
    have e := encR_get l i x hx
    have c1 := h.1.cells (g := g) rfl _ _ e.1
    have c2 := h.1.cells (g := g) rfl _ _ e.2
    rw [Addr.add_lit, Nat.zero_add] at c1 c2
    exact ⟨c1, c2⟩
theorem own_nx {Y : Nat → Prop} {e : TypeId} {size n : Nat} {v : Value} {xs : List Value} {A B : World} (h : OwnS Y e size v n xs A) (hb : Below A.heap.size A B) : OwnS Y e size v n xs B := h.keep (X := fun _ => False) (.of_all hb) (fun _ h => h.elim)
theorem own_bx {Y : Nat → Prop} {e : TypeId} {size n : Nat} {v : Value} {xs : List Value} {A : World} (h : OwnS Y e size v n xs A) : OwnS (fun b => Y b ∧ b < A.heap.size) e size v n xs A := ⟨h.1, fun b hb => ⟨h.2 b hb, (h.1.lt b hb).2⟩⟩
theorem own_set {Y : Nat → Prop} {e : TypeId} {size n : Nat} {v : Value} {xs : List Value} {W : World} (h : OwnS Y e size v n xs W) {g o : Nat} (u : Value) (hc : ¬ Y g) : OwnS Y e size v n xs (W.setCell ⟨g, o, none⟩ u) :=
  h.keep (X := fun b => b = g) (Keep.setCell (X := fun b => b = g) (Keep.refl _ _) (p := ⟨g, o, none⟩) rfl u) (fun b hb => by subst hb; exact hc)
/-- The worlds of Parse: the result's memory, and the set's. -/
def PW (w : World) (v : Value) (W : World) : Prop :=
  W.heap[w.heap.size]? = some (.cells #[.slice none 0 0] 33 (0, 0)) ∧ W.heap[w.heap.size + 1]? = some (.cells #[v] 33 (0, 0)) ∧ Below w.heap.size w W ∧ w.heap.size + 2 ≤ W.heap.size
theorem PW.next {w V V' : World} {v : Value} (h : PW w v V) (hb : Below V.heap.size V V') : PW w v V' :=
  ⟨(hb.block _ (by have := h.2.2.2; omega)).trans h.1, (hb.block _ (by have := h.2.2.2; omega)).trans h.2.1, h.2.2.1.trans (hb.mono h.2.2.1.size), Nat.le_trans h.2.2.2 hb.size⟩
theorem PW.start (w : World) : PW w (.slice none 0 0) ((w.alloc (.cells #[.slice none 0 0] 33)).alloc (.cells #[.slice none 0 0] 33)) :=
  ⟨alloc_old (alloc_at rfl), alloc_at (by simp), ((Below.refl _ _).alloc (Nat.le_refl _) _).alloc (by simp) _, by simp⟩
theorem one_cell {V : World} {g : Nat} {a x : Value} {T : TypeId} (h : V.heap[g]? = some (.cells #[a] T (0, 0))) : (V.setCell ⟨g, 0, none⟩ x).heap[g]? = some (.cells #[x] T (0, 0)) := by
  have h1 := heap_setCell_same V g 0 _ _ x h
  simpa using h1
theorem PW.app {w V W2 : World} {ao : Option Addr} {n cp : Nat} {v' : Value} (h : PW w (.slice ao n cp) V) (hY : ∀ b, (Value.slice ao n cp).ownBlock = some b → w.heap.size + 2 ≤ b) (hk : Keep (fun b => (Value.slice ao n cp).ownBlock = some b) V W2) (hz : V.heap.size < W2.heap.size) :
    W2.heap[w.heap.size + 1]? = some (.cells #[.slice ao n cp] 33 (0, 0)) ∧ PW w v' (W2.setCell ⟨w.heap.size + 1, 0, none⟩ v') := by
  have hb2 : Below (w.heap.size + 2) V W2 := hk.below h.2.2.2 hY
  have k0 : W2.heap[w.heap.size]? = some (.cells #[.slice none 0 0] 33 (0, 0)) := (hb2.block _ (by omega)).trans h.1
  have k1 : W2.heap[w.heap.size + 1]? = some (.cells #[.slice ao n cp] 33 (0, 0)) := (hb2.block _ (by omega)).trans h.2.1
  have hbw : Below w.heap.size w W2 := h.2.2.1.trans (hb2.mono (by omega))
  have hb3 : Below (w.heap.size + 1) W2 (W2.setCell ⟨w.heap.size + 1, 0, none⟩ v') := (Below.refl (w.heap.size + 1) W2).setCell (p := ⟨w.heap.size + 1, 0, none⟩) (Nat.le_refl _) v'
  exact ⟨k1, (hb3.block _ (by omega)).trans k0, one_cell k1, hbw.trans (hb3.mono (by omega)), by have := hb3.size; have := h.2.2.2; omega⟩

end Go.Proofs.YtmpjlenfnlijfaaGreatDoor
/- What is the same of any program: an iterator that lays memory of its own between rounds, and the loop over it. -/
namespace Go.Kt
open Go Go.RowKit
variable {P : Program}

/-- What speaks of no block to come. -/
def Slim {β : Type} (J : β → (Nat → Prop) → World → Prop) : Prop := ∀ s Y W, J s Y W → J s (fun b => Y b ∧ b < W.heap.size) W
/-- **AN ITERATOR THAT HANDS OUT JUST THE LIST L**, as Iter; what its rounds keep speaks of no block to come: so it may lay memory of its own between them. -/
def Iter2 {α : Type} (P : Program) (gf : Nat) (lb : Array Value) (encs : α → Array Value) (L : List α) (Nd : Nat → Prop) (w0 : World) : Prop :=
  ∀ (l : Nat) (X : Nat → Prop) (J Jx : List α → (Nat → Prop) → World → Prop) (W : World),
    (∀ b, Nd b → ¬ X b) → (∀ b, X b → b < W.heap.size) → (∀ b, Nd b → W.heap[b]? = w0.heap[b]?) → w0.heap.size ≤ W.heap.size →
    Low W.heap.size J → Low W.heap.size Jx → Slim J →
    (∀ pre x Y W1, pre ++ [x] <+: L → J pre Y W1 → W.heap.size ≤ W1.heap.size → (∀ b, Y b → W.heap.size ≤ b) → YieldAt Fence.wide 0 P l (encs x) W1 fun e W' =>
      ∃ Y', Keep (fun b => X b ∨ Y b) W1 W' ∧ (∀ b, Y' b → Y b ∨ W1.heap.size ≤ b) ∧ ((e = .returned (.bool true) ∧ J (pre ++ [x]) Y' W') ∨ (e = .returned (.bool false) ∧ Jx (pre ++ [x]) Y' W'))) →
    J [] (fun _ => False) W →
    Calls P gf (#[.func (.yield l) #[] #[]] ++ lb) W fun e W' => (∃ v, e = .returned v) ∧ Keep X W W' ∧ ((∃ Y, (∀ b, Y b → W.heap.size ≤ b) ∧ J L Y W') ∨ ∃ pre Y, pre <+: L ∧ (∀ b, Y b → W.heap.size ≤ b) ∧ Jx pre Y W')

theorem loop_core2 {α : Type} {F : Fence} {ps : Array Tmp} {assign body : Code} {Q : Exit → Act → World → Prop} {a a' : Act} {w W1 : World}
    {gf : Nat} {lb : Array Value} {encs : α → Array Value} {L : List α} {Nd X : Nat → Prop} {w0 : World} (hit : Iter2 P gf lb encs L Nd w0)
    (hps : ∀ x, (encs x).size = ps.size) (l : Nat) (rec : LoopState → Option Code → Loop) (fn : FuncId) (D : Nat)
    (hrec : ∀ st pe, rec st pe = { state := st, pending := pe, fn, tmps := a.tmps, params := ps, assign, body, defers := D })
    (hX : ∀ b, X b → b < w.heap.size) (hNd : ∀ b, Nd b → ¬ X b ∧ b < w.heap.size) (hNdw : ∀ b, Nd b → w.heap[b]? = w0.heap[b]?) (hw0 : w0.heap.size ≤ w.heap.size)
    (hl : w.heap.size ≤ l) (hL1 : W1.heap[l]? = some (.loop (rec .ready none))) (hbw : Below w.heap.size w W1)
    (I : List α → (Nat → Prop) → World → Prop) (Ix : Code → List α → (Nat → Prop) → World → Prop) (hI : Low w.heap.size I) (hSI : Slim I) (hIx : ∀ c, Low w.heap.size (Ix c)) (h0 : I [] (fun _ => False) w)
    (hround : Round P ps assign body a.tmps encs L X I Ix w l)
    (hdone : ∀ Y W, I L Y W → (∀ b, Y b → W1.heap.size ≤ b) → Keep X w W → Keep (fun b => X b ∨ b = l) W1 W → Q .normal a' W)
    (hstop : ∀ c pre Y W, pre <+: L → Ix c pre Y W → (∀ b, Y b → W1.heap.size ≤ b) → Keep X w W → Keep (fun b => X b ∨ b = l) W1 W → c.wpIn F 0 P Q a' W) :
    Calls P gf (#[.func (.yield l) #[] #[]] ++ lb) W1 (rangePost F 0 P l Q a') := by
  have hlt1 : l < W1.heap.size := (Array.getElem?_eq_some_iff.1 hL1).1
  have hB1 : w.heap.size ≤ W1.heap.size := hbw.size
  have hkw : Keep X w W1 := .of_all hbw
  -- a step that touches nothing below W1's heap's end but what is not of Y
  have low1 : ∀ {Y : Nat → Prop} {A B : World}, Keep (fun b => W1.heap.size ≤ b ∧ ¬ Y b) A B → Keep (fun b => w.heap.size ≤ b ∧ ¬ Y b) A B := fun h => h.weaken fun _ _ hb => ⟨Nat.le_trans hB1 hb.1, hb.2⟩
  have lowX : ∀ {Y : Nat → Prop} {A B : World}, Keep (fun b => W1.heap.size ≤ b ∧ ¬ Y b) A B → Keep X w A → Keep X w B := fun h k =>
    ⟨h.os.trans k.os, h.tape.trans k.tape, h.output.trans k.output, Nat.le_trans k.size h.size, fun b hb hx => (h.same b (Nat.lt_of_lt_of_le hb k.size) (fun hy => by have := hy.1; omega)).trans (k.same b hb hx)⟩
  have lowl : ∀ {Y : Nat → Prop} {A B : World} {o : Obj}, Keep (fun b => W1.heap.size ≤ b ∧ ¬ Y b) A B → A.heap[l]? = some o → B.heap[l]? = some o := fun h ho => h.heap ho (fun hy => by have := hy.1; omega)
  -- the law's own turn of its record
  have turn : ∀ {Y : Nat → Prop} (W : World) (o : Obj), (∀ b, Y b → W1.heap.size ≤ b) → Keep (fun b => w.heap.size ≤ b ∧ ¬ Y b) W (W.putObj l o) := fun W o hY => (Keep.refl _ W).putObj (.inl ⟨hl, fun hy => by have := hY l hy; omega⟩) o
  refine (hit l (fun b => X b ∨ b = l) (fun pre Y W => (∀ b, Y b → W1.heap.size ≤ b) ∧ I pre Y W ∧ Keep X w W ∧ W.heap[l]? = some (.loop (rec .ready none)))
    (fun pre Y W => (∀ b, Y b → W1.heap.size ≤ b) ∧ ∃ c, Ix c pre Y W ∧ Keep X w W ∧ W.heap[l]? = some (.loop (rec .done (some c)))) W1
    (fun b hb => by have := hNd b hb; rintro (h | h); exact this.1 h; omega)
    (fun b hb => by rcases hb with hb | hb; have := hX b hb; omega; omega)
    (fun b hb => (hkw.same b (hNd b hb).2 (hNd b hb).1).trans (hNdw b hb)) (by omega)
    (fun s Y A B hb ⟨hY, h1, h2, h3⟩ => ⟨hY, hI s Y A B (low1 hb) h1, lowX hb h2, lowl hb h3⟩)
    (fun s Y A B hb ⟨hY, c, h1, h2, h3⟩ => ⟨hY, c, hIx c s Y A B (low1 hb) h1, lowX hb h2, lowl hb h3⟩)
    (fun s Y A ⟨hY, h1, h2, h3⟩ => ⟨fun b hb => hY b hb.1, hSI s Y A h1, h2, h3⟩)
    ?_ ⟨fun _ h => h.elim, hI _ _ _ _ (.of_all hbw) h0, hkw, hL1⟩).mono ?_
  · rintro pre x Y W hpre ⟨hY, hi, hk, hl3⟩ hsz _
    have hlt : l < W.heap.size := (Array.getElem?_eq_some_iff.1 hl3).1
    have hYl : ∀ b, Y b → w.heap.size ≤ b ∧ b ≠ l := fun b hb => by have := hY b hb; omega
    have hy := run_yield (P := P) (args := encs x) hl3 (by rw [hrec]; exact hps x)
    rw [hrec] at hy
    refine ⟨fn, _, assign, body, hy, roundIn_of_wpIn trivial (wpIn_mono (hround pre x Y W hpre hi hk hYl hlt ⟨_, hl3⟩) ?_)⟩
    intro e a₁ w₁ h
    cases e with
    | normal =>
      obtain ⟨hk1, hb1⟩ := h
      have hl4 : w₁.heap[l]? = some (.loop (rec .ready none)) := hk1.heap hl3 (fun hx => hx)
      refine ⟨_, run_beginRound hl4 (by rw [hrec]), ?_⟩
      have hlt4 : l < w₁.heap.size := (Array.getElem?_eq_some_iff.1 hl4).1
      have hi1 : I pre Y w₁ := hI _ _ _ _ (hk1.weaken (fun _ _ h => h.elim)) hi
      have hi2 := hI _ _ _ _ (turn (Y := Y) w₁ (.loop { rec .ready none with state := .busy }) hY) hi1
      have hkw1 : Keep X w (w₁.putObj l (.loop { rec .ready none with state := .busy })) := (hk.trans (hk1.weaken fun _ _ h => h.elim)).putObj (.inr hl) _
      have hl5 : (w₁.putObj l (.loop { rec .ready none with state := .busy })).heap[l]? = some (.loop { rec .ready none with state := .busy }) := World.putObj_heap_same hlt4
      refine wpIn_mono (hb1 _ ((Keep.refl (fun b => b = l) w₁).putObj (.inl rfl) _) hkw1 hi2 ⟨_, hl5⟩) ?_
      have hX2 : Keep (fun b => (X b ∨ b = l) ∨ Y b) W (w₁.putObj l (.loop { rec .ready none with state := .busy })) := (hk1.weaken (fun _ _ h => h.elim)).putObj (.inl (.inl (.inr rfl))) _
      have hsz2 : W.heap.size ≤ (w₁.putObj l (.loop { rec .ready none with state := .busy })).heap.size := hX2.size
      have fin : ∀ (jump : Option Code) (W3 : World) (I' : List α → (Nat → Prop) → World → Prop), Low w.heap.size I' → Left X Y I' (pre ++ [x]) (w₁.putObj l (.loop { rec .ready none with state := .busy })) W3 →
          (Instr.endRound l jump).run P W3 = .ok (.bool jump.isNone) (W3.putObj l (.loop (rec (if jump.isNone then .ready else .done) jump))) ∧
          (W3.putObj l (.loop (rec (if jump.isNone then .ready else .done) jump))).heap[l]? = some (.loop (rec (if jump.isNone then .ready else .done) jump)) ∧
          ∃ Y', (∀ b, Y' b → W1.heap.size ≤ b) ∧ (∀ b, Y' b → Y b ∨ W.heap.size ≤ b) ∧ I' (pre ++ [x]) Y' (W3.putObj l (.loop (rec (if jump.isNone then .ready else .done) jump))) ∧
          Keep X w (W3.putObj l (.loop (rec (if jump.isNone then .ready else .done) jump))) ∧
          Keep (fun b => (X b ∨ b = l) ∨ Y b) W (W3.putObj l (.loop (rec (if jump.isNone then .ready else .done) jump))) := fun jump W3 I' hI' ⟨Y', hk3, hY', hi3⟩ => by
        have hl6 := hk3.heap hl5 (fun hx => by rcases hx with hx | hx; have := hX l hx; omega; have := hY l hx; omega)
        have hr := run_endRound (P := P) jump hl6
        have er : ({ ({ rec .ready none with state := .busy } : Loop) with state := if jump.isNone then .ready else .done, pending := jump } : Loop) = rec (if jump.isNone then .ready else .done) jump := by
          rw [hrec, hrec]
        rw [er] at hr
        have hY1 : ∀ b, Y' b → W1.heap.size ≤ b := fun b hb => by rcases hY' b hb with h | h; exact hY b h; omega
        refine ⟨hr, World.putObj_heap_same (Array.getElem?_eq_some_iff.1 hl6).1, Y', hY1, fun b hb => by rcases hY' b hb with h | h; exact .inl h; exact .inr (by omega), hI' _ _ _ _ (turn W3 _ hY1) hi3, ?_, ?_⟩
        · refine Keep.putObj ?_ (.inr hl) _
          exact ⟨hk3.os.trans hkw1.os, hk3.tape.trans hkw1.tape, hk3.output.trans hkw1.output, Nat.le_trans hkw1.size hk3.size, fun b hb hx => (hk3.same b (Nat.lt_of_lt_of_le hb hkw1.size) (fun h => by rcases h with h | h; exact hx h; have := hY b h; omega)).trans (hkw1.same b hb hx)⟩
        · exact (hX2.trans (hk3.weaken (fun _ _ h => by rcases h with h | h; exact .inl (.inl h); exact .inr h))).putObj (.inl (.inl (.inr rfl))) _
      rintro e a3 W3 hp
      cases e with
      | normal =>
        obtain ⟨hr, hl7, Y', q1, q2, q3, q4, q5⟩ := fin none W3 I hI hp
        exact ⟨_, _, hr, Y', q5, q2, .inl ⟨rfl, q1, q3, q4, hl7⟩⟩
      | ret =>
        obtain ⟨hr, hl7, Y', q1, q2, q3, q4, q5⟩ := fin (some .ret) W3 _ (hIx _) hp
        exact ⟨_, _, hr, Y', q5, q2, .inr ⟨rfl, q1, .ret, q3, q4, hl7⟩⟩
      | exit id =>
        obtain ⟨hr, hl7, Y', q1, q2, q3, q4, q5⟩ := fin (some (.exit id)) W3 _ (hIx _) hp
        exact ⟨_, _, hr, Y', q5, q2, .inr ⟨rfl, q1, .exit id, q3, q4, hl7⟩⟩
      | goto t =>
        obtain ⟨hr, hl7, Y', q1, q2, q3, q4, q5⟩ := fin (some (.goto t)) W3 _ (hIx _) hp
        exact ⟨_, _, hr, Y', q5, q2, .inr ⟨rfl, q1, .goto t, q3, q4, hl7⟩⟩
      | panic ch => exact hp.elim
      | outgrown => exact hp.elim
    | ret => exact h.elim
    | exit id => exact h.elim
    | goto t => exact h.elim
    | panic ch => exact h.elim
    | outgrown => exact h.elim
  · rintro e W2 ⟨⟨v, rfl⟩, hk2, (⟨Y, _, hY, hi, hk, hl2⟩ | ⟨pre, Y, hpre, _, hY, c, hi, hk, hl2⟩)⟩
    · have hr := run_endLoop (P := P) hl2 (by rw [hrec]; simp)
      have e1 : (rec .ready none).pending = none := by rw [hrec]
      rw [e1] at hr
      exact ⟨none, _, hr, hdone Y _ (hI _ _ _ _ (turn W2 _ hY) hi) hY (hk.putObj (.inr hl) _) (hk2.putObj (.inl (.inr rfl)) _)⟩
    · have hr := run_endLoop (P := P) hl2 (by rw [hrec]; simp)
      have e1 : (rec .done (some c)).pending = some c := by rw [hrec]
      rw [e1] at hr
      exact ⟨some c, _, hr, hstop c pre Y _ hpre (hIx c _ _ _ _ (turn W2 _ hY) hi) hY (hk.putObj (.inr hl) _) (hk2.putObj (.inl (.inr rfl)) _)⟩

/-- THE LOOP, OUTERMOST: behind it the activation bears one mark more. -/
theorem loop_out2 {α : Type} {g : Operand} {ps : Array Tmp} {assign body : Code} {Q : Exit → Act → World → Prop} {a : Act} {w : World}
    {gf : Nat} {lb : Array Value} (hg : a.eval g = .func (.func gf) #[] lb) (eg : ∀ args w, (callFunc gf args).run P w = .ok (.enter gf args) w)
    {encs : α → Array Value} {L : List α} {Nd X : Nat → Prop} {w0 : World} (hit : Iter2 P gf lb encs L Nd w0) (hps : ∀ x, (encs x).size = ps.size)
    (hX : ∀ b, X b → b < w.heap.size) (hNd : ∀ b, Nd b → ¬ X b ∧ b < w.heap.size) (hNdw : ∀ b, Nd b → w.heap[b]? = w0.heap[b]?) (hw0 : w0.heap.size ≤ w.heap.size)
    (I : List α → (Nat → Prop) → World → Prop) (Ix : Code → List α → (Nat → Prop) → World → Prop) (hI : Low w.heap.size I) (hSI : Slim I) (hIx : ∀ c, Low w.heap.size (Ix c)) (h0 : I [] (fun _ => False) w)
    (hround : ∀ l, w.heap.size ≤ l → Round P ps assign body a.tmps encs L X I Ix w l)
    (hdone : ∀ D Y W, w.heap.size ≤ D → W.heap[D]? = some (.deferred (some [])) → I L Y W → (∀ b, Y b → w.heap.size ≤ b ∧ b ≠ D) → Keep X w W → Q .normal { a with defers := { target := .collected D, args := #[] } :: a.defers } W)
    (hstop : ∀ D c pre Y W, w.heap.size ≤ D → W.heap[D]? = some (.deferred (some [])) → pre <+: L → Ix c pre Y W → (∀ b, Y b → w.heap.size ≤ b ∧ b ≠ D) → Keep X w W → c.wpIn Fence.wide 0 P Q { a with defers := { target := .collected D, args := #[] } :: a.defers } W) :
    (Code.rangeFunc g ps assign body).wpIn Fence.wide 0 P Q a w := by
  refine wpIn_rangeFunc ?_
  intro fn _
  obtain ⟨rec, hrec⟩ : ∃ rec : LoopState → Option Code → Loop, rec = fun st pe => { state := st, pending := pe, fn, tmps := a.tmps, params := ps, assign, body, defers := w.heap.size } := ⟨_, rfl⟩
  obtain ⟨W1, hW1⟩ : ∃ W1, (w.alloc (.deferred (some []))).alloc (.loop (rec .ready none)) = W1 := ⟨_, rfl⟩
  have hL1 : W1.heap[w.heap.size + 1]? = some (.loop (rec .ready none)) := by
    rw [← hW1]; have := World.alloc_heap_new (w.alloc (.deferred (some []))) (.loop (rec .ready none)); rwa [World.size_alloc] at this
  have hD1 : W1.heap[w.heap.size]? = some (.deferred (some [])) := by
    rw [← hW1]; exact (Below.heap_alloc _ _ _ (by simp)).trans (World.alloc_heap_new w _)
  have hbw : Below w.heap.size w W1 := by
    rw [← hW1]; exact ((Below.refl _ w).alloc (Nat.le_refl _) _).alloc (by simp) _
  have hltD : w.heap.size < W1.heap.size := (Array.getElem?_eq_some_iff.1 hD1).1
  have hD : ∀ W, Keep (fun b => X b ∨ b = w.heap.size + 1) W1 W → W.heap[w.heap.size]? = some (.deferred (some [])) := fun W hk =>
    hk.heap hD1 (fun h => by rcases h with h | h; have := hX _ h; omega; omega)
  refine ⟨w.heap.size + 1, [{ target := .collected w.heap.size, args := #[] }], W1, { target := .fn (.func gf) lb, args := #[.func (.yield (w.heap.size + 1)) #[] #[]] }, W1, gf,
    #[.func (.yield (w.heap.size + 1)) #[] #[]] ++ lb, W1, ?_, ?_, ?_, ?_, (fun h => by cases h), ?_⟩
  · rw [← hW1, hrec]; exact run_enterLoop_outer _ _ _ _ _
  · simp only [resolve, hg]
    simp [go_sem]
  · intro _ _; trivial
  · simp [invoke, go_sem, eg]
  · exact callsIn_wide.2 (loop_core2 hit hps (w.heap.size + 1) rec fn w.heap.size (by intro st pe; rw [hrec]) hX hNd hNdw hw0 (by omega) hL1 hbw I Ix hI hSI hIx h0
      (hround _ (by omega))
      (fun Y W hi hY hk hk1 => hdone _ Y W (Nat.le_refl _) (hD W hk1) hi (fun b hb => by have := hY b hb; omega) hk)
      (fun c pre Y W hp hi hY hk hk1 => hstop _ c pre Y W (Nat.le_refl _) (hD W hk1) hp hi (fun b hb => by have := hY b hb; omega) hk))
end Go.Kt
