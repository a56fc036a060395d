/- Parts of the proof of what the last text says. -/
import Derived.Test.YtcfhblbmpbfoaaaGreatDoorGv14
import Derived.Test.YtcfhblbmpbfoaaaGreatDoorGv13
import Derived.Test.YtcfhblbmpbfoaaaGreatDoorGv2
import Derived.Laws.Rows
import Derived.Test.YtcfhblbmpbfoaaaGreatDoorGv7
import Derived.Test.YtcfhblbmpbfoaaaGreatDoorGv4
import Derived.Test.YtcfhblbmpbfoaaaGreatDoorGv15
import Derived.Test.YtcfhblbmpbfoaaaGreatDoorJmx
import Derived.Test.YtcfhblbmpbfoaaaGreatDoorJox
namespace Go.Proofs.YtcfhblbmpbfoaaaGreatDoor
open Go Go.RowKit Go.Kt Go.Kt.Rg Go.Kt.Bits Go.Maps Go.Kt.Os Go.Sort

def abvB (l : List (Nat × Int)) (r : Int) (i : Nat) : Bool := match l[i]? with
  | some x => decide (r < (x.1 : Int))
  | none => true
theorem abv_mono {l : List (Nat × Int)} (r : Int) (h : l.Pairwise (fun a b => a.1 < b.1)) : ∀ a b, a ≤ b → abvB l r a = true → abvB l r b = true := by
  intro a b hab ha
  unfold abvB at ha ⊢
  cases hb : l[b]? with
  | none => rfl
  | some y =>
    obtain ⟨hbl, hby⟩ := List.getElem?_eq_some_iff.1 hb
    have hal : a < l.length := by omega
    rw [List.getElem?_eq_getElem hal] at ha
    have h1 : r < ((l[a]).1 : Int) := by simpa using ha
    by_cases e : a = b
    · subst e; rw [hby] at h1; simpa using h1
    · have h2 := (List.pairwise_iff_getElem.1 h) a b hal hbl (by omega)
      rw [hby] at h2
      have : r < (y.1 : Int) := by omega
      simpa using this

set_option maxRecDepth 100000 in
theorem patc (l : List (Nat × Int)) (v : Value) (r : Int) (lb rb i : Nat) (w : World) (hS : RunV w v l) (hi : i < l.length) (hl : l.length ≤ 1114113) (c1 : w.cell? ⟨lb, 0, none⟩ = some v) (c2 : w.cell? ⟨rb, 0, none⟩ = some (.int .i32 r)) :
    Calls Tryz.prog 125 #[.int .i64 i, .pointer (some ⟨lb, 0, none⟩), .pointer (some ⟨rb, 0, none⟩)] w
      fun e w' => e = .returned (.bool (abvB l r i)) ∧ ∃ q, w' = w.drewN q := by
  obtain ⟨ao, cp, rfl, h⟩ := hS
  obtain ⟨x, hx⟩ : ∃ x, l[i]? = some x := ⟨_, List.getElem?_eq_getElem hi⟩
  obtain ⟨g, rfl, hg⟩ : ∃ g, ao = some ⟨g, 0, none⟩ ∧ w.cell? ⟨g, i * 2, none⟩ = some (.int .i32 (x.1 : Nat)) := by
    rcases h with h | ⟨g, e, h⟩
    · subst h; simp at hi
    · exact ⟨g, e, (h i x hx).1⟩
  have he : abvB l r i = decide (r < (x.1 : Int)) := by unfold abvB; rw [hx]
  rw [he]
  obtain ⟨n, hn⟩ : ∃ n, l.length = n := ⟨_, rfl⟩
  rw [hn] at c1 hi hl
  obtain ⟨y, z⟩ := x
  simp only at hg ⊢
  have hi' : (i : Int) < (n : Int) := by omega
  clear h he hx hn
  go_enter Tryz.func125, Tryz.ntmps125
  go_wp2
  go_quiet (fail)
  go_wp2
  go_ret
  exact ⟨by simp, _, rfl⟩

set_option maxRecDepth 100000 in
theorem pat (l : List (Nat × Int)) (v : Value) (r : Int) (w : World) (hS : RunV w v l) (hp : l.Pairwise (fun a b => a.1 < b.1)) (hl : l.length ≤ 1114113) :
    Calls Tryz.prog 77 #[v, .int .i32 r] w fun e w' => e = .returned (.int .i64 (runVal l r)) ∧ Below w.heap.size w w' := by
  obtain ⟨m, hm⟩ : ∃ m, w.heap.size = m := ⟨_, rfl⟩
  obtain ⟨V1, hV1⟩ : ∃ V, w.alloc (.cells #[v] 120) = V := ⟨_, rfl⟩
  have hz1 : V1.heap.size = m + 1 := by rw [← hV1, World.size_alloc, hm]
  obtain ⟨V, hV⟩ : ∃ V, V1.alloc (.cells #[.int .i32 r] 21) = V := ⟨_, rfl⟩
  have hb1 : Below m w V1 := by rw [← hV1]; exact (Below.refl _ _).alloc (by omega) _
  have hb2 : Below (m + 1) V1 V := by rw [← hV]; exact (Below.refl _ _).alloc (by omega) _
  have hbb : Below m w V := hb1.trans (hb2.mono (by omega))
  have c1 : V.cell? ⟨m, 0, none⟩ = some v := by
    refine (hb2.cell (by show m < m + 1; omega)).trans ?_
    rw [← hV1, ← hm, Lib.cell_of_heap (World.alloc_heap_new w _)]; rfl
  have c2 : V.cell? ⟨m + 1, 0, none⟩ = some (.int .i32 r) := by
    rw [← hV, ← hz1, Lib.cell_of_heap (World.alloc_heap_new V1 _)]; rfl
  have hSV : RunV V v l := hS.below (by rw [hm]; exact hbb)
  have SC := Lib.hid (psearch 125 #[.pointer (some ⟨m, 0, none⟩), .pointer (some ⟨m + 1, 0, none⟩)] l.length (abvB l r) V (enters_of Tryz.func125 (by kernel_rfl) rfl) (by omega)
      (fun k i hi => patc l v r m (m + 1) i (V.drewN k) (hSV.below (below_drewN (Below.refl _ _) _)) hi hl c1 c2) (abv_mono r hp))
  have CF := Lib.hid (count_front (abvB l r) (abv_mono r hp) l.length)
  have hjl := cnt_le (fun i => !abvB l r i) l.length
  obtain ⟨j, hj⟩ : ∃ j, cnt (fun i => !abvB l r i) l.length = j := ⟨_, rfl⟩
  rw [hj] at SC CF hjl
  have hat := runVal_at l j r hjl (fun i x hx hij => by
      have := CF.out.1 i hij
      unfold abvB at this
      rw [hx] at this
      have := of_decide_eq_false this
      omega) (fun i x hx hij => by
      have := CF.out.2 i hij (List.getElem?_eq_some_iff.1 hx).1
      unfold abvB at this
      rw [hx] at this
      exact of_decide_eq_true this)
  obtain ⟨ao, cp, rfl, h⟩ := hSV
  obtain ⟨n, hn⟩ : ∃ n, l.length = n := ⟨_, rfl⟩
  have HA := Lib.hid (And.intro hat (And.intro h hn))
  rw [hn] at hjl SC c1 hV1 ⊢
  have HV := Lib.hid (And.intro hm (And.intro hV1 (And.intro hz1 (And.intro hV hbb))))
  have hnl : n ≤ 1114113 := by omega
  clear hm hV1 hz1 hV hb1 hb2 hbb hat h hS hj CF hp hl hn
  go_enter Tryz.func77, Tryz.ntmps77
  go_wp2_with fail
  rw [HV.out.2.1, HV.out.2.2.2.1, HV.out.1]
  refine SC.out.mono ?_
  rintro e w2 ⟨rfl, k, rfl⟩
  by_cases h0 : j = 0
  · have hv : runVal l r = 0 := HA.out.1.1 h0
    have HX := Lib.hid hv
    subst h0
    clear hv HA
    go_wp2
    go_ret
    exact ⟨by rw [HX.out]; rfl, by rw [HV.out.1]; exact below_drewN HV.out.2.2.2.2 _⟩
  · obtain ⟨i, hi⟩ : ∃ i, j = i + 1 := ⟨j - 1, by omega⟩
    have hil : i < l.length := by rw [HA.out.2.2]; omega
    obtain ⟨x, hx⟩ : ∃ x, l[i]? = some x := ⟨_, List.getElem?_eq_getElem hil⟩
    obtain ⟨g, rfl, hg⟩ : ∃ g, ao = some ⟨g, 0, none⟩ ∧ V.cell? ⟨g, i * 2 + 1, none⟩ = some (.int .i64 x.2) := by
      rcases HA.out.2.1 with h | ⟨g, e, h⟩
      · rw [h] at hx; cases hx
      · exact ⟨g, e, (h i x hx).2⟩
    have hj1 : (j : Int) - 1 = (i : Int) := by omega
    have hi' : (i : Int) < (n : Int) := by omega
    have h0' : ¬ (j : Int) = 0 := by omega
    have hv : runVal l r = x.2 := HA.out.1.2 i x hi hx
    have HX := Lib.hid hv
    clear hi hil hx hv h0 HA
    go_wp2
    go_ret
    exact ⟨by rw [HX.out]; rfl, by rw [HV.out.1]; exact below_drewN HV.out.2.2.2.2 _⟩
end Go.Proofs.YtcfhblbmpbfoaaaGreatDoor
namespace Go.Proofs.YtcfhblbmpbfoaaaGreatDoor
open Go Go.RowKit Go.Kt Go.Kt.Rg Go.Maps

def lnC (l : List UInt8) : Nat := l.count 10 + if l = [] ∨ Lib.hasSuffix l [10] = true then 0 else 1

set_option maxRecDepth 100000 in
theorem plineCount (s : ByteArray) (w : World) (hs : s.size ≤ 1048576) : Calls Tryz.prog 51 #[.string s] w fun e w' => e = .returned (.int .i64 (lnC s.data.toList : Nat)) ∧ w' = w := by
  have C1 := Lib.hid (Tryz.strings_Count_one s 10 w)
  have C2 := Lib.hid (Tryz.strings_HasSuffix s ⟨#[10]⟩ w (by omega))
  have hl : s.data.toList.length = s.size := (Lib.size_eq s).symm
  have hl2 : s.toList = s.data.toList := ByteArray.toList_eq s
  obtain ⟨l, hs2⟩ : ∃ l, s.data.toList = l := ⟨_, rfl⟩
  rw [hs2] at C1 C2 hl hl2 ⊢
  have C2' : Hid (Calls Tryz.prog 91 #[.string s, .string ⟨#[10]⟩] w fun e w' => e = .returned (.bool (Lib.hasSuffix l [10])) ∧ w' = w) := C2
  obtain ⟨n, hn⟩ : ∃ n, Lib.countByte l 10 = n := ⟨_, rfl⟩
  have hnl : n ≤ l.length := by rw [← hn]; exact List.count_le_length
  have hcn : l.count 10 = n := hn
  rw [hn] at C1
  have q1 : IntKind.i64.wrap ((n : Int) + 1) = ((n + 1 : Nat) : Int) := by rw [IntWalk.i64_in _ (by omega)]; omega
  obtain ⟨t, ht⟩ : ∃ t, Lib.hasSuffix l [10] = t := ⟨_, rfl⟩
  rw [ht] at C2'
  by_cases h0 : l = []
  · have HX : Hid (lnC l = n) := Lib.hid (by unfold lnC; rw [if_pos (.inl h0), hcn]; rfl)
    have e0 : s.toList.isEmpty = true := by rw [hl2, h0]; rfl
    clear hcn hn ht hs2 hnl q1 hl hl2 h0 C2 C2'
    go_enter Tryz.func51, Tryz.ntmps51
    go_wp2_with fail
    refine C1.out.mono ?_
    rintro e w1 ⟨rfl, rfl⟩
    go_wp2
    go_ret
    exact ⟨by rw [HX.out]; rfl, rfl⟩
  · have e0 : s.toList.isEmpty = false := by rw [hl2]; simpa using h0
    cases t with
    | true =>
      have HX : Hid (lnC l = n) := Lib.hid (by unfold lnC; rw [if_pos (.inr ht), hcn]; rfl)
      clear hcn hn ht hs2 hnl q1 hl hl2 h0 C2
      go_enter Tryz.func51, Tryz.ntmps51
      go_wp2_with fail
      refine C1.out.mono ?_
      rintro e w1 ⟨rfl, rfl⟩
      go_wp2_with fail
      refine C2'.out.mono ?_
      rintro e w1 ⟨rfl, rfl⟩
      go_wp2
      go_ret
      exact ⟨by rw [HX.out]; rfl, rfl⟩
    | false =>
      have HX : Hid (lnC l = n + 1) := Lib.hid (by unfold lnC; rw [if_neg (fun h => by rcases h with h | h; exact h0 h; rw [ht] at h; cases h), hcn])
      clear hcn hn ht hs2 hnl hl hl2 h0 C2
      go_enter Tryz.func51, Tryz.ntmps51
      go_wp2_with fail
      refine C1.out.mono ?_
      rintro e w1 ⟨rfl, rfl⟩
      go_wp2_with fail
      refine C2'.out.mono ?_
      rintro e w1 ⟨rfl, rfl⟩
      go_wp2
      go_ret
      exact ⟨by rw [HX.out]; rfl, rfl⟩

theorem pfaultR {B0 : Nat} {ρ : Nat → Nat} {R : RdB} {line n m : Nat} {S : RdS} {cv kv : Value} (w : World) (hR : RdW B0 ρ R line n m S cv kv w) (no : Nat) :
    Calls Tryz.prog 56 #[.pointer (some ⟨R.g, 0, none⟩), .int .i64 (no : Nat)] w fun e w' => e = .returned (.iface 136 (.agg #[.int .i64 (no : Nat), .int .i64 (line : Nat), .int .i64 0])) ∧ w' = w := by
  have c1 : w.cell? ⟨R.g, 1, none⟩ = some (.int .i64 (line : Nat)) := by rw [Lib.cell_of_heap hR.cell]; rfl
  clear hR
  go_enter Tryz.func56, Tryz.ntmps56
  go_wp2
  go_ret
  exact ⟨rfl, rfl⟩
end Go.Proofs.YtcfhblbmpbfoaaaGreatDoor
namespace Go.Proofs.YtcfhblbmpbfoaaaGreatDoor
open Go Go.RowKit Go.Kt Go.Kt.Rg Go.Maps

def endN (k : Int) : Nat := if k = -1 then 14 else if 8 < k then 5 else 0
def EndOut (B0 : Nat) (ρ : Nat → Nat) (R : RdB) (line n m : Nat) (L : List Nat) (S : RdS) (cv kv : Value) (r : Int × LeT) (w : World) (e : Ending) (w' : World) : Prop :=
  e = .returned (.int .i64 (endN r.1 : Nat)) ∧ (∃ m', RdW B0 ρ R line n m' { S with le := r.2 } cv kv w' ∧ m' + 2 * unk L r.2 ≤ m + 2 * unk L S.le) ∧ Keep (fun b => b = R.bn) w w'

set_option maxRecDepth 100000 in
theorem pended {B0 : Nat} {R : RdB} {line n : Nat} (L : List Nat) (f : Nat) (w : World) (ρ : Nat → Nat) (m : Nat) (S : RdS) (cv kv : Value) (x : Nat) (hR : RdW B0 ρ R line n m S cv kv w) (hL : ∀ y, (S.ds y).isSome = true → y ∈ L) (hds : ∀ y l, S.ds y = some l → l.length ≤ 9 ∧ ∀ z ∈ l, z ≤ 1114111)
    (hle : LeOk S.le) (hu : unk L S.le < f) (hx : x ≤ 1114111) (hm : m + 2 * unk L S.le ≤ 1099511627776) :
    Calls Tryz.prog 58 #[.pointer (some ⟨R.g, 0, none⟩), .int .i32 (x : Nat)] w fun e w' => EndOut B0 ρ R line n m L S cv kv (lenF S.ds f S.le x) w e w' := by
  have CL := Lib.hid (plen L f w ρ m S cv kv x hR hL hds hle hu hx hm)
  have hok := (lenF_ok S.ds f S.le x hle).1
  obtain ⟨r, hr⟩ : ∃ r, lenF S.ds f S.le x = r := ⟨_, rfl⟩
  rw [hr] at CL hok ⊢
  clear hR hL hds hle hu hx hm hr
  obtain ⟨r1, r2⟩ := r
  simp only at hok
  go_enter Tryz.func58, Tryz.ntmps58
  go_wp2_with fail
  refine CL.out.mono ?_
  rintro e w1 hO
  obtain ⟨rfl, hO2, hO3⟩ := hO
  have HO := Lib.hid (And.intro hO2 hO3)
  clear hO2 hO3 CL
  by_cases h1 : r1 = -1
  · subst h1
    have HX : Hid (endN (-1) = 14) := Lib.hid rfl
    go_wp2
    go_ret
    unfold EndOut
    simp only
    rw [HX.out]
    exact ⟨rfl, HO.out⟩
  · have b1 : (r1 == -1) = false := beq_eq_false_iff_ne.2 h1
    by_cases h8 : 8 < r1
    · have HX : Hid (endN r1 = 5) := Lib.hid (by unfold endN; rw [if_neg h1, if_pos h8])
      go_wp2
      go_ret
      unfold EndOut
      simp only
      rw [HX.out]
      exact ⟨rfl, HO.out⟩
    · have HX : Hid (endN r1 = 0) := Lib.hid (by unfold endN; rw [if_neg h1, if_neg h8])
      have h9 : r1 ≤ 8 := by omega
      clear h8
      go_wp2
      go_ret
      unfold EndOut
      simp only
      rw [HX.out]
      exact ⟨rfl, HO.out⟩
end Go.Proofs.YtcfhblbmpbfoaaaGreatDoor
namespace Go.Proofs.YtcfhblbmpbfoaaaGreatDoor
open Go Go.RowKit Go.Kt Go.Kt.Rg Go.Maps

theorem ix_some {l : List UInt8} {i : Nat} (h : Lib.indexByte l 10 = (i : Int)) : l.count 10 = 1 + (l.drop (i + 1)).count 10 ∧ (Lib.hasSuffix l [10] = true ↔ l.drop (i + 1) = [] ∨ Lib.hasSuffix (l.drop (i + 1)) [10] = true) ∧ i < l.length ∧ l.take (i + 1) = l.take i ++ [10] ∧ (l.take i).count 10 = 0 := by
  induction l generalizing i with
  | nil => simp [Lib.indexByte] at h
  | cons b t ih =>
    unfold Lib.indexByte at h
    by_cases hb : b = 10
    · subst hb
      simp at h
      obtain rfl : i = 0 := by omega
      refine ⟨by simp; omega, ?_, by simp, rfl, rfl⟩
      simp only [Lib.hasSuffix, Nat.zero_add, List.drop_succ_cons, List.drop_zero, List.isSuffixOf_iff_suffix]
      cases t with
      | nil => simp
      | cons c u =>
        rw [List.suffix_cons_iff]
        constructor
        · rintro (h | h)
          · cases h
          · exact .inr h
        · rintro (h | h)
          · cases h
          · exact .inr h
    · have hbf : (b == 10) = false := by simpa using hb
      rw [hbf] at h
      simp only [Bool.false_eq_true, if_false] at h
      by_cases hn : Lib.indexByte t 10 = -1
      · rw [if_pos (by simpa using hn)] at h
        omega
      · rw [if_neg (by simpa using hn)] at h
        have hnn : ∀ l : List UInt8, -1 ≤ Lib.indexByte l 10 := by
          intro l
          induction l with
          | nil => simp [Lib.indexByte]
          | cons c u ih2 => unfold Lib.indexByte; split; omega; split <;> omega
        have h0 := hnn t
        obtain ⟨j, hj⟩ : ∃ j : Nat, Lib.indexByte t 10 = (j : Int) := ⟨(Lib.indexByte t 10).toNat, by omega⟩
        obtain ⟨h1, h2, h3, h4, h5⟩ := ih hj
        obtain rfl : i = j + 1 := by omega
        refine ⟨?_, ?_, by simp; omega, ?_, ?_⟩
        · rw [List.count_cons_of_ne hb, List.drop_succ_cons]
          exact h1
        · rw [List.drop_succ_cons, ← h2]
          simp only [Lib.hasSuffix, List.isSuffixOf_iff_suffix]
          rw [List.suffix_cons_iff]
          constructor
          · rintro (h | h)
            · injection h with h _; exact absurd h.symm hb
            · exact h
          · exact .inr
        · rw [List.take_succ_cons, h4]; rfl
        · rw [List.take_succ_cons, List.count_cons_of_ne hb]; exact h5
theorem ix_none {l : List UInt8} (h : Lib.indexByte l 10 = -1) : l.count 10 = 0 := by
  induction l with
  | nil => rfl
  | cons b t ih =>
    unfold Lib.indexByte at h
    by_cases hb : b = 10
    · subst hb; simp at h
    · have hbf : (b == 10) = false := by simpa using hb
      rw [hbf] at h
      simp only [Bool.false_eq_true, if_false] at h
      rw [List.count_cons_of_ne hb]
      by_cases hn : Lib.indexByte t 10 = -1
      · exact ih hn
      · rw [if_neg (by simpa using hn)] at h
        have hnn : ∀ l : List UInt8, -1 ≤ Lib.indexByte l 10 := by
          intro l
          induction l with
          | nil => simp [Lib.indexByte]
          | cons c u ih2 => unfold Lib.indexByte; split; omega; split <;> omega
        have := hnn t
        omega
theorem ix_ge (l : List UInt8) : -1 ≤ Lib.indexByte l 10 := by
  induction l with
  | nil => simp [Lib.indexByte]
  | cons c u ih2 => unfold Lib.indexByte; split; omega; split <;> omega
theorem linesP_len (l : List UInt8) : (linesP l).length = lnC l := by
  obtain ⟨n, hn⟩ : ∃ n, l.length ≤ n := ⟨_, Nat.le_refl _⟩
  induction n generalizing l with
  | zero =>
    have : l = [] := List.length_eq_zero_iff.1 (by omega)
    subst this
    simp [linesP_nil, lnC]
  | succ n ih =>
    by_cases h0 : l = []
    · subst h0
      simp [linesP_nil, lnC]
    · by_cases hi : Lib.indexByte l 10 = -1
      · rw [linesP_none h0 hi]
        have hc := ix_none hi
        unfold lnC
        rw [hc, if_neg]
        · rfl
        · rintro (h | h)
          · exact h0 h
          · have h2 : (10 : UInt8) ∈ l := by
              simp only [Lib.hasSuffix, List.isSuffixOf_iff_suffix] at h
              exact h.subset (by simp)
            have := List.count_pos_iff.2 h2
            omega
      · obtain ⟨i, hi2⟩ : ∃ i : Nat, Lib.indexByte l 10 = (i : Int) := ⟨(Lib.indexByte l 10).toNat, by have := ix_ge l; omega⟩
        obtain ⟨h1, h2, h3, _⟩ := ix_some hi2
        rw [linesP_some h0 hi2, List.length_cons, ih _ (by rw [List.length_drop]; omega)]
        unfold lnC
        rw [h1]
        by_cases hs : Lib.hasSuffix l [10] = true
        · rw [if_pos (h2.1 hs), if_pos (Or.inr hs)]; omega
        · rw [if_neg (fun h => hs (h2.2 h)), if_neg (fun h => by rcases h with h | h; exact h0 h; exact hs h)]; omega
theorem linesP_le (l x : List UInt8) (h : x ∈ linesP l) : x.length ≤ l.length := by
  obtain ⟨n, hn⟩ : ∃ n, l.length ≤ n := ⟨_, Nat.le_refl _⟩
  induction n generalizing l with
  | zero =>
    have : l = [] := List.length_eq_zero_iff.1 (by omega)
    subst this
    cases h
  | succ n ih =>
    by_cases h0 : l = []
    · subst h0; cases h
    · by_cases hi : Lib.indexByte l 10 = -1
      · rw [linesP_none h0 hi] at h
        simp at h
        subst h
        exact Nat.le_refl _
      · obtain ⟨i, hi2⟩ : ∃ i : Nat, Lib.indexByte l 10 = (i : Int) := ⟨(Lib.indexByte l 10).toNat, by have := ix_ge l; omega⟩
        obtain ⟨_, _, h3, _⟩ := ix_some hi2
        rw [linesP_some h0 hi2] at h
        rcases List.mem_cons.1 h with h | h
        · subst h
          rw [List.length_take]; omega
        · have := ih _ h (by rw [List.length_drop]; omega)
          rw [List.length_drop] at this
          omega

structure RdOk (k : Nat) (S : RdS) : Prop where
  cs : S.cs.length ≤ k ∧ ∀ r ∈ S.cs, r.1 ≤ r.2.1 ∧ r.2.1 ≤ 1114111
  ks : S.ks.length ≤ k ∧ ∀ r ∈ S.ks, r.1 ≤ r.2.1 ∧ r.2.1 ≤ 1114111
  ds : ∀ x l, S.ds x = some l → (Lib.validRune (x : Int) = true ∧ hanP (x : Int) = false) ∧ (1 ≤ l.length ∧ l.length ≤ 8) ∧ ∀ z ∈ l, Lib.validRune (z : Int) = true
  fs : ∀ x l, S.fs x = some l → Lib.validRune (x : Int) = true ∧ (1 ≤ l.length ∧ l.length ≤ 8) ∧ ∀ z ∈ l, Lib.validRune (z : Int) = true
  ls : ∀ x, (S.ds x).isSome = true → ∃ m, S.ls x = some (m + 1)
theorem RdOk.mono {k k' : Nat} {S : RdS} (h : RdOk k S) (hk : k ≤ k') : RdOk k' S := ⟨⟨Nat.le_trans h.cs.1 hk, h.cs.2⟩, ⟨Nat.le_trans h.ks.1 hk, h.ks.2⟩, h.ds, h.fs, h.ls⟩
theorem rd0_ok : RdOk 0 rd0 := ⟨⟨Nat.le_refl _, fun _ h => (by cases h)⟩, ⟨Nat.le_refl _, fun _ h => (by cases h)⟩, fun _ _ h => (by cases h), fun _ _ h => (by cases h), fun _ h => (by cases h)⟩
theorem spnP_ok {l : List UInt8} (h : (spnP l).1 = 0) : (spnP l).2.1 ≤ (spnP l).2.2 ∧ (spnP l).2.2 ≤ 1114111 := by
  unfold spnP at h ⊢
  generalize numP (Lib.cut l [46, 46]).1 = o1 at h ⊢
  generalize numP (if (Lib.cut l [46, 46]).2.2 = true then (Lib.cut l [46, 46]).2.1 else (Lib.cut l [46, 46]).1) = o2 at h ⊢
  cases o1 with
  | none => simp [spnO] at h
  | some lo =>
    cases o2 with
    | none => simp [spnO] at h
    | some hi =>
      rw [spnO_some] at h ⊢
      by_cases h1 : Lib.validRune (lo : Int) = false ∨ Lib.validRune (hi : Int) = false
      · rw [if_pos h1] at h; cases h
      · rw [if_neg h1] at h ⊢
        by_cases h2 : hi < lo
        · rw [if_pos h2] at h; cases h
        · rw [if_neg h2]
          refine ⟨by simp only; omega, ?_⟩
          have h3 : Lib.validRune (hi : Int) = true := by
            cases h4 : Lib.validRune (hi : Int) with
            | true => rfl
            | false => exact absurd (.inr h4) h1
          exact valid_le h3
theorem rowP_ok {V : List UInt8 → Nat × Int} {ws : List (List UInt8)} (h : (rowP V ws).1 = 0) : (rowP V ws).2.1 ≤ (rowP V ws).2.2.1 ∧ (rowP V ws).2.2.1 ≤ 1114111 := by
  unfold rowP at h ⊢
  by_cases h1 : 2 < ws.length
  · rw [if_pos h1] at h; cases h
  · rw [if_neg h1] at h ⊢
    by_cases h2 : (spnP (ws.getD 0 [])).1 ≠ 0
    · rw [if_pos h2] at h; exact absurd h h2
    · rw [if_neg h2] at h ⊢
      by_cases h3 : (V (ws.getD 1 [])).1 ≠ 0
      · rw [if_pos h3] at h; exact absurd h h3
      · rw [if_neg h3]
        exact spnP_ok (by simpa using h2)
theorem foldP_ok {k : Nat} {S : RdS} {t : List (List UInt8)} (hS : RdOk k S) (h2 : 2 ≤ t.length) (h : (foldP S t).1 = 0) : RdOk (k + 1) (foldP S t).2 := by
  obtain ⟨o, ho⟩ : ∃ o, ptsP t = o := ⟨_, rfl⟩
  obtain ⟨no, l⟩ := o
  by_cases hno : no = 0
  rotate_left
  · rw [foldP_no ho hno] at h
    exact absurd h hno
  · subst hno
    unfold foldP at h ⊢
    rw [ho] at h ⊢
    obtain ⟨q1, q2, q3⟩ := ptsP_ok ho
    cases l with
    | nil => simp at q1; omega
    | cons x u =>
      simp only at h ⊢
      by_cases h3 : (S.fs x).isSome = true
      · rw [if_pos h3] at h; cases h
      · rw [if_neg h3]
        refine ⟨⟨by have := hS.cs.1; simp only; omega, hS.cs.2⟩, ⟨by have := hS.ks.1; simp only; omega, hS.ks.2⟩, hS.ds, fun y m hy => ?_, hS.ls⟩
        simp only [updN] at hy
        by_cases e : y = x
        · rw [if_pos e] at hy
          cases hy
          subst e
          simp only [List.length_cons] at q1
          exact ⟨q3 y List.mem_cons_self, ⟨by omega, by omega⟩, fun z hz => q3 z (List.mem_cons_of_mem _ hz)⟩
        · rw [if_neg e] at hy
          exact hS.fs y m hy
theorem dcmP_ok {k line : Nat} {S : RdS} {t : List (List UInt8)} (hS : RdOk k S) (h2 : 2 ≤ t.length) (h : (dcmP (line + 1) S t).1 = 0) : RdOk (k + 1) (dcmP (line + 1) S t).2 := by
  obtain ⟨o, ho⟩ : ∃ o, ptsP t = o := ⟨_, rfl⟩
  obtain ⟨no, l⟩ := o
  by_cases hno : no = 0
  rotate_left
  · rw [dcmP_no ho hno] at h
    exact absurd h hno
  · subst hno
    unfold dcmP at h ⊢
    rw [ho] at h ⊢
    obtain ⟨q1, q2, q3⟩ := ptsP_ok ho
    cases l with
    | nil => simp at q1; omega
    | cons x u =>
      simp only at h ⊢
      by_cases h3 : (S.ds x).isSome = true
      · rw [if_pos h3] at h; cases h
      · rw [if_neg h3] at h ⊢
        by_cases h4 : hanP (x : Int) = true
        · rw [if_pos h4] at h; cases h
        · rw [if_neg h4]
          refine ⟨⟨by have := hS.cs.1; simp only; omega, hS.cs.2⟩, ⟨by have := hS.ks.1; simp only; omega, hS.ks.2⟩, fun y m hy => ?_, hS.fs, fun y hy => ?_⟩
          · simp only [updN] at hy
            by_cases e : y = x
            · rw [if_pos e] at hy
              cases hy
              subst e
              simp only [List.length_cons] at q1
              exact ⟨⟨q3 y List.mem_cons_self, by simpa using h4⟩, ⟨by omega, by omega⟩, fun z hz => q3 z (List.mem_cons_of_mem _ hz)⟩
            · rw [if_neg e] at hy
              exact hS.ds y m hy
          · simp only [updN] at hy ⊢
            by_cases e : y = x
            · rw [if_pos e]; exact ⟨line, rfl⟩
            · rw [if_neg e] at hy ⊢
              exact hS.ls y hy
theorem takeP_ok {k line : Nat} {S : RdS} {ws : List (List UInt8)} (hS : RdOk k S) (h : (takeP (line + 1) S ws).1 = 0) : RdOk (k + 1) (takeP (line + 1) S ws).2 := by
  cases ws with
  | nil => exact hS.mono (by omega)
  | cons x t =>
    rw [takeP] at h ⊢
    by_cases h1 : x ≠ [99, 108, 97, 115, 115] ∧ x ≠ [107, 105, 110, 100] ∧ x ≠ [102, 111, 108, 100] ∧ x ≠ [100, 101, 99, 111, 109, 112]
    · rw [if_pos h1] at h; cases h
    rw [if_neg h1] at h ⊢
    by_cases h2 : t.length < 2
    · rw [if_pos h2] at h; cases h
    rw [if_neg h2] at h ⊢
    by_cases h3 : x = [99, 108, 97, 115, 115]
    · rw [if_pos h3] at h ⊢
      have hr := rowP_ok h
      refine ⟨⟨by have := hS.cs.1; simp; omega, fun r hr2 => ?_⟩, ⟨by have := hS.ks.1; simp only; omega, hS.ks.2⟩, hS.ds, hS.fs, hS.ls⟩
      simp only [List.mem_append, List.mem_singleton] at hr2
      rcases hr2 with hr2 | hr2
      · exact hS.cs.2 r hr2
      · subst hr2; exact hr
    rw [if_neg h3] at h ⊢
    by_cases h4 : x = [107, 105, 110, 100]
    · rw [if_pos h4] at h ⊢
      have hr := rowP_ok h
      refine ⟨⟨by have := hS.cs.1; simp only; omega, hS.cs.2⟩, ⟨by have := hS.ks.1; simp; omega, fun r hr2 => ?_⟩, hS.ds, hS.fs, hS.ls⟩
      simp only [List.mem_append, List.mem_singleton] at hr2
      rcases hr2 with hr2 | hr2
      · exact hS.ks.2 r hr2
      · subst hr2; exact hr
    rw [if_neg h4] at h ⊢
    by_cases h5 : x = [102, 111, 108, 100]
    · rw [if_pos h5] at h ⊢
      exact foldP_ok hS (by omega) h
    · rw [if_neg h5] at h ⊢
      exact dcmP_ok hS (by omega) h

def readP (line : Nat) (S : RdS) : List (List UInt8) → Nat × Nat × RdS
  | [] => (0, line, S)
  | l :: t => if (takeP (line + 1) S (wrdP l)).1 ≠ 0 then ((takeP (line + 1) S (wrdP l)).1, line + 1, S) else readP (line + 1) (takeP (line + 1) S (wrdP l)).2 t
theorem readP_append (a b : List (List UInt8)) : ∀ (line : Nat) (S : RdS), readP line S (a ++ b) = if (readP line S a).1 ≠ 0 then readP line S a else readP (readP line S a).2.1 (readP line S a).2.2 b := by
  induction a with
  | nil => intro line S; simp [readP]
  | cons x t ih =>
    intro line S
    rw [List.cons_append, readP, readP]
    by_cases h : (takeP (line + 1) S (wrdP x)).1 ≠ 0
    · rw [if_pos h, if_pos h, if_pos h]
    · rw [if_neg h, if_neg h]; exact ih _ _
theorem readP_ok (a : List (List UInt8)) : ∀ (line k : Nat) (S : RdS), RdOk k S → (readP line S a).1 = 0 → RdOk (k + a.length) (readP line S a).2.2 := by
  induction a with
  | nil => intro line k S hS _; exact hS
  | cons x t ih =>
    intro line k S hS h
    rw [readP] at h ⊢
    by_cases h1 : (takeP (line + 1) S (wrdP x)).1 ≠ 0
    · rw [if_pos h1] at h; exact absurd h h1
    · rw [if_neg h1] at h ⊢
      have := ih (line + 1) (k + 1) _ (takeP_ok hS (by simpa using h1)) h
      rw [List.length_cons, show k + (t.length + 1) = k + 1 + t.length by omega]
      exact this
theorem takeP_le (line : Nat) (S : RdS) (ws : List (List UInt8)) : (takeP line S ws).2.le = S.le := by
  cases ws with
  | nil => rfl
  | cons x t =>
    rw [takeP]
    split
    · rfl
    split
    · rfl
    split
    · rfl
    split
    · rfl
    split
    · unfold foldP
      split
      · split <;> rfl
      · rfl
    · unfold dcmP
      split
      · split
        · rfl
        · split <;> rfl
      · rfl
theorem readP_le (a : List (List UInt8)) : ∀ (line : Nat) (S : RdS), (readP line S a).2.2.le = S.le := by
  induction a with
  | nil => intro line S; rfl
  | cons x t ih =>
    intro line S
    rw [readP]
    split
    · rfl
    · rw [ih, takeP_le]
def ringP (S : RdS) (f : Nat) : List Nat → LeT → Nat × Nat
  | [], _ => (0, 0)
  | x :: t, le => if endN (lenF S.ds f le x).1 ≠ 0 then (endN (lenF S.ds f le x).1, (S.ls x).getD 0) else ringP S f t (lenF S.ds f le x).2
def ringL (S : RdS) (f : Nat) : List Nat → LeT → LeT
  | [], le => le
  | x :: t, le => ringL S f t (lenF S.ds f le x).2
theorem ringP_append (S : RdS) (f : Nat) (a b : List Nat) : ∀ le, ringP S f (a ++ b) le = if (ringP S f a le).1 ≠ 0 then ringP S f a le else ringP S f b (ringL S f a le) := by
  induction a with
  | nil => intro le; simp [ringP, ringL]
  | cons x t ih =>
    intro le
    rw [List.cons_append, ringP, ringP, ringL]
    by_cases h : endN (lenF S.ds f le x).1 ≠ 0
    · rw [if_pos h, if_pos h, if_pos h]
    · rw [if_neg h, if_neg h]; exact ih _
end Go.Proofs.YtcfhblbmpbfoaaaGreatDoor
