/- props: Decomp, Fold; slices.Clone of points. -/
import Derived.Test.YtcfhblbmpbfoaaaGreatDoorUpx
import Derived.Test.YtcfhblbmpbfoaaaGreatDoorGv15
namespace Go.Proofs.YtcfhblbmpbfoaaaGreatDoor
open Go Go.RowKit Go.Kt Go.Kt.Rg Go.Maps

def toZ (l : List Nat) : List Int := l.map fun x : Nat => (x : Int)
theorem toZ_len (l : List Nat) : (toZ l).length = l.length := by simp [toZ]
def encZ (l : List Int) : List Value := l.map fun x => .int .i32 x
theorem encN_z (l : List Nat) : encN l = encZ (toZ l) := by simp [encN, encZ, toZ]
def NewZ (H : Nat) (l : List Int) (e : Ending) (w' : World) : Prop :=
  ∃ ao cp, e = .returned (.slice ao l.length cp) ∧ OwnS (fun b => H ≤ b) 21 1 (.slice ao l.length cp) l.length (encZ l) w'

theorem nil_eq (W : World) : (binOp BinOp.eql 22 (.slice none 0 0) (.slice none 0 0)).run Tryz.prog W = .ok (.bool true) W := by kernel_rfl
theorem nil_ne (a : Addr) (n c : Nat) (W : World) : (binOp BinOp.eql 22 (.slice (some a) n c) (.slice none 0 0)).run Tryz.prog W = .ok (.bool false) W := by
  kernel_rfl
set_option maxRecDepth 100000 in
theorem pclone (l : List Nat) (b off cap : Nat) (w : World) (h0 : l ≠ []) (hl : l.length ≤ 1048576) (hc : ∀ (i : Nat) (x : Nat), l[i]? = some x → w.cell? ⟨b, off + i, none⟩ = some (.int .i32 (x : Nat))) :
    Calls Tryz.prog 112 #[.slice (some ⟨b, off, none⟩) l.length cap] w fun e w' => NewZ w.heap.size (toZ l) e w' ∧ Below w.heap.size w w' := by
  obtain ⟨ti, hti, hzz, hs1, hbt⟩ := info_parts tinfoI32
  obtain ⟨m, hm⟩ : ∃ m, l.length = m := ⟨_, rfl⟩
  have hm1 : 0 < m := by rw [← hm]; exact List.length_pos_iff.2 h0
  have hzs : (w.alloc (.cells #[] 21)).heap.size = w.heap.size + 1 := by simp
  have hcell : ∀ j u, (encN l)[j]? = some u → (w.alloc (.cells #[] 21)).cell? ((⟨b, off, none⟩ : Addr).add j) = some u := fun j u hj => by
    have hjl : j < l.length := by
      have := (List.getElem?_eq_some_iff.1 hj).1
      simpa [encN] using this
    have c := hc j _ (List.getElem?_eq_getElem hjl)
    have c2 := (((Below.refl w.heap.size w).alloc (Nat.le_refl _) (.cells #[] 21)).cell (lt_of_cell c)).trans c
    rw [Addr.add_lit, c2, ← hj]
    simp [encN, List.getElem?_eq_getElem hjl]
  obtain ⟨v', w', hrun, r1, r2, r3⟩ := run_append_own (P := Tryz.prog) (w.alloc (.cells #[] 21)) w.heap.size 22 0 21 ti _ 1 4 Tryz.underlying22 hti hzz hs1 hbt rfl (by decide) (.slice (some ⟨w.heap.size, 0, none⟩) 0 0) 0 []
    ⟨rfl, .inr ⟨w.heap.size, 0, #[], rfl, Nat.le_refl _, by exact heap_alloc_new w _, Nat.le_refl _, by unfold maxLen; omega, rfl, rfl⟩⟩ ⟨b, off, none⟩ m cap (encN l) (by simp [encN, hm]) hcell (by intro u hu; simp [encN] at hu; obtain ⟨a, _, rfl⟩ := hu; rfl) (by unfold maxLen; omega) (by omega) (by simp)
  have hrun' : ∀ ty, (Builtin.append_ #[22, 22] ty #[.slice (some ⟨w.heap.size, 0, none⟩) 0 0, .slice (some ⟨b, off, none⟩) m cap]).run Tryz.prog (w.alloc (.cells #[] 21)) = .ok v' w' := fun ty => hrun
  have hbb : Below w.heap.size w w' := ((Below.refl w.heap.size w).alloc (Nat.le_refl _) (.cells #[] 21)).trans ((keep_grown r2).below (by simp) (fun c hc => by simp [Value.ownBlock] at hc; omega))
  have hown := own_from_base r1
  rw [Nat.zero_add, List.nil_append] at hown
  obtain ⟨ao, cp, rfl⟩ : ∃ ao cp, v' = .slice ao m cp := by
    rcases hown.shape with ⟨_, h1⟩ | ⟨gb, cap', hv, _⟩
    · omega
    · exact ⟨_, _, hv⟩
  have hbn := nil_ne ⟨b, off, none⟩ m cap
  have HR := Lib.hid hrun'
  have HF := Lib.hid (And.intro hown (And.intro hbb hm))
  rw [hm]
  clear hrun hrun' r1 r2 r3 hown hbb hcell hc hl h0 hti hzz hs1 hbt hzs hm
  go_enter Tryz.func112, Tryz.ntmps112
  go_wp2_with (at_builtin; refine wpList_append_eq rfl rfl rfl rfl HR.out ?_)
  go_ret
  obtain ⟨hown, hbb, hm⟩ := HF.out
  have e1 : (toZ l).length = m := by rw [toZ_len, hm]
  refine ⟨⟨ao, cp, by rw [e1]; rfl, ?_⟩, hbb⟩
  rw [e1, ← encN_z]
  exact hown
set_option maxRecDepth 100000 in
theorem pclone_nil (w : World) : Calls Tryz.prog 112 #[.slice none 0 0] w fun e w' => NewZ w.heap.size [] e w' ∧ Below w.heap.size w w' := by
  have hbn := nil_eq
  go_enter Tryz.func112, Tryz.ntmps112
  go_wp2
  go_ret
  exact ⟨⟨none, 0, rfl, own_nil _ _ _ _⟩, Below.refl _ _⟩
def dcpV (S : RdS) (r : Int) : List Nat := if sylP r then partsP (r - 44032).toNat else (atZ S.ds r).getD []
def fldV (S : RdS) (r : Int) : List Int := match atZ S.fs r with
  | some l => toZ l
  | none => [r]
set_option maxRecDepth 100000 in
theorem DecM.look1 {ρ : Nat → Nat} {k B n : Nat} {d : Nat → Option (List Nat)} {w : World} (h : DecM ρ k B n d w) {r : Int} (hr : I32 r) :
    ∃ v, (Instr.lookup 89 (.map (some B)) (.int .i32 r) false).run Tryz.prog w = .ok v w ∧ (Instr.lookup 89 (.map (some B)) (.int .i32 r) true).run Tryz.prog w = .ok (.tuple #[v, .bool (atZ d r).isSome]) w ∧
      ((atZ d r = none ∧ v = .slice none 0 0) ∨ ∃ l, atZ d r = some l ∧ PtV ρ v l w) := by
  obtain ⟨_, vs, h1, h2, h3⟩ := h
  have hkey : keyOf Tryz.prog 21 (.int .i32 r) = some (.int .i32 r) := keyOf_int_mk Tryz.underlying21 hr.wf
  have hl1 := h1.look1 (int_keyed Tryz.underlying21) Tryz.underlying89 (z := .slice none 0 0) rfl hkey
  have hl2 := h1.look (int_keyed Tryz.underlying21) Tryz.underlying89 (z := .slice none 0 0) rfl hkey
  rw [ptF_atZ] at hl1 hl2
  have hs : (atZ vs r).isSome = (atZ d r).isSome := by
    unfold atZ
    split
    · exact h2 _
    · rfl
  rw [hs] at hl2
  refine ⟨_, hl1, hl2, ?_⟩
  cases hv : atZ vs r with
  | none =>
    rw [hv] at hs
    refine .inl ⟨?_, rfl⟩
    cases hd : atZ d r with
    | none => rfl
    | some l => rw [hd] at hs; cases hs
  | some v =>
    rw [hv] at hs
    cases hd : atZ d r with
    | none => rw [hd] at hs; cases hs
    | some l =>
      refine .inr ⟨l, rfl, ?_⟩
      unfold atZ at hv hd
      by_cases h0 : 0 ≤ r
      · rw [if_pos h0] at hv hd
        exact h3 _ _ _ hv hd
      · rw [if_neg h0] at hv; cases hv

set_option maxRecDepth 100000 in
theorem pdcpP {g : Nat} {S : RdS} {md : MdT} (w : World) (h : PrW g S md w) (hd : ∀ x l, S.ds x = some l → 1 ≤ l.length ∧ l.length ≤ 8) (r : Int) (hr : I32 r) :
    Calls Tryz.prog 60 #[.pointer (some ⟨g, 0, none⟩), .int .i32 r] w fun e w' => NewZ w.heap.size (toZ (dcpV S r)) e w' ∧ Below w.heap.size w w' := by
  obtain ⟨B, h⟩ := h
  have C := Lib.hid (psyl r w)
  have c0 : w.cell? ⟨g, 2, none⟩ = some (.map (some B.bd)) := by rw [Lib.cell_of_heap h.cell]; rfl
  have HX : Hid (dcpV S r = if sylP r then partsP (r - 44032).toNat else (atZ S.ds r).getD []) := Lib.hid rfl
  cases hs : sylP r with
  | true =>
    rw [hs] at C HX
    have hr2 : 44032 ≤ r ∧ r < 55204 := by simpa [sylP] using hs
    obtain ⟨n, hn⟩ : ∃ n : Nat, r = 44032 + (n : Int) := ⟨(r - 44032).toNat, by omega⟩
    have CP := Lib.hid (pparts n (by omega) w)
    have e2 : (r - 44032).toNat = n := by omega
    rw [e2] at HX
    rw [← hn] at CP
    clear hs hr2 hn e2 h
    go_enter Tryz.func60, Tryz.ntmps60
    go_wp2_with fail
    refine C.out.mono ?_
    rintro e w' ⟨rfl, rfl⟩
    go_wp2_with fail
    refine CP.out.mono ?_
    rintro e w' ⟨ao, cp, rfl, hO, hb⟩
    have HF := Lib.hid (And.intro hO hb)
    clear hO hb
    go_wp2
    go_ret
    obtain ⟨hO, hb⟩ := HF.out
    have hXX := HX.out
    simp only [if_true] at hXX
    rw [hXX]
    have e1 : (toZ (partsP n)).length = (partsP n).length := toZ_len _
    refine ⟨⟨ao, cp, by rw [e1]; rfl, ?_⟩, hb⟩
    rw [e1, ← encN_z]
    exact hO
  | false =>
    rw [hs] at C HX
    obtain ⟨v, hl, _, hv⟩ := h.d.look1 hr
    have CC : Hid (Calls Tryz.prog 112 #[v] w fun e w' => NewZ w.heap.size (toZ (dcpV S r)) e w' ∧ Below w.heap.size w w') := Lib.hid (by
      have hXX := HX.out
      simp only [Bool.false_eq_true, if_false] at hXX
      rw [hXX]
      rcases hv with ⟨h1, rfl⟩ | ⟨l, h1, b, off, cap, rfl, _, _, _, _, hc⟩
      · rw [h1]
        exact pclone_nil w
      · rw [h1]
        have hll : 1 ≤ l.length ∧ l.length ≤ 8 := by
          unfold atZ at h1
          by_cases h0 : 0 ≤ r
          · rw [if_pos h0] at h1; exact hd _ _ h1
          · rw [if_neg h0] at h1; cases h1
        exact pclone l b off cap w (fun e => by rw [e] at hll; simp at hll) (by omega) hc)
    clear hs hv h HX
    go_enter Tryz.func60, Tryz.ntmps60
    go_wp2_with fail
    refine C.out.mono ?_
    rintro e w' ⟨rfl, rfl⟩
    go_wp2_with fail
    refine CC.out.mono ?_
    rintro e w' ⟨hO, hb⟩
    obtain ⟨ao, cp, rfl, hO⟩ := hO
    have HF := Lib.hid (And.intro hO hb)
    clear hO hb
    go_wp2
    go_ret
    exact ⟨⟨ao, cp, rfl, HF.out.1⟩, HF.out.2⟩
end Go.Proofs.YtcfhblbmpbfoaaaGreatDoor
