/- normal: joined: a decomposed row, composed; Compose. WRITTEN by wip/tools/gen_dv.py. -/
import Derived.Test.YtcfhblbmpbfoaaaGreatDoorGv23
import Derived.Test.YtcfhblbmpbfoaaaGreatDoorGv20
namespace Go.Proofs.YtcfhblbmpbfoaaaGreatDoor
open Go Go.RowKit Go.Kt Go.Kt.Sg Go.Shelf Go.Lib Go.Sort Go.Kt.Rg Go.Maps
variable {md : MdT}

def stI : Option Nat → Int
  | none => -1
  | some k => (k : Int)
structure JnOk (s : Jn) : Prop where
  st : ∀ k, s.st = some k → k < s.out.length
  out : ∀ r ∈ s.out, I32 r
theorem JnOk.step {cm : Int → Int → Option Int} {s : Jn} {c : Pt} (h : JnOk s) (hc : I32 c.1) (hcm : ∀ a b r, cm a b = some r → I32 r) : JnOk (jnStep cm s c) := by
  have app : ∀ st, (∀ k, st = some k → k < s.out.length + 1) → JnOk ⟨s.out ++ [c.1], st, c.2⟩ := fun st hst => ⟨fun k hk => by simpa using hst k hk, fun r hr => by
    rcases List.mem_append.1 hr with hr | hr
    · exact h.out r hr
    · rw [List.mem_singleton.1 hr]; exact hc⟩
  unfold jnStep
  split
  · refine app _ fun k hk => ?_
    split at hk
    · injection hk with hk; omega
    · cases hk
  · rename_i k hk
    split
    · refine app _ fun k' hk' => ?_
      split at hk'
      · injection hk' with hk'; omega
      · injection hk' with hk'; have := h.st k hk; omega
    · split
      · rename_i r hr
        refine ⟨fun k' hk' => ?_, fun y hy => ?_⟩
        · injection hk' with hk'; subst hk'; simpa using h.st k hk
        · rcases List.mem_or_eq_of_mem_set hy with hy | hy
          · exact h.out y hy
          · rw [hy]; exact hcm _ _ r hr
      · refine app _ fun k' hk' => ?_
        split at hk'
        · injection hk' with hk'; omega
        · injection hk' with hk'; have := h.st k hk; omega
def jnCase (s : Jn) (k : Nat) (c : Pt) : Option Int → Jn
  | some r => ⟨s.out.set k r, some k, s.last⟩
  | none => ⟨s.out ++ [c.1], if c.2 = 0 then some s.out.length else some k, c.2⟩
theorem jnStep_open {cm : Int → Int → Option Int} {s : Jn} {c : Pt} {k : Nat} (hst : s.st = some k) (hb : ¬ (k + 1 < s.out.length ∧ s.last ≥ c.2)) : jnStep cm s c = jnCase s k c (cm (s.out[k]?.getD 0) c.1) := by
  unfold jnStep
  rw [hst]
  simp only
  rw [if_neg hb]
  generalize cm (s.out[k]?.getD 0) c.1 = co
  cases co <;> rfl
def JoiI (cm : Int → Int → Option Int) (X : List Pt) (w : World) (i : Nat) (v : Value) (s : Jn) (wr : World) : Prop :=
  s = (X.take i).foldl (jnStep cm) ⟨[], none, 0⟩ ∧ s.out.length ≤ i ∧ JnOk s ∧ OwnS (fun b => w.heap.size ≤ b) 21 1 v s.out.length (encZ s.out) wr ∧ Below w.heap.size w wr
theorem encZ_snoc (l : List Int) (r : Int) : encZ (l ++ [r]) = encZ l ++ [.int .i32 r] := by unfold encZ; simp
theorem JoiI.fold {cm : Int → Int → Option Int} {X : List Pt} {i : Nat} {c : Pt} (h : X[i]? = some c) : (X.take (i + 1)).foldl (jnStep cm) ⟨[], none, 0⟩ = jnStep cm ((X.take i).foldl (jnStep cm) ⟨[], none, 0⟩) c := by
  rw [List.take_add_one, h, List.foldl_append]; rfl
theorem own_set {Y : Nat → Prop} {b n cap k : Nat} {l : List Int} {W : World} {r : Int} (h : OwnS Y 21 1 (.slice (some ⟨b, 0, none⟩) n cap) n (encZ l) W) (_hk : k < l.length) (_hl : l.length = n) :
    OwnS Y 21 1 (.slice (some ⟨b, 0, none⟩) n cap) n (encZ (l.set k r)) (W.setCell ⟨b, k, none⟩ (.int .i32 r)) := by
  obtain ⟨⟨h1, h2⟩, hY⟩ := h
  refine ⟨⟨by unfold encZ at *; simpa using h1, ?_⟩, hY⟩
  rcases h2 with ⟨e, _⟩ | ⟨g, c, cur, e, hb, hg, hnc, hcm, hcs, ht⟩
  · cases e
  · injection e with e1 _ e3
    injection e1 with e1
    injection e1 with e1
    subst e1 e3
    refine .inr ⟨b, cap, cur.setIfInBounds k (.int .i32 r), rfl, hb, ?_, hnc, hcm, by simpa using hcs, ?_⟩
    · have hlt := (Array.getElem?_eq_some_iff.1 hg).1
      have h' : W.heap[b] = .cells cur 21 (0, 0) := by rw [Array.getElem?_eq_getElem hlt] at hg; exact Option.some.inj hg
      simp [World.setCell, hlt, Array.getElem_modify, h']
    · rw [Array.toList_setIfInBounds, List.take_set, ht]
      unfold encZ
      rw [List.map_set]


set_option maxRecDepth 100000 in
set_option maxHeartbeats 1500000 in
theorem nJoined {S : RdS} {gp : Nat} (w : World) (hP : PrW gp S md w) (hcm : ∀ a b r, cmpV md a b = some r → I32 r) (v : Value) (X : List Pt) (h : RowV w v X) (hx : ∀ x ∈ X, I32 x.1) (hz : X.length ≤ 4294967296) :
    Calls Tryz.prog 38 #[.pointer (some ⟨gp, 0, none⟩), v] w fun e w' => NewZ w.heap.size (joinP (cmpV md) X) e w' ∧ Below w.heap.size w w' := by
  have HV := Lib.hid h
  obtain ⟨p, cap, rfl, hcap, _⟩ := h
  obtain ⟨n, hn⟩ : ∃ n, X.length = n := ⟨_, rfl⟩
  rw [hn] at hz hcap HV ⊢
  obtain ⟨i0, hi0, hz0, hs0, hb0⟩ := info_parts tinfoI32
  have hb' : (i0.bytes : Int) * (n : Int) ≤ 281474976710656 := by rw [hb0]; omega
  have hmk := run_make (P := Tryz.prog) w 22 21 i0 (.int .i32 0) Tryz.underlying22 hi0 hz0 .i64 .i64 0 n (Int.le_refl _) (by omega) hb' (by omega)
  simp only [Int.toNat_natCast, Int.toNat_zero] at hmk
  rw [hs0, Nat.mul_one] at hmk
  obtain ⟨w2, hw2⟩ : ∃ w2, w.alloc (.cells (madeCells (Value.int .i32 0).cells n) 21) = w2 := ⟨_, rfl⟩
  rw [hw2] at hmk
  have hB2 : Below w.heap.size w w2 := by rw [← hw2]; exact (Below.refl _ w).alloc (Nat.le_refl _) _
  have ho2 : OwnS (fun b => w.heap.size ≤ b) 21 1 (.slice (some ⟨w.heap.size, 0, none⟩) 0 n) 0 (encZ []) w2 :=
    ⟨⟨rfl, .inr ⟨w.heap.size, n, _, rfl, Nat.zero_le _, by rw [← hw2]; exact World.alloc_heap_new w _, Nat.zero_le _, by unfold maxLen; omega, by simp [madeCells, Value.cells], rfl⟩⟩, fun b hb => by simp [Value.ownBlock] at hb; omega⟩
  have HO := Lib.hid (And.intro hP (And.intro hcm (And.intro hx (And.intro hn (And.intro hB2 ho2)))))
  clear hP hcm hx hn hB2 ho2 hw2 hi0 hz0 hs0 hb0 hb' i0 hcap
  go_enter Tryz.func38, Tryz.ntmps38
  go_wp2_with fail
  clear hmk
  go_loopg [5, 6, 7, 18] n (fun kx v5 s6 s7 s wr => ∃ (i m5 : Nat) (a5 : Option Addr) (c5 : Nat) (j : Jn), v5 = .slice a5 m5 c5 ∧ s6 = .int .i64 (stI j.st) ∧ s7 = .int .i64 j.last ∧ s = .int .i64 i ∧ i ≤ n ∧ n - i ≤ kx ∧ m5 = j.out.length ∧ Hid (JoiI (cmpV md) X w i (.slice a5 m5 c5) j wr))
  case atStart => exact ⟨0, 0, _, n, ⟨[], none, 0⟩, rfl, rfl, rfl, rfl, Nat.zero_le _, Nat.le_refl _, rfl, Lib.hid ⟨by rw [List.take_zero]; rfl, Nat.zero_le _, ⟨fun k h => (by cases h), fun r h => (by cases h)⟩, HO.out.2.2.2.2.2, HO.out.2.2.2.2.1⟩⟩
  case round =>
    obtain ⟨i, m5, a5, c5, j, rfl, rfl, rfl, rfl, hin, hkx, hm5, hI⟩ := hrel
    by_cases hlt : i < n
    · have hltz : (i : Int) < (n : Int) := by omega
      obtain ⟨⟨x1, x2⟩, hx⟩ : ∃ x, X[i]? = some x := ⟨_, List.getElem?_eq_getElem (by rw [HO.out.2.2.2.1]; exact hlt)⟩
      have hx1 : I32 x1 := HO.out.2.2.1 (x1, x2) (List.mem_of_getElem? hx)
      obtain ⟨gr, o, rfl, c0, c1⟩ := (HV.out.below hI.out.2.2.2.2).at rfl hx
      obtain ⟨b9, hb9⟩ : ∃ b9, wr.heap.size = b9 := ⟨_, rfl⟩
      obtain ⟨W3, hW3⟩ : ∃ W3, wr.alloc (.cells #[.int .i32 x1, .int .i64 x2] 78) = W3 := ⟨_, rfl⟩
      have hb3 : Below wr.heap.size wr W3 := by rw [← hW3]; exact (Below.refl _ wr).alloc (Nat.le_refl _) _
      have h9 : W3.heap[b9]? = some (.cells #[.int .i32 x1, .int .i64 x2] 78 (0, 0)) := by rw [← hW3, ← hb9]; exact World.alloc_heap_new wr _
      have d0 : W3.cell? ⟨b9, 0, none⟩ = some (.int .i32 x1) := by rw [Lib.cell_of_heap h9]; rfl
      have d1 : W3.cell? ⟨b9, 1, none⟩ = some (.int .i64 x2) := by rw [Lib.cell_of_heap h9]; rfl
      have HX := Lib.hid (And.intro hx hx1)
      have HM5 := Lib.hid hm5
      have ho3 : OwnS (fun b => w.heap.size ≤ b) 21 1 (.slice a5 m5 c5) m5 (encZ j.out) W3 := by
        have := hI.out.2.2.2.1
        rw [← hm5] at this
        exact this.keep (X := fun _ => False) (Keep.of_all hb3) (fun _ h => h.elim)
      have hz5 : m5 ≤ 4294967296 := by have := hI.out.2.1; omega
      have hbw : Below w.heap.size w W3 := hI.out.2.2.2.2.trans (hb3.mono hI.out.2.2.2.2.size)
      have H9 := Lib.hid (And.intro h9 hb3)
      obtain ⟨st, hst⟩ : ∃ st, j.st = st := ⟨_, rfl⟩
      cases st with
      | none =>
        have e6 : stI j.st = -1 := by rw [hst]; rfl
        rw [e6]
        have SN : Hid (jnStep (cmpV md) j (x1, x2) = ⟨j.out ++ [x1], if x2 = 0 then some j.out.length else none, x2⟩) := Lib.hid (by unfold jnStep; rw [hst])
        have OV := Lib.hid (And.intro ho3 hbw)
        clear ho3 hbw hb3 h9 hm5 hx hx1 hst e6

        by_cases x0 : x2 = 0
        · have y0 : (x2 == 0) = true := by simp only [beq_iff_eq]; exact x0
          have HX0 := Lib.hid x0
          clear x0
          obtain ⟨g5, cp5, w5, hrun, hown5, hk5, hg5, _⟩ := append_x (P := Tryz.prog) W3 22 21 Tryz.underlying22 tinfoI32 rfl (by decide) OV.out.1 [.int .i32 x1] rfl (by intro u hu; simp at hu; subst hu; rfl) (by unfold maxLen; omega) (by omega)
          have hrun2 : ∀ ty, (Builtin.append_ #[22, 22] ty #[.slice a5 m5 c5, .slice (some ⟨W3.heap.size, 0, none⟩) 1 1]).run Tryz.prog (W3.alloc (.cells #[.int .i32 x1] 21)) = .ok (.slice (some ⟨g5, 0, none⟩) (m5 + 1) cp5) w5 := hrun
          have HR5 := Lib.hid hrun2
          have H5 := Lib.hid (And.intro hown5 (And.intro hk5 hg5))
          clear hrun hrun2 hown5 hk5 hg5
          go_wp2_with (at_builtin; refine wpList_append_eq rfl rfl rfl rfl HR5.out ?_)
          go_roundg (n - (i + 1))
          case measure => omega
          case rel =>
            have hs := SN.out
            rw [if_pos HX0.out] at hs
            have hm := HM5.out
            refine ⟨i + 1, m5 + 1, some ⟨g5, 0, none⟩, cp5, jnStep (cmpV md) j (x1, x2), rfl, by rw [hs]; simp only [stI]; rw [← hm], by rw [hs], by simp, by omega, Nat.le_refl _, by rw [hs, hm]; simp, Lib.hid ⟨?_, ?_, hI.out.2.2.1.step HX.out.2 HO.out.2.1, ?_, ?_⟩⟩
            · rw [JoiI.fold HX.out.1, ← hI.out.1]
            · rw [hs]; have := hI.out.2.1; simp; omega
            · rw [hs]
              have h8 := H5.out.1
              rw [show (j.out ++ [x1]).length = m5 + 1 by rw [List.length_append, ← hm]; rfl, encZ_snoc]
              refine h8.weaken fun b hb => ?_
              rw [hb]
              rcases H5.out.2.2 with h9 | h9
              · exact OV.out.1.2 _ h9
              · have := OV.out.2.size; omega
            · exact OV.out.2.trans (H5.out.2.1.below OV.out.2.size fun b hb => OV.out.1.2 b hb)
        · have y0 : (x2 == 0) = false := by simp only [beq_eq_false_iff_ne, ne_eq]; exact x0
          obtain ⟨g5, cp5, w5, hrun, hown5, hk5, hg5, _⟩ := append_x (P := Tryz.prog) W3 22 21 Tryz.underlying22 tinfoI32 rfl (by decide) OV.out.1 [.int .i32 x1] rfl (by intro u hu; simp at hu; subst hu; rfl) (by unfold maxLen; omega) (by omega)
          have hrun2 : ∀ ty, (Builtin.append_ #[22, 22] ty #[.slice a5 m5 c5, .slice (some ⟨W3.heap.size, 0, none⟩) 1 1]).run Tryz.prog (W3.alloc (.cells #[.int .i32 x1] 21)) = .ok (.slice (some ⟨g5, 0, none⟩) (m5 + 1) cp5) w5 := hrun
          have HR5 := Lib.hid hrun2
          have H5 := Lib.hid (And.intro hown5 (And.intro hk5 hg5))
          clear hrun hrun2 hown5 hk5 hg5
          go_wp2_with (at_builtin; refine wpList_append_eq rfl rfl rfl rfl HR5.out ?_)
          go_roundg (n - (i + 1))
          case measure => omega
          case rel =>
            have hs := SN.out
            rw [if_neg x0] at hs
            have hm := HM5.out
            refine ⟨i + 1, m5 + 1, some ⟨g5, 0, none⟩, cp5, jnStep (cmpV md) j (x1, x2), rfl, by rw [hs]; simp only [stI], by rw [hs], by simp, by omega, Nat.le_refl _, by rw [hs, hm]; simp, Lib.hid ⟨?_, ?_, hI.out.2.2.1.step HX.out.2 HO.out.2.1, ?_, ?_⟩⟩
            · rw [JoiI.fold HX.out.1, ← hI.out.1]
            · rw [hs]; have := hI.out.2.1; simp; omega
            · rw [hs]
              have h8 := H5.out.1
              rw [show (j.out ++ [x1]).length = m5 + 1 by rw [List.length_append, ← hm]; rfl, encZ_snoc]
              refine h8.weaken fun b hb => ?_
              rw [hb]
              rcases H5.out.2.2 with h9 | h9
              · exact OV.out.1.2 _ h9
              · have := OV.out.2.size; omega
            · exact OV.out.2.trans (H5.out.2.1.below OV.out.2.size fun b hb => OV.out.1.2 b hb)

      | some k =>
        have e6 : stI j.st = (k : Int) := by rw [hst]; rfl
        rw [e6]
        have hk5 := hI.out.2.2.1.st k hst
        rw [← hm5] at hk5
        have k1 : ¬ (k : Int) < 0 := by omega
        by_cases hbl : k + 1 < m5 ∧ j.last ≥ x2
        · have k2 : (k : Int) < (m5 : Int) - 1 := by omega
          have k3 : x2 ≤ j.last := hbl.2
          have SN : Hid (jnStep (cmpV md) j (x1, x2) = ⟨j.out ++ [x1], if x2 = 0 then some j.out.length else some k, x2⟩) := Lib.hid (by unfold jnStep; rw [hst]; simp only; rw [if_pos (by rw [← hm5]; exact hbl)])
          have OV := Lib.hid (And.intro ho3 hbw)
          clear ho3 hbw hb3 h9 hm5 hx hx1 hst e6 hbl

          by_cases x0 : x2 = 0
          · have y0 : (x2 == 0) = true := by simp only [beq_iff_eq]; exact x0
            have HX0 := Lib.hid x0
            clear x0
            obtain ⟨g5, cp5, w5, hrun, hown5, hk5, hg5, _⟩ := append_x (P := Tryz.prog) W3 22 21 Tryz.underlying22 tinfoI32 rfl (by decide) OV.out.1 [.int .i32 x1] rfl (by intro u hu; simp at hu; subst hu; rfl) (by unfold maxLen; omega) (by omega)
            have hrun2 : ∀ ty, (Builtin.append_ #[22, 22] ty #[.slice a5 m5 c5, .slice (some ⟨W3.heap.size, 0, none⟩) 1 1]).run Tryz.prog (W3.alloc (.cells #[.int .i32 x1] 21)) = .ok (.slice (some ⟨g5, 0, none⟩) (m5 + 1) cp5) w5 := hrun
            have HR5 := Lib.hid hrun2
            have H5 := Lib.hid (And.intro hown5 (And.intro hk5 hg5))
            clear hrun hrun2 hown5 hk5 hg5
            go_wp2_with (at_builtin; refine wpList_append_eq rfl rfl rfl rfl HR5.out ?_)
            go_roundg (n - (i + 1))
            case measure => omega
            case rel =>
              have hs := SN.out
              rw [if_pos HX0.out] at hs
              have hm := HM5.out
              refine ⟨i + 1, m5 + 1, some ⟨g5, 0, none⟩, cp5, jnStep (cmpV md) j (x1, x2), rfl, by rw [hs]; simp only [stI]; rw [← hm], by rw [hs], by simp, by omega, Nat.le_refl _, by rw [hs, hm]; simp, Lib.hid ⟨?_, ?_, hI.out.2.2.1.step HX.out.2 HO.out.2.1, ?_, ?_⟩⟩
              · rw [JoiI.fold HX.out.1, ← hI.out.1]
              · rw [hs]; have := hI.out.2.1; simp; omega
              · rw [hs]
                have h8 := H5.out.1
                rw [show (j.out ++ [x1]).length = m5 + 1 by rw [List.length_append, ← hm]; rfl, encZ_snoc]
                refine h8.weaken fun b hb => ?_
                rw [hb]
                rcases H5.out.2.2 with h9 | h9
                · exact OV.out.1.2 _ h9
                · have := OV.out.2.size; omega
              · exact OV.out.2.trans (H5.out.2.1.below OV.out.2.size fun b hb => OV.out.1.2 b hb)
          · have y0 : (x2 == 0) = false := by simp only [beq_eq_false_iff_ne, ne_eq]; exact x0
            obtain ⟨g5, cp5, w5, hrun, hown5, hk5, hg5, _⟩ := append_x (P := Tryz.prog) W3 22 21 Tryz.underlying22 tinfoI32 rfl (by decide) OV.out.1 [.int .i32 x1] rfl (by intro u hu; simp at hu; subst hu; rfl) (by unfold maxLen; omega) (by omega)
            have hrun2 : ∀ ty, (Builtin.append_ #[22, 22] ty #[.slice a5 m5 c5, .slice (some ⟨W3.heap.size, 0, none⟩) 1 1]).run Tryz.prog (W3.alloc (.cells #[.int .i32 x1] 21)) = .ok (.slice (some ⟨g5, 0, none⟩) (m5 + 1) cp5) w5 := hrun
            have HR5 := Lib.hid hrun2
            have H5 := Lib.hid (And.intro hown5 (And.intro hk5 hg5))
            clear hrun hrun2 hown5 hk5 hg5
            go_wp2_with (at_builtin; refine wpList_append_eq rfl rfl rfl rfl HR5.out ?_)
            go_roundg (n - (i + 1))
            case measure => omega
            case rel =>
              have hs := SN.out
              rw [if_neg x0] at hs
              have hm := HM5.out
              refine ⟨i + 1, m5 + 1, some ⟨g5, 0, none⟩, cp5, jnStep (cmpV md) j (x1, x2), rfl, by rw [hs]; simp only [stI], by rw [hs], by simp, by omega, Nat.le_refl _, by rw [hs, hm]; simp, Lib.hid ⟨?_, ?_, hI.out.2.2.1.step HX.out.2 HO.out.2.1, ?_, ?_⟩⟩
              · rw [JoiI.fold HX.out.1, ← hI.out.1]
              · rw [hs]; have := hI.out.2.1; simp; omega
              · rw [hs]
                have h8 := H5.out.1
                rw [show (j.out ++ [x1]).length = m5 + 1 by rw [List.length_append, ← hm]; rfl, encZ_snoc]
                refine h8.weaken fun b hb => ?_
                rw [hb]
                rcases H5.out.2.2 with h9 | h9
                · exact OV.out.1.2 _ h9
                · have := OV.out.2.size; omega
              · exact OV.out.2.trans (H5.out.2.1.below OV.out.2.size fun b hb => OV.out.1.2 b hb)

        · have hrk : ∃ rk, j.out[k]? = some rk := ⟨_, List.getElem?_eq_getElem (by rw [← hm5]; exact hk5)⟩
          obtain ⟨rk, hrk⟩ := hrk
          have hri : I32 rk := hI.out.2.2.1.out rk (List.mem_of_getElem? hrk)
          obtain ⟨b5, hb5⟩ : ∃ b5, a5 = some ⟨b5, 0, none⟩ := by
            rcases ho3.shape with ⟨_, h0⟩ | ⟨g, c, e, _, _⟩
            · omega
            · injection e with e1; exact ⟨g, e1⟩
          subst hb5
          obtain ⟨co, hco⟩ : ∃ co, cmpV md rk x1 = co := ⟨_, rfl⟩
          have SN : Hid (jnStep (cmpV md) j (x1, x2) = jnCase j k (x1, x2) co) := Lib.hid (by rw [jnStep_open hst (by rw [← hm5]; exact hbl), hrk, Option.getD_some, hco])
          have HK := Lib.hid (And.intro hrk (And.intro hri (And.intro hco hst)))
          have OV0 := Lib.hid (And.intro ho3 hbw)
          have IX : Hid (∀ X9 : World, (Instr.indexAt 22 (.slice (some ⟨b5, 0, none⟩) m5 c5) (.int .i64 (k : Nat))).run Tryz.prog X9 = .ok (.pointer (some ⟨b5, k, none⟩)) X9) := Lib.hid fun X9 => by
            have a1 : (0 : Int) ≤ (k : Int) := by omega
            have a2 : (k : Int) < (m5 : Int) := by omega
            go_simp
            intro h9
            exfalso
            omega
          have F0 : Hid (∀ X9 : World, (Instr.fieldAt 78 (.pointer (some ⟨b9, 0, none⟩)) 0).run Tryz.prog X9 = .ok (.pointer (some ⟨b9, 0, none⟩)) X9) := Lib.hid fun X9 => by go_simp
          have LD : Hid (∀ X9, Below W3.heap.size W3 X9 → (Instr.loadAt 21 (.pointer (some ⟨b5, k, none⟩))).run Tryz.prog X9 = .ok (.int .i32 rk) X9) := Lib.hid fun X9 hb => by
            have c : W3.cell? ⟨b5, k, none⟩ = some (.int .i32 rk) := ho3.at0 (by unfold encZ; rw [List.getElem?_map, hrk]; rfl)
            have c2 : X9.cell? ⟨b5, k, none⟩ = some (.int .i32 rk) := (hb.cell (Kt.lt_of_cell c)).trans c
            go_simp
          have LC : Hid (∀ X9, Below W3.heap.size W3 X9 → (Instr.loadAt 21 (.pointer (some ⟨b9, 0, none⟩))).run Tryz.prog X9 = .ok (.int .i32 x1) X9) := Lib.hid fun X9 hb => by
            have c2 : X9.cell? ⟨b9, 0, none⟩ = some (.int .i32 x1) := (hb.cell (Kt.lt_of_cell d0)).trans d0
            go_simp
          have CQ : Hid (∀ X9, Below W3.heap.size W3 X9 → Calls Tryz.prog 71 #[.pointer (some ⟨gp, 0, none⟩), .int .i32 rk, .int .i32 x1] X9 fun e w' => e = .returned (.tuple #[.int .i32 (co.getD 0), .bool co.isSome]) ∧ Below X9.heap.size X9 w') := Lib.hid fun X9 hb => by
            have := pcmpP X9 (HO.out.1.below (hbw.trans (hb.mono hbw.size))) rk x1 hri hx1
            rwa [hco] at this
          have E0 : Hid (∀ X9 : World, (Instr.extract (.tuple #[.int .i32 (co.getD 0), .bool co.isSome]) 0).run Tryz.prog X9 = .ok (.int .i32 (co.getD 0)) X9) := Lib.hid fun X9 => by go_simp
          have E1 : Hid (∀ X9 : World, (Instr.extract (.tuple #[.int .i32 (co.getD 0), .bool co.isSome]) 1).run Tryz.prog X9 = .ok (.bool co.isSome) X9) := Lib.hid fun X9 => by go_simp
          have hbr : k + 1 = m5 ∨ (k + 1 < m5 ∧ j.last < x2) := by
            rcases Nat.lt_or_ge (k + 1) m5 with h | h
            · right
              refine ⟨h, ?_⟩
              have : ¬ j.last ≥ x2 := fun h9 => hbl ⟨h, h9⟩
              omega
            · left; omega
          have HD := Lib.hid (And.intro d0 d1)
          clear ho3 hbw hb3 h9 hm5 hx hx1 hst e6 hbl hrk hri hco
          rcases hbr with hbr | ⟨hbr, hbr2⟩

          · have k2 : ¬ (k : Int) < (m5 : Int) - 1 := by omega
            go_wp2_with fail
            refine wp_region_mem W3 (fun i z _ => match i with | 0 => z = .pointer (some ⟨gp, 0, none⟩) | 1 => z = .slice (some ⟨b5, 0, none⟩) m5 c5 | 2 => z = .int .i64 (k : Nat) | 3 => z = .pointer (some ⟨b5, k, none⟩) | 4 => z = .int .i32 rk | 5 => z = .pointer (some ⟨b9, 0, none⟩) | 6 => z = .int .i32 x1 | 7 => z = .tuple #[.int .i32 (co.getD 0), .bool co.isSome] | 8 => z = .tuple #[.int .i32 (co.getD 0), .bool co.isSome] | 9 => z = .int .i32 (co.getD 0) | 10 => z = .bool co.isSome | 11 => z = .int .i32 (co.getD 0) | 12 => z = .bool co.isSome | _ => True) (by kernel_rfl) (by kernel_rfl) (by kernel_rfl) (fun i v A B _ h => by
              match i with
              | 0 => exact h
              | 1 => exact h
              | 2 => exact h
              | 3 => exact h
              | 4 => exact h
              | 5 => exact h
              | 6 => exact h
              | 7 => exact h
              | 8 => exact h
              | 9 => exact h
              | 10 => exact h
              | 11 => exact h
              | 12 => exact h
              | _ + 13 => exact trivial) (below_drewN (Below.refl _ _) 1) ?hsm1 ?hdm1
            case hsm1 =>
              refine MSteps.cons ?_ (MSteps.cons ?_ (MSteps.cons ?_ (MSteps.cons ?_ (MSteps.cons ?_ (MSteps.cons ?_ (MSteps.cons ?_ (MSteps.cons ?_ (MSteps.cons ?_ (MSteps.cons ?_ (MSteps.cons ?_ (MSteps.cons ?_ (MSteps.cons ?_ (MSteps.nil)))))))))))))
              · intro a X9 hXB hL hd
                refine ⟨rfl, ?_⟩
                have e0 : a.eval (.tmp 0) = .pointer (some ⟨gp, 0, none⟩) := hL.far 0 (by kernel_rfl)
                exact wp_value (exec_move rfl e0) ⟨_, rfl, Below.refl _ _, rfl⟩
              · intro a X9 hXB hL hd
                refine ⟨rfl, ?_⟩
                have e0 : a.eval (.tmp 5) = .slice (some ⟨b5, 0, none⟩) m5 c5 := hL.far 5 (by kernel_rfl)
                exact wp_value (exec_move rfl e0) ⟨_, rfl, Below.refl _ _, rfl⟩
              · intro a X9 hXB hL hd
                refine ⟨rfl, ?_⟩
                have e0 : a.eval (.tmp 6) = .int .i64 (k : Nat) := hL.far 6 (by kernel_rfl)
                exact wp_value (exec_move rfl e0) ⟨_, rfl, Below.refl _ _, rfl⟩
              · intro a X9 hXB hL hd
                refine ⟨rfl, ?_⟩
                have e0 : a.eval (.tmp 41) = .slice (some ⟨b5, 0, none⟩) m5 c5 := hd 1 41 (by kernel_rfl) (by kernel_rfl)
                have e1 : a.eval (.tmp 42) = .int .i64 (k : Nat) := hd 2 42 (by kernel_rfl) (by kernel_rfl)
                exact wp_value (exec_indexAddr rfl e0 e1 (IX.out X9)) ⟨_, rfl, Below.refl _ _, rfl⟩
              · intro a X9 hXB hL hd
                refine ⟨rfl, ?_⟩
                have e0 : a.eval (.tmp 43) = .pointer (some ⟨b5, k, none⟩) := hd 3 43 (by kernel_rfl) (by kernel_rfl)
                exact wp_value (exec_load rfl e0 (LD.out X9 hXB)) ⟨_, rfl, Below.refl _ _, rfl⟩
              · intro a X9 hXB hL hd
                refine ⟨rfl, ?_⟩
                have e0 : a.eval (.tmp 9) = .pointer (some ⟨b9, 0, none⟩) := hL.far 9 (by kernel_rfl)
                exact wp_value (exec_fieldAddr rfl e0 (F0.out X9)) ⟨_, rfl, Below.refl _ _, rfl⟩
              · intro a X9 hXB hL hd
                refine ⟨rfl, ?_⟩
                have e0 : a.eval (.tmp 45) = .pointer (some ⟨b9, 0, none⟩) := hd 5 45 (by kernel_rfl) (by kernel_rfl)
                exact wp_value (exec_load rfl e0 (LC.out X9 hXB)) ⟨_, rfl, Below.refl _ _, rfl⟩
              · intro a X9 hXB hL hd
                refine ⟨rfl, ?_⟩
                have e0 : a.eval (.tmp 40) = .pointer (some ⟨gp, 0, none⟩) := hd 0 40 (by kernel_rfl) (by kernel_rfl)
                have e1 : a.eval (.tmp 44) = .int .i32 rk := hd 4 44 (by kernel_rfl) (by kernel_rfl)
                have e2 : a.eval (.tmp 46) = .int .i32 x1 := hd 6 46 (by kernel_rfl) (by kernel_rfl)
                refine wp_enter (exec_call (vs := #[.pointer (some ⟨gp, 0, none⟩), .int .i32 rk, .int .i32 x1]) rfl (by simp only [List.map_toArray, List.map_cons, List.map_nil, e0, e1, e2]) Tryz.func71 rfl rfl) ?_
                refine (CQ.out X9 hXB).mono ?_
                rintro e w9 ⟨rfl, hb⟩
                exact ⟨_, rfl, _, rfl, hb, rfl⟩
              · intro a X9 hXB hL hd
                refine ⟨rfl, ?_⟩
                have e0 : a.eval (.tmp 47) = .tuple #[.int .i32 (co.getD 0), .bool co.isSome] := hd 7 47 (by kernel_rfl) (by kernel_rfl)
                exact wp_value (exec_move rfl e0) ⟨_, rfl, Below.refl _ _, rfl⟩
              · intro a X9 hXB hL hd
                refine ⟨rfl, ?_⟩
                have e0 : a.eval (.tmp 39) = .tuple #[.int .i32 (co.getD 0), .bool co.isSome] := hd 8 39 (by kernel_rfl) (by kernel_rfl)
                exact wp_value (exec_extract rfl e0 (E0.out X9)) ⟨_, rfl, Below.refl _ _, rfl⟩
              · intro a X9 hXB hL hd
                refine ⟨rfl, ?_⟩
                have e0 : a.eval (.tmp 39) = .tuple #[.int .i32 (co.getD 0), .bool co.isSome] := hd 8 39 (by kernel_rfl) (by kernel_rfl)
                exact wp_value (exec_extract rfl e0 (E1.out X9)) ⟨_, rfl, Below.refl _ _, rfl⟩
              · intro a X9 hXB hL hd
                refine ⟨rfl, ?_⟩
                have e0 : a.eval (.tmp 48) = .int .i32 (co.getD 0) := hd 9 48 (by kernel_rfl) (by kernel_rfl)
                exact wp_value (exec_asgN rfl e0) ⟨_, rfl, Below.refl _ _, rfl⟩
              · intro a X9 hXB hL hd
                refine ⟨rfl, ?_⟩
                have e0 : a.eval (.tmp 49) = .bool co.isSome := hd 10 49 (by kernel_rfl) (by kernel_rfl)
                exact wp_value (exec_asgN rfl e0) ⟨_, rfl, Below.refl _ _, rfl⟩
            intro a X9 hL hXB hPP
            have hw11 : a.tmps.getD 11 undef = .int .i32 (co.getD 0) := hPP 11 11 (by kernel_rfl)
            have hw12 : a.tmps.getD 12 undef = .bool co.isSome := hPP 12 12 (by kernel_rfl)
            obtain ⟨fv, ha, hf⟩ := hL.out [40, 41, 42, 43, 44, 45, 46, 47, 39, 48, 49, 11, 12] (by kernel_rfl)
            have hg11 : fv 11 = .int .i32 (co.getD 0) := (hf 11).trans hw11
            have hg12 : fv 12 = .bool co.isSome := (hf 12).trans hw12
            simp only [List.foldl_cons, List.foldl_nil, List.setIfInBounds_toArray, List.set_cons_zero, List.set_cons_succ, hg11, hg12] at ha
            clear hf hL hPP hw11 hw12 hg11 hg12
            subst ha
            have OV : Hid (OwnS (fun b => w.heap.size ≤ b) 21 1 (.slice (some ⟨b5, 0, none⟩) m5 c5) m5 (encZ j.out) X9 ∧ Below w.heap.size w X9) := Lib.hid ⟨OV0.out.1.keep (X := fun _ => False) (Keep.of_all hXB) (fun _ h => h.elim), OV0.out.2.trans (hXB.mono OV0.out.2.size)⟩
            have q0 : X9.cell? ⟨b9, 0, none⟩ = some (.int .i32 x1) := (hXB.cell (Kt.lt_of_cell HD.out.1)).trans HD.out.1
            have q1 : X9.cell? ⟨b9, 1, none⟩ = some (.int .i64 x2) := (hXB.cell (Kt.lt_of_cell HD.out.2)).trans HD.out.2
            have q2 : X9.cell? ⟨b5, k, none⟩ = some (.int .i32 rk) := OV.out.1.at0 (by unfold encZ; rw [List.getElem?_map, HK.out.1]; rfl)
            have q3 : X9.frozen? ⟨b5, k, none⟩ = false := OV.out.1.frozen k
            clear hXB c0 c1 d0 d1 hW3
            obtain ⟨a5, ha5⟩ : ∃ a5, a5 = some (⟨b5, 0, none⟩ : Addr) := ⟨_, rfl⟩
            cases co with
            | some r =>
              have a1 : (0 : Int) ≤ (k : Int) := by omega
              have a2 : (k : Int) < (m5 : Int) := by omega
              simp only [Option.getD_some, Option.isSome_some]
              go_wp2
              go_roundg (n - (i + 1))
              case measure => omega
              case rel =>
                have hs := SN.out
                rw [jnCase] at hs
                have hm := HM5.out
                refine ⟨i + 1, m5, some ⟨b5, 0, none⟩, c5, jnStep (cmpV md) j (x1, x2), rfl, by rw [hs]; rfl, by rw [hs], by simp, by omega, Nat.le_refl _, by rw [hs]; simp; exact hm, Lib.hid ⟨?_, ?_, hI.out.2.2.1.step HX.out.2 HO.out.2.1, ?_, ?_⟩⟩
                · rw [JoiI.fold HX.out.1, ← hI.out.1]
                · rw [hs]; have := hI.out.2.1; simp; omega
                · rw [hs]
                  have h8 := own_set (r := r) OV.out.1 (k := k) (by rw [← hm]; exact hk5) hm.symm
                  rw [show (j.out.set k r).length = m5 by rw [List.length_set]; exact hm.symm]
                  exact h8
                · exact OV.out.2.setCell (OV.out.1.2 b5 rfl) _
            | none =>
              simp only [Option.getD_none, Option.isSome_none]
              have SM : Hid (jnStep (cmpV md) j (x1, x2) = ⟨j.out ++ [x1], if x2 = 0 then some j.out.length else some k, x2⟩) := SN
              by_cases x0 : x2 = 0
              · have y0 : (x2 == 0) = true := by simp only [beq_iff_eq]; exact x0
                have HX0 := Lib.hid x0
                clear x0
                obtain ⟨g5, cp5, w5, hrun, hown5, hk5, hg5, _⟩ := append_x (P := Tryz.prog) X9 22 21 Tryz.underlying22 tinfoI32 rfl (by decide) OV.out.1 [.int .i32 x1] rfl (by intro u hu; simp at hu; subst hu; rfl) (by unfold maxLen; omega) (by omega)
                have hrun2 : ∀ ty, (Builtin.append_ #[22, 22] ty #[.slice (some ⟨b5, 0, none⟩) m5 c5, .slice (some ⟨X9.heap.size, 0, none⟩) 1 1]).run Tryz.prog (X9.alloc (.cells #[.int .i32 x1] 21)) = .ok (.slice (some ⟨g5, 0, none⟩) (m5 + 1) cp5) w5 := hrun
                have HR5 := Lib.hid hrun2
                have H5 := Lib.hid (And.intro hown5 (And.intro hk5 hg5))
                clear hrun hrun2 hown5 hk5 hg5
                go_wp2_with (at_builtin; refine wpList_append_eq rfl rfl rfl rfl HR5.out ?_)
                go_roundg (n - (i + 1))
                case measure => omega
                case rel =>
                  have hs := SM.out
                  rw [if_pos HX0.out] at hs
                  have hm := HM5.out
                  refine ⟨i + 1, m5 + 1, some ⟨g5, 0, none⟩, cp5, jnStep (cmpV md) j (x1, x2), rfl, by rw [hs]; simp only [stI]; rw [← hm], by rw [hs], by simp, by omega, Nat.le_refl _, by rw [hs, hm]; simp, Lib.hid ⟨?_, ?_, hI.out.2.2.1.step HX.out.2 HO.out.2.1, ?_, ?_⟩⟩
                  · rw [JoiI.fold HX.out.1, ← hI.out.1]
                  · rw [hs]; have := hI.out.2.1; simp; omega
                  · rw [hs]
                    have h8 := H5.out.1
                    rw [show (j.out ++ [x1]).length = m5 + 1 by rw [List.length_append, ← hm]; rfl, encZ_snoc]
                    refine h8.weaken fun b hb => ?_
                    rw [hb]
                    rcases H5.out.2.2 with h9 | h9
                    · exact OV.out.1.2 _ h9
                    · have := OV.out.2.size; omega
                  · exact OV.out.2.trans (H5.out.2.1.below OV.out.2.size fun b hb => OV.out.1.2 b hb)
              · have y0 : (x2 == 0) = false := by simp only [beq_eq_false_iff_ne, ne_eq]; exact x0
                obtain ⟨g5, cp5, w5, hrun, hown5, hk5, hg5, _⟩ := append_x (P := Tryz.prog) X9 22 21 Tryz.underlying22 tinfoI32 rfl (by decide) OV.out.1 [.int .i32 x1] rfl (by intro u hu; simp at hu; subst hu; rfl) (by unfold maxLen; omega) (by omega)
                have hrun2 : ∀ ty, (Builtin.append_ #[22, 22] ty #[.slice (some ⟨b5, 0, none⟩) m5 c5, .slice (some ⟨X9.heap.size, 0, none⟩) 1 1]).run Tryz.prog (X9.alloc (.cells #[.int .i32 x1] 21)) = .ok (.slice (some ⟨g5, 0, none⟩) (m5 + 1) cp5) w5 := hrun
                have HR5 := Lib.hid hrun2
                have H5 := Lib.hid (And.intro hown5 (And.intro hk5 hg5))
                clear hrun hrun2 hown5 hk5 hg5
                go_wp2_with (at_builtin; refine wpList_append_eq rfl rfl rfl rfl HR5.out ?_)
                go_roundg (n - (i + 1))
                case measure => omega
                case rel =>
                  have hs := SM.out
                  rw [if_neg x0] at hs
                  have hm := HM5.out
                  refine ⟨i + 1, m5 + 1, some ⟨g5, 0, none⟩, cp5, jnStep (cmpV md) j (x1, x2), rfl, by rw [hs]; simp only [stI], by rw [hs], by simp, by omega, Nat.le_refl _, by rw [hs, hm]; simp, Lib.hid ⟨?_, ?_, hI.out.2.2.1.step HX.out.2 HO.out.2.1, ?_, ?_⟩⟩
                  · rw [JoiI.fold HX.out.1, ← hI.out.1]
                  · rw [hs]; have := hI.out.2.1; simp; omega
                  · rw [hs]
                    have h8 := H5.out.1
                    rw [show (j.out ++ [x1]).length = m5 + 1 by rw [List.length_append, ← hm]; rfl, encZ_snoc]
                    refine h8.weaken fun b hb => ?_
                    rw [hb]
                    rcases H5.out.2.2 with h9 | h9
                    · exact OV.out.1.2 _ h9
                    · have := OV.out.2.size; omega
                  · exact OV.out.2.trans (H5.out.2.1.below OV.out.2.size fun b hb => OV.out.1.2 b hb)
          · have k2 : (k : Int) < (m5 : Int) - 1 := by omega
            have k3 : ¬ x2 ≤ j.last := by omega
            have k4 : ¬ j.last ≥ x2 := by omega
            go_wp2_with fail
            refine wp_region_mem W3 (fun i z _ => match i with | 0 => z = .pointer (some ⟨gp, 0, none⟩) | 1 => z = .slice (some ⟨b5, 0, none⟩) m5 c5 | 2 => z = .int .i64 (k : Nat) | 3 => z = .pointer (some ⟨b5, k, none⟩) | 4 => z = .int .i32 rk | 5 => z = .pointer (some ⟨b9, 0, none⟩) | 6 => z = .int .i32 x1 | 7 => z = .tuple #[.int .i32 (co.getD 0), .bool co.isSome] | 8 => z = .tuple #[.int .i32 (co.getD 0), .bool co.isSome] | 9 => z = .int .i32 (co.getD 0) | 10 => z = .bool co.isSome | 11 => z = .int .i32 (co.getD 0) | 12 => z = .bool co.isSome | _ => True) (by kernel_rfl) (by kernel_rfl) (by kernel_rfl) (fun i v A B _ h => by
              match i with
              | 0 => exact h
              | 1 => exact h
              | 2 => exact h
              | 3 => exact h
              | 4 => exact h
              | 5 => exact h
              | 6 => exact h
              | 7 => exact h
              | 8 => exact h
              | 9 => exact h
              | 10 => exact h
              | 11 => exact h
              | 12 => exact h
              | _ + 13 => exact trivial) (below_drewN (Below.refl _ _) 1) ?hsm2 ?hdm2
            case hsm2 =>
              refine MSteps.cons ?_ (MSteps.cons ?_ (MSteps.cons ?_ (MSteps.cons ?_ (MSteps.cons ?_ (MSteps.cons ?_ (MSteps.cons ?_ (MSteps.cons ?_ (MSteps.cons ?_ (MSteps.cons ?_ (MSteps.cons ?_ (MSteps.cons ?_ (MSteps.cons ?_ (MSteps.nil)))))))))))))
              · intro a X9 hXB hL hd
                refine ⟨rfl, ?_⟩
                have e0 : a.eval (.tmp 0) = .pointer (some ⟨gp, 0, none⟩) := hL.far 0 (by kernel_rfl)
                exact wp_value (exec_move rfl e0) ⟨_, rfl, Below.refl _ _, rfl⟩
              · intro a X9 hXB hL hd
                refine ⟨rfl, ?_⟩
                have e0 : a.eval (.tmp 5) = .slice (some ⟨b5, 0, none⟩) m5 c5 := hL.far 5 (by kernel_rfl)
                exact wp_value (exec_move rfl e0) ⟨_, rfl, Below.refl _ _, rfl⟩
              · intro a X9 hXB hL hd
                refine ⟨rfl, ?_⟩
                have e0 : a.eval (.tmp 6) = .int .i64 (k : Nat) := hL.far 6 (by kernel_rfl)
                exact wp_value (exec_move rfl e0) ⟨_, rfl, Below.refl _ _, rfl⟩
              · intro a X9 hXB hL hd
                refine ⟨rfl, ?_⟩
                have e0 : a.eval (.tmp 41) = .slice (some ⟨b5, 0, none⟩) m5 c5 := hd 1 41 (by kernel_rfl) (by kernel_rfl)
                have e1 : a.eval (.tmp 42) = .int .i64 (k : Nat) := hd 2 42 (by kernel_rfl) (by kernel_rfl)
                exact wp_value (exec_indexAddr rfl e0 e1 (IX.out X9)) ⟨_, rfl, Below.refl _ _, rfl⟩
              · intro a X9 hXB hL hd
                refine ⟨rfl, ?_⟩
                have e0 : a.eval (.tmp 43) = .pointer (some ⟨b5, k, none⟩) := hd 3 43 (by kernel_rfl) (by kernel_rfl)
                exact wp_value (exec_load rfl e0 (LD.out X9 hXB)) ⟨_, rfl, Below.refl _ _, rfl⟩
              · intro a X9 hXB hL hd
                refine ⟨rfl, ?_⟩
                have e0 : a.eval (.tmp 9) = .pointer (some ⟨b9, 0, none⟩) := hL.far 9 (by kernel_rfl)
                exact wp_value (exec_fieldAddr rfl e0 (F0.out X9)) ⟨_, rfl, Below.refl _ _, rfl⟩
              · intro a X9 hXB hL hd
                refine ⟨rfl, ?_⟩
                have e0 : a.eval (.tmp 45) = .pointer (some ⟨b9, 0, none⟩) := hd 5 45 (by kernel_rfl) (by kernel_rfl)
                exact wp_value (exec_load rfl e0 (LC.out X9 hXB)) ⟨_, rfl, Below.refl _ _, rfl⟩
              · intro a X9 hXB hL hd
                refine ⟨rfl, ?_⟩
                have e0 : a.eval (.tmp 40) = .pointer (some ⟨gp, 0, none⟩) := hd 0 40 (by kernel_rfl) (by kernel_rfl)
                have e1 : a.eval (.tmp 44) = .int .i32 rk := hd 4 44 (by kernel_rfl) (by kernel_rfl)
                have e2 : a.eval (.tmp 46) = .int .i32 x1 := hd 6 46 (by kernel_rfl) (by kernel_rfl)
                refine wp_enter (exec_call (vs := #[.pointer (some ⟨gp, 0, none⟩), .int .i32 rk, .int .i32 x1]) rfl (by simp only [List.map_toArray, List.map_cons, List.map_nil, e0, e1, e2]) Tryz.func71 rfl rfl) ?_
                refine (CQ.out X9 hXB).mono ?_
                rintro e w9 ⟨rfl, hb⟩
                exact ⟨_, rfl, _, rfl, hb, rfl⟩
              · intro a X9 hXB hL hd
                refine ⟨rfl, ?_⟩
                have e0 : a.eval (.tmp 47) = .tuple #[.int .i32 (co.getD 0), .bool co.isSome] := hd 7 47 (by kernel_rfl) (by kernel_rfl)
                exact wp_value (exec_move rfl e0) ⟨_, rfl, Below.refl _ _, rfl⟩
              · intro a X9 hXB hL hd
                refine ⟨rfl, ?_⟩
                have e0 : a.eval (.tmp 39) = .tuple #[.int .i32 (co.getD 0), .bool co.isSome] := hd 8 39 (by kernel_rfl) (by kernel_rfl)
                exact wp_value (exec_extract rfl e0 (E0.out X9)) ⟨_, rfl, Below.refl _ _, rfl⟩
              · intro a X9 hXB hL hd
                refine ⟨rfl, ?_⟩
                have e0 : a.eval (.tmp 39) = .tuple #[.int .i32 (co.getD 0), .bool co.isSome] := hd 8 39 (by kernel_rfl) (by kernel_rfl)
                exact wp_value (exec_extract rfl e0 (E1.out X9)) ⟨_, rfl, Below.refl _ _, rfl⟩
              · intro a X9 hXB hL hd
                refine ⟨rfl, ?_⟩
                have e0 : a.eval (.tmp 48) = .int .i32 (co.getD 0) := hd 9 48 (by kernel_rfl) (by kernel_rfl)
                exact wp_value (exec_asgN rfl e0) ⟨_, rfl, Below.refl _ _, rfl⟩
              · intro a X9 hXB hL hd
                refine ⟨rfl, ?_⟩
                have e0 : a.eval (.tmp 49) = .bool co.isSome := hd 10 49 (by kernel_rfl) (by kernel_rfl)
                exact wp_value (exec_asgN rfl e0) ⟨_, rfl, Below.refl _ _, rfl⟩
            intro a X9 hL hXB hPP
            have hw11 : a.tmps.getD 11 undef = .int .i32 (co.getD 0) := hPP 11 11 (by kernel_rfl)
            have hw12 : a.tmps.getD 12 undef = .bool co.isSome := hPP 12 12 (by kernel_rfl)
            obtain ⟨fv, ha, hf⟩ := hL.out [40, 41, 42, 43, 44, 45, 46, 47, 39, 48, 49, 11, 12] (by kernel_rfl)
            have hg11 : fv 11 = .int .i32 (co.getD 0) := (hf 11).trans hw11
            have hg12 : fv 12 = .bool co.isSome := (hf 12).trans hw12
            simp only [List.foldl_cons, List.foldl_nil, List.setIfInBounds_toArray, List.set_cons_zero, List.set_cons_succ, hg11, hg12] at ha
            clear hf hL hPP hw11 hw12 hg11 hg12
            subst ha
            have OV : Hid (OwnS (fun b => w.heap.size ≤ b) 21 1 (.slice (some ⟨b5, 0, none⟩) m5 c5) m5 (encZ j.out) X9 ∧ Below w.heap.size w X9) := Lib.hid ⟨OV0.out.1.keep (X := fun _ => False) (Keep.of_all hXB) (fun _ h => h.elim), OV0.out.2.trans (hXB.mono OV0.out.2.size)⟩
            have q0 : X9.cell? ⟨b9, 0, none⟩ = some (.int .i32 x1) := (hXB.cell (Kt.lt_of_cell HD.out.1)).trans HD.out.1
            have q1 : X9.cell? ⟨b9, 1, none⟩ = some (.int .i64 x2) := (hXB.cell (Kt.lt_of_cell HD.out.2)).trans HD.out.2
            have q2 : X9.cell? ⟨b5, k, none⟩ = some (.int .i32 rk) := OV.out.1.at0 (by unfold encZ; rw [List.getElem?_map, HK.out.1]; rfl)
            have q3 : X9.frozen? ⟨b5, k, none⟩ = false := OV.out.1.frozen k
            clear hXB c0 c1 d0 d1 hW3
            obtain ⟨a5, ha5⟩ : ∃ a5, a5 = some (⟨b5, 0, none⟩ : Addr) := ⟨_, rfl⟩
            cases co with
            | some r =>
              have a1 : (0 : Int) ≤ (k : Int) := by omega
              have a2 : (k : Int) < (m5 : Int) := by omega
              simp only [Option.getD_some, Option.isSome_some]
              go_wp2
              go_roundg (n - (i + 1))
              case measure => omega
              case rel =>
                have hs := SN.out
                rw [jnCase] at hs
                have hm := HM5.out
                refine ⟨i + 1, m5, some ⟨b5, 0, none⟩, c5, jnStep (cmpV md) j (x1, x2), rfl, by rw [hs]; rfl, by rw [hs], by simp, by omega, Nat.le_refl _, by rw [hs]; simp; exact hm, Lib.hid ⟨?_, ?_, hI.out.2.2.1.step HX.out.2 HO.out.2.1, ?_, ?_⟩⟩
                · rw [JoiI.fold HX.out.1, ← hI.out.1]
                · rw [hs]; have := hI.out.2.1; simp; omega
                · rw [hs]
                  have h8 := own_set (r := r) OV.out.1 (k := k) (by rw [← hm]; exact hk5) hm.symm
                  rw [show (j.out.set k r).length = m5 by rw [List.length_set]; exact hm.symm]
                  exact h8
                · exact OV.out.2.setCell (OV.out.1.2 b5 rfl) _
            | none =>
              simp only [Option.getD_none, Option.isSome_none]
              have SM : Hid (jnStep (cmpV md) j (x1, x2) = ⟨j.out ++ [x1], if x2 = 0 then some j.out.length else some k, x2⟩) := SN
              by_cases x0 : x2 = 0
              · have y0 : (x2 == 0) = true := by simp only [beq_iff_eq]; exact x0
                have HX0 := Lib.hid x0
                clear x0
                obtain ⟨g5, cp5, w5, hrun, hown5, hk5, hg5, _⟩ := append_x (P := Tryz.prog) X9 22 21 Tryz.underlying22 tinfoI32 rfl (by decide) OV.out.1 [.int .i32 x1] rfl (by intro u hu; simp at hu; subst hu; rfl) (by unfold maxLen; omega) (by omega)
                have hrun2 : ∀ ty, (Builtin.append_ #[22, 22] ty #[.slice (some ⟨b5, 0, none⟩) m5 c5, .slice (some ⟨X9.heap.size, 0, none⟩) 1 1]).run Tryz.prog (X9.alloc (.cells #[.int .i32 x1] 21)) = .ok (.slice (some ⟨g5, 0, none⟩) (m5 + 1) cp5) w5 := hrun
                have HR5 := Lib.hid hrun2
                have H5 := Lib.hid (And.intro hown5 (And.intro hk5 hg5))
                clear hrun hrun2 hown5 hk5 hg5
                go_wp2_with (at_builtin; refine wpList_append_eq rfl rfl rfl rfl HR5.out ?_)
                go_roundg (n - (i + 1))
                case measure => omega
                case rel =>
                  have hs := SM.out
                  rw [if_pos HX0.out] at hs
                  have hm := HM5.out
                  refine ⟨i + 1, m5 + 1, some ⟨g5, 0, none⟩, cp5, jnStep (cmpV md) j (x1, x2), rfl, by rw [hs]; simp only [stI]; rw [← hm], by rw [hs], by simp, by omega, Nat.le_refl _, by rw [hs, hm]; simp, Lib.hid ⟨?_, ?_, hI.out.2.2.1.step HX.out.2 HO.out.2.1, ?_, ?_⟩⟩
                  · rw [JoiI.fold HX.out.1, ← hI.out.1]
                  · rw [hs]; have := hI.out.2.1; simp; omega
                  · rw [hs]
                    have h8 := H5.out.1
                    rw [show (j.out ++ [x1]).length = m5 + 1 by rw [List.length_append, ← hm]; rfl, encZ_snoc]
                    refine h8.weaken fun b hb => ?_
                    rw [hb]
                    rcases H5.out.2.2 with h9 | h9
                    · exact OV.out.1.2 _ h9
                    · have := OV.out.2.size; omega
                  · exact OV.out.2.trans (H5.out.2.1.below OV.out.2.size fun b hb => OV.out.1.2 b hb)
              · have y0 : (x2 == 0) = false := by simp only [beq_eq_false_iff_ne, ne_eq]; exact x0
                obtain ⟨g5, cp5, w5, hrun, hown5, hk5, hg5, _⟩ := append_x (P := Tryz.prog) X9 22 21 Tryz.underlying22 tinfoI32 rfl (by decide) OV.out.1 [.int .i32 x1] rfl (by intro u hu; simp at hu; subst hu; rfl) (by unfold maxLen; omega) (by omega)
                have hrun2 : ∀ ty, (Builtin.append_ #[22, 22] ty #[.slice (some ⟨b5, 0, none⟩) m5 c5, .slice (some ⟨X9.heap.size, 0, none⟩) 1 1]).run Tryz.prog (X9.alloc (.cells #[.int .i32 x1] 21)) = .ok (.slice (some ⟨g5, 0, none⟩) (m5 + 1) cp5) w5 := hrun
                have HR5 := Lib.hid hrun2
                have H5 := Lib.hid (And.intro hown5 (And.intro hk5 hg5))
                clear hrun hrun2 hown5 hk5 hg5
                go_wp2_with (at_builtin; refine wpList_append_eq rfl rfl rfl rfl HR5.out ?_)
                go_roundg (n - (i + 1))
                case measure => omega
                case rel =>
                  have hs := SM.out
                  rw [if_neg x0] at hs
                  have hm := HM5.out
                  refine ⟨i + 1, m5 + 1, some ⟨g5, 0, none⟩, cp5, jnStep (cmpV md) j (x1, x2), rfl, by rw [hs]; simp only [stI], by rw [hs], by simp, by omega, Nat.le_refl _, by rw [hs, hm]; simp, Lib.hid ⟨?_, ?_, hI.out.2.2.1.step HX.out.2 HO.out.2.1, ?_, ?_⟩⟩
                  · rw [JoiI.fold HX.out.1, ← hI.out.1]
                  · rw [hs]; have := hI.out.2.1; simp; omega
                  · rw [hs]
                    have h8 := H5.out.1
                    rw [show (j.out ++ [x1]).length = m5 + 1 by rw [List.length_append, ← hm]; rfl, encZ_snoc]
                    refine h8.weaken fun b hb => ?_
                    rw [hb]
                    rcases H5.out.2.2 with h9 | h9
                    · exact OV.out.1.2 _ h9
                    · have := OV.out.2.size; omega
                  · exact OV.out.2.trans (H5.out.2.1.below OV.out.2.size fun b hb => OV.out.1.2 b hb)
    · obtain rfl : i = n := by omega
      have hI9 := hI.out
      have hj : joinP (cmpV md) X = j.out := by
        unfold joinP
        rw [hI9.1, List.take_of_length_le (by rw [HO.out.2.2.2.1]; exact Nat.le_refl _)]
      have HJ := Lib.hid (And.intro hj hm5)
      clear hI9 hj hm5
      go_wp2
      go_ret
      rw [HJ.out.1]
      have := hI.out.2.2.2.1
      rw [HJ.out.2] at this ⊢
      exact ⟨⟨a5, c5, rfl, this⟩, hI.out.2.2.2.2⟩

theorem dec_I32 {S : RdS} {fl : Int → List Int} (hf : ∀ r, I32 r → ∀ y ∈ fl r, I32 y) {l : List Int} (hr : ∀ r ∈ l, I32 r) : ∀ x ∈ decR S fl l, I32 x.1 := fun x hx => by
  unfold decR at hx
  rcases ordL_mem _ _ hx with h | h
  · cases h
  · unfold fulR at h
    obtain ⟨r, hr1, hr2⟩ := List.mem_flatMap.1 h
    unfold pcR at hr2
    obtain ⟨y, hy, rfl⟩ := List.mem_map.1 hr2
    exact hf r (hr r hr1) y hy
set_option maxRecDepth 100000 in
set_option maxHeartbeats 2000000 in
theorem nCompose {S : RdS} {fl : Int → List Int} {L : List Nat} {gp : Nat} (hN : PrN S fl L) (hf : ∀ r, I32 r → ∀ y ∈ fl r, I32 y) (hcm : ∀ a b r, cmpV md a b = some r → I32 r) (w : World) (hP : PrW gp S md w) (v : Value) (l : List Int) (hl : Slg .i32 w v l) (hr : ∀ r ∈ l, I32 r) (hz : l.length ≤ 268435456) :
    Calls Tryz.prog 14 #[.pointer (some ⟨gp, 0, none⟩), v] w fun e w' => NewZ w.heap.size (joinP (cmpV md) (decR S fl l)) e w' ∧ Below w.heap.size w w' := by
  have CS := Lib.hid (nDecomposed hN w hP v l hl hr hz)
  have hlen := fulR_len hN.fe l
  have hx := dec_I32 (S := S) hf hr
  obtain ⟨X, hX⟩ : ∃ X, decR S fl l = X := ⟨_, rfl⟩
  have hXl : X.length ≤ 4294967296 := by rw [← hX]; unfold decR; rw [ordL_len]; simp only [List.length_nil]; omega
  rw [hX] at CS hx ⊢
  obtain ⟨ao, cap, rfl, _⟩ := hl
  have HO := Lib.hid (And.intro hP (And.intro hcm hx))
  clear hX hr hlen hx hP hcm
  go_enter Tryz.func14, Tryz.ntmps14
  go_wp2_with fail
  refine CS.out.mono ?_
  rintro e w1 ⟨u, rfl, hu, hb⟩
  have CB := Lib.hid (nJoined w1 (HO.out.1.below hb) HO.out.2.1 u X hu HO.out.2.2 hXl)
  obtain ⟨p, cp, rfl, _⟩ := hu
  have HB := Lib.hid hb
  clear hb CS
  go_wp2_with fail
  refine CB.out.mono ?_
  rintro e w2 ⟨⟨ao2, cp2, rfl, ho⟩, h2⟩
  have H2 := Lib.hid (And.intro ho h2)
  clear ho h2
  go_wp2
  go_ret
  exact ⟨⟨ao2, cp2, rfl, H2.out.1.weaken fun b h => Nat.le_trans HB.out.size h⟩, HB.out.trans (H2.out.2.mono HB.out.size)⟩
end Go.Proofs.YtcfhblbmpbfoaaaGreatDoor
