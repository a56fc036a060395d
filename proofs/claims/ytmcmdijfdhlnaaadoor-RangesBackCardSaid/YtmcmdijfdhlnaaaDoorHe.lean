/- parsedSpan: the span that is written at a byte. -/
import Derived.Test.YtmcmdijfdhlnaaaDoorU3
namespace Go.Proofs.YtmcmdijfdhlnaaaDoor
open Go Go.RowKit Go.Kt Go.Kt.Rg

theorem results_cell3 {P : Program} {fn : Func} {p a b : Tmp} {ty : TypeId} (h : fn.results = #[.cell p ty, .tmp a, .tmp b]) (tmps : Array Value) (w : World) (g : Nat) (t : TypeId) (cs : Array Value) (fr : Nat × Nat) (d : TypeDesc)
    (hp : tmps.getD p undef = .pointer (some ⟨g, 0, none⟩)) (hg : w.heap[g]? = some (.cells cs t fr))
    (hu : P.underlying ty = some d) (hd : (match d with | .struct _ | .array _ _ => true | _ => false) = true) (hi : (P.info? ty).map (·.size) = some cs.size) :
    (results fn tmps).run P w = .ok (.tuple #[.agg cs, tmps.getD a undef, tmps.getD b undef]) w := by
  have hp' : tmps[p]?.getD undef = .pointer (some ⟨g, 0, none⟩) := by simpa using hp
  simp [results, h, hp', asAddr, run_loadVar_row w g t ty cs fr d hg hu hd hi]
theorem pre_one (l : List UInt8) (q : Nat) : Lib.hasPrefix (l.drop q) [45] = decide (l[q]? = some 45) := by
  unfold Lib.hasPrefix
  rw [← Nat.add_zero q, ← List.getElem?_drop]
  cases h : l.drop q with
  | nil => simp [List.isPrefixOf]
  | cons c t =>
    by_cases hc : c = 45
    · subst hc; simp [List.isPrefixOf]
    · have hc2 : ((45 : UInt8) == c) = false := by rw [beq_eq_false_iff_ne]; exact fun h => hc h.symm
      simp [List.isPrefixOf, hc, hc2]
theorem pt_fits {l : List UInt8} {p k : Nat} {n : Int} (h : ptAt (l.drop p) = some (n, k)) : 0 ≤ n ∧ n < 1112192 ∧ 0 < k ∧ p + k ≤ l.length := by
  obtain ⟨h0, h1, rfl, t, ht⟩ := ptAt_sound h
  have hp := printP_pos (pntI n)
  have := congrArg List.length ht
  rw [List.length_drop, List.length_append] at this
  unfold allN at h1
  exact ⟨h0, h1, hp, by omega⟩
/-- The answer of parsedSpan. -/
def SpOut (l : List UInt8) (p : Nat) (e : Ending) : Prop :=
  match spAt l p with
  | .ok (x, q) => e = .returned (.tuple #[.agg #[.int .i64 x.1, .int .i64 x.2], .int .i64 (q : Nat), .nilIface])
  | .error (no, q) => e = .returned (.tuple #[.agg #[.int .i64 0, .int .i64 0], .int .i64 0, faultV no (q : Nat)])

/-- Two cells stored. -/
theorem two_cells {V : World} {g : Nat} {a b x y : Value} {T : TypeId} (h : V.heap[g]? = some (.cells #[a, b] T (0, 0))) :
    ((V.setCell ⟨g, 0, none⟩ x).setCell ⟨g, 1, none⟩ y).heap[g]? = some (.cells #[x, y] T (0, 0)) := by
  have h1 := heap_setCell_same V g 0 _ _ x h
  have h2 := heap_setCell_same (V.setCell ⟨g, 0, none⟩ x) g 1 _ _ y h1
  simpa using h2

set_option maxRecDepth 100000 in
set_option maxHeartbeats 4000000 in
theorem rps_any (s : ByteArray) (p : Nat) (w : World) (hp : p ≤ s.size) (hs : s.size ≤ 140737488351232) (hE : PEnv w) :
    Calls Tryd.prog 28 #[.string s, .int .i64 p] w fun e w' => SpOut s.data.toList p e ∧ Below w.heap.size w w' := by
  have hln : s.data.toList.length = s.size := (Lib.size_eq s).symm
  have CP := Lib.hid (fun (q : Nat) V (hq : q ≤ s.size) (hb : Below w.heap.size w V) => rpp_any s q V hq hs (hE.below hb))
  have CH := Lib.hid (fun (q : Nat) V => Tryd.strings_HasPrefix (s.extract q s.size) ⟨#[45]⟩ V)
  simp only [Lib.Pa.extract_from] at CH
  obtain ⟨l, hl⟩ : ∃ l, s.data.toList = l := ⟨_, rfl⟩
  rw [hl] at hln ⊢
  have HD : ∀ q, (⟨(s.data.toList.drop q).toArray⟩ : ByteArray) = s.extract q s.size := fun q => (Lib.Pa.extract_from s q).symm
  simp only [HD] at CH
  have HC : Hid (∀ q V, Calls Tryd.prog 27 #[.string (s.extract q s.size), .string ⟨#[45]⟩] V fun e w' => e = .returned (.bool (decide (l[q]? = some 45))) ∧ V = w') := Lib.hid fun q V => by
    refine (CH.out q V).mono ?_
    rintro e w' ⟨rfl, rfl⟩
    refine ⟨?_, rfl⟩
    rw [← pre_one l q, ← hl]
  have PO : ∀ (q : Nat) (o : Option (Int × Nat)), ptAt (l.drop q) = o → q ≤ s.size → Hid (∀ V, Below w.heap.size w V → Calls Tryd.prog 43 #[.string s, .int .i64 q] V fun e w' => (match o with
    | some (n, k) => e = .returned (.tuple #[.int .i64 n, .int .i64 ((q + k : Nat) : Int), .nilIface])
    | none => e = .returned (.tuple #[.int .i64 0, .int .i64 0, faultV 9 (q : Nat)])) ∧ Below V.heap.size V w') := fun q o ho hq => Lib.hid fun V hV => by
    refine (CP.out q V hq hV).mono ?_
    rintro e w' ⟨h, hb⟩
    unfold PtOut at h
    rw [hl, ho] at h
    exact ⟨h, hb⟩
  have OUT : ∀ (x : Except (Int × Nat) (Run × Nat)), spAt l p = x → Hid (∀ e w', (match x with
    | .ok (x, q) => e = .returned (.tuple #[.agg #[.int .i64 x.1, .int .i64 x.2], .int .i64 (q : Nat), .nilIface])
    | .error (no, q) => e = .returned (.tuple #[.agg #[.int .i64 0, .int .i64 0], .int .i64 0, faultV no (q : Nat)])) → Below w.heap.size w w' → SpOut l p e ∧ Below w.heap.size w w') := fun x hx => Lib.hid fun e w' h hb => ⟨by unfold SpOut; rw [hx]; exact h, hb⟩
  have hpl : (p : Int) ≤ s.size := by omega
  have hp1 : (p : Int) ≤ 140737488351232 := by omega
  have hsp : spAt l p = match ptAt (l.drop p) with
    | none => .error (9, p)
    | some (lo, k) => if l[p + k]? = some 45 then match ptAt (l.drop (p + k + 1)) with
        | none => .error (9, p + k + 1)
        | some (hi, k2) => if hi ≤ lo then .error (4, p) else .ok ((lo, hi + 1), p + k + 1 + k2)
      else .ok ((lo, lo + 1), p + k) := rfl
  have AL : ∀ o, Hid (Below w.heap.size w (w.alloc o)) := fun o => Lib.hid ((Below.refl _ _).alloc (Nat.le_refl _) _)
  cases h1 : ptAt (l.drop p) with
  | none =>
    have D1 := PO p _ h1 hp
    have HO := OUT _ (by rw [hsp, h1])
    simp only at D1 HO
    clear CP CH HC HD PO OUT hsp hE hs hl hln h1 hp
    go_enter Tryd.func28, Tryd.ntmps28
    go_wp2_with fail
    refine (D1.out _ (AL _).out).mono ?_
    rintro e V1 ⟨rfl, hb1⟩
    have g1 : V1.heap[w.heap.size]? = some (.cells #[.int .i64 0, .int .i64 0] 51 (0, 0)) := (hb1.block _ (by simp)).trans (alloc_at rfl)
    have HB := Lib.hid (And.intro ((AL _).out.trans (hb1.mono (AL _).out.size)) g1)
    clear hb1 g1
    have c0 : V1.cell? ⟨w.heap.size, 0, none⟩ = some (.int .i64 0) := by rw [Lib.cell_of_heap HB.out.2]; rfl
    have c1 : V1.cell? ⟨w.heap.size, 1, none⟩ = some (.int .i64 0) := by rw [Lib.cell_of_heap HB.out.2]; rfl
    have f0 : V1.frozen? ⟨w.heap.size, 0, none⟩ = false := Lib.frozen_of_heap HB.out.2 _
    have f1 : V1.frozen? ⟨w.heap.size, 1, none⟩ = false := Lib.frozen_of_heap HB.out.2 _
    go_wp2_with fail
    (try simp only [Exit.inBlock, Exit.then])
    refine bodyPost_ret (results_cell3 rfl _ _ w.heap.size 51 #[.int .i64 0, .int .i64 0] (0, 0) _ rfl (two_cells HB.out.2) Tryd.underlying51 rfl (by kernel_rfl)) rfl ?_
    exact HO.out _ _ rfl ((HB.out.1.setCell (Nat.le_refl _) _).setCell (Nat.le_refl _) _)
  | some a =>
    obtain ⟨lo, k⟩ := a
    obtain ⟨l0, l1, kp, kf⟩ := pt_fits h1
    have D1 := PO p _ h1 hp
    simp only at D1
    obtain ⟨q, hq⟩ : ∃ q, p + k = q := ⟨_, rfl⟩
    rw [h1] at hsp
    simp only [hq] at hsp D1
    rw [hq] at kf
    have hql : (q : Int) ≤ s.size := by omega
    have hq1 : (q : Int) ≤ 140737488351232 := by omega
    by_cases hc : l[q]? = some 45
    · have D2 := Lib.hid (fun V => HC.out q V)
      rw [decide_eq_true hc] at D2
      rw [if_pos hc] at hsp
      have hqs : q < s.size := by rw [← hln]; exact (List.getElem?_eq_some_iff.1 hc).1
      have hq2 : (q : Int) + 1 ≤ s.size := by omega
      cases h2 : ptAt (l.drop (q + 1)) with
      | none =>
        have D3 := PO (q + 1) _ h2 hqs
        rw [h2] at hsp
        have HO := OUT _ hsp
        simp only at D3 HO
        rw [Int.natCast_add, Int.natCast_one] at D3 HO
        clear CP CH HC HD PO OUT hsp hE hs hl hln h1 h2 hp kf hc hqs hq kp
        go_enter Tryd.func28, Tryd.ntmps28
        go_wp2_with fail
        refine (D1.out _ (AL _).out).mono ?_
        rintro e V1 ⟨rfl, hb1⟩
        have g1 : V1.heap[w.heap.size]? = some (.cells #[.int .i64 0, .int .i64 0] 51 (0, 0)) := (hb1.block _ (by simp)).trans (alloc_at rfl)
        have HB := Lib.hid (And.intro ((AL _).out.trans (hb1.mono (AL _).out.size)) g1)
        clear hb1 g1
        go_wp2_with fail
        refine (D2.out _).mono ?_
        rintro e V2 ⟨rfl, rfl⟩
        go_wp2_with fail
        refine (D3.out _ HB.out.1).mono ?_
        rintro e V2 ⟨rfl, hb2⟩
        have hlt := HB.out.1.size
        replace HB := Lib.hid (And.intro (HB.out.1.trans (hb2.mono HB.out.1.size)) ((hb2.block _ (by have := (Array.getElem?_eq_some_iff.1 HB.out.2).1; exact this)).trans HB.out.2))
        clear hb2 hlt
        have c0 : V2.cell? ⟨w.heap.size, 0, none⟩ = some (.int .i64 0) := by rw [Lib.cell_of_heap HB.out.2]; rfl
        have c1 : V2.cell? ⟨w.heap.size, 1, none⟩ = some (.int .i64 0) := by rw [Lib.cell_of_heap HB.out.2]; rfl
        have f0 : V2.frozen? ⟨w.heap.size, 0, none⟩ = false := Lib.frozen_of_heap HB.out.2 _
        have f1 : V2.frozen? ⟨w.heap.size, 1, none⟩ = false := Lib.frozen_of_heap HB.out.2 _
        go_wp2_with fail
        (try simp only [Exit.inBlock, Exit.then])
        refine bodyPost_ret (results_cell3 rfl _ _ w.heap.size 51 #[.int .i64 0, .int .i64 0] (0, 0) _ rfl (two_cells HB.out.2) Tryd.underlying51 rfl (by kernel_rfl)) rfl ?_
        exact HO.out _ _ rfl ((HB.out.1.setCell (Nat.le_refl _) _).setCell (Nat.le_refl _) _)
      | some b =>
        obtain ⟨hi, k2⟩ := b
        obtain ⟨m0, m1, mp, mf⟩ := pt_fits h2
        have D3 := PO (q + 1) _ h2 hqs
        rw [h2] at hsp
        simp only at D3 hsp
        obtain ⟨u, hu⟩ : ∃ u, q + 1 + k2 = u := ⟨_, rfl⟩
        rw [Int.natCast_add, Int.natCast_one] at D3
        rw [hu] at D3 hsp mf
        by_cases hlo : hi ≤ lo
        · rw [if_pos hlo] at hsp
          have HO := OUT _ hsp
          simp only at HO
          clear CP CH HC HD PO OUT hsp hE hs hl hln h1 h2 hp kf hc hqs hq kp hu mp mf
          go_enter Tryd.func28, Tryd.ntmps28
          go_wp2_with fail
          refine (D1.out _ (AL _).out).mono ?_
          rintro e V1 ⟨rfl, hb1⟩
          have g1 : V1.heap[w.heap.size]? = some (.cells #[.int .i64 0, .int .i64 0] 51 (0, 0)) := (hb1.block _ (by simp)).trans (alloc_at rfl)
          have HB := Lib.hid (And.intro ((AL _).out.trans (hb1.mono (AL _).out.size)) g1)
          clear hb1 g1
          go_wp2_with fail
          refine (D2.out _).mono ?_
          rintro e V2 ⟨rfl, rfl⟩
          go_wp2_with fail
          refine (D3.out _ HB.out.1).mono ?_
          rintro e V2 ⟨rfl, hb2⟩
          have hlt := HB.out.1.size
          replace HB := Lib.hid (And.intro (HB.out.1.trans (hb2.mono HB.out.1.size)) ((hb2.block _ (by have := (Array.getElem?_eq_some_iff.1 HB.out.2).1; exact this)).trans HB.out.2))
          clear hb2 hlt
          have c0 : V2.cell? ⟨w.heap.size, 0, none⟩ = some (.int .i64 0) := by rw [Lib.cell_of_heap HB.out.2]; rfl
          have c1 : V2.cell? ⟨w.heap.size, 1, none⟩ = some (.int .i64 0) := by rw [Lib.cell_of_heap HB.out.2]; rfl
          have f0 : V2.frozen? ⟨w.heap.size, 0, none⟩ = false := Lib.frozen_of_heap HB.out.2 _
          have f1 : V2.frozen? ⟨w.heap.size, 1, none⟩ = false := Lib.frozen_of_heap HB.out.2 _
          go_wp2_with fail
          (try simp only [Exit.inBlock, Exit.then])
          refine bodyPost_ret (results_cell3 rfl _ _ w.heap.size 51 #[.int .i64 0, .int .i64 0] (0, 0) _ rfl (two_cells HB.out.2) Tryd.underlying51 rfl (by kernel_rfl)) rfl ?_
          exact HO.out _ _ rfl ((HB.out.1.setCell (Nat.le_refl _) _).setCell (Nat.le_refl _) _)
        · rw [if_neg hlo] at hsp
          have HO := OUT _ hsp
          simp only at HO
          clear CP CH HC HD PO OUT hsp hE hs hl hln h1 h2 hp kf hc hqs hq kp hu mp mf
          go_enter Tryd.func28, Tryd.ntmps28
          go_wp2_with fail
          refine (D1.out _ (AL _).out).mono ?_
          rintro e V1 ⟨rfl, hb1⟩
          have g1 : V1.heap[w.heap.size]? = some (.cells #[.int .i64 0, .int .i64 0] 51 (0, 0)) := (hb1.block _ (by simp)).trans (alloc_at rfl)
          have HB := Lib.hid (And.intro ((AL _).out.trans (hb1.mono (AL _).out.size)) g1)
          clear hb1 g1
          go_wp2_with fail
          refine (D2.out _).mono ?_
          rintro e V2 ⟨rfl, rfl⟩
          go_wp2_with fail
          refine (D3.out _ HB.out.1).mono ?_
          rintro e V2 ⟨rfl, hb2⟩
          have hlt := HB.out.1.size
          replace HB := Lib.hid (And.intro (HB.out.1.trans (hb2.mono HB.out.1.size)) ((hb2.block _ (by have := (Array.getElem?_eq_some_iff.1 HB.out.2).1; exact this)).trans HB.out.2))
          clear hb2 hlt
          have c0 : V2.cell? ⟨w.heap.size, 0, none⟩ = some (.int .i64 0) := by rw [Lib.cell_of_heap HB.out.2]; rfl
          have c1 : V2.cell? ⟨w.heap.size, 1, none⟩ = some (.int .i64 0) := by rw [Lib.cell_of_heap HB.out.2]; rfl
          have f0 : V2.frozen? ⟨w.heap.size, 0, none⟩ = false := Lib.frozen_of_heap HB.out.2 _
          have f1 : V2.frozen? ⟨w.heap.size, 1, none⟩ = false := Lib.frozen_of_heap HB.out.2 _
          go_wp2_with fail
          (try simp only [Exit.inBlock, Exit.then])
          refine bodyPost_ret (results_cell3 rfl _ _ w.heap.size 51 #[.int .i64 lo, .int .i64 (hi + 1)] (0, 0) _ rfl (two_cells HB.out.2) Tryd.underlying51 rfl (by kernel_rfl)) rfl ?_
          exact HO.out _ _ rfl ((HB.out.1.setCell (Nat.le_refl _) _).setCell (Nat.le_refl _) _)
    · have D2 := Lib.hid (fun V => HC.out q V)
      rw [decide_eq_false hc] at D2
      rw [if_neg hc] at hsp
      have HO := OUT _ hsp
      simp only at HO
      clear CP CH HC HD PO OUT hsp hE hs hl hln h1 hp kf hc hq kp
      go_enter Tryd.func28, Tryd.ntmps28
      go_wp2_with fail
      refine (D1.out _ (AL _).out).mono ?_
      rintro e V1 ⟨rfl, hb1⟩
      have g1 : V1.heap[w.heap.size]? = some (.cells #[.int .i64 0, .int .i64 0] 51 (0, 0)) := (hb1.block _ (by simp)).trans (alloc_at rfl)
      have HB := Lib.hid (And.intro ((AL _).out.trans (hb1.mono (AL _).out.size)) g1)
      clear hb1 g1
      go_wp2_with fail
      refine (D2.out _).mono ?_
      rintro e V2 ⟨rfl, rfl⟩
      have c0 : V1.cell? ⟨w.heap.size, 0, none⟩ = some (.int .i64 0) := by rw [Lib.cell_of_heap HB.out.2]; rfl
      have c1 : V1.cell? ⟨w.heap.size, 1, none⟩ = some (.int .i64 0) := by rw [Lib.cell_of_heap HB.out.2]; rfl
      have f0 : V1.frozen? ⟨w.heap.size, 0, none⟩ = false := Lib.frozen_of_heap HB.out.2 _
      have f1 : V1.frozen? ⟨w.heap.size, 1, none⟩ = false := Lib.frozen_of_heap HB.out.2 _
      go_wp2_with fail
      (try simp only [Exit.inBlock, Exit.then])
      refine bodyPost_ret (results_cell3 rfl _ _ w.heap.size 51 #[.int .i64 lo, .int .i64 (lo + 1)] (0, 0) _ rfl (two_cells HB.out.2) Tryd.underlying51 rfl (by kernel_rfl)) rfl ?_
      exact HO.out _ _ rfl ((HB.out.1.setCell (Nat.le_refl _) _).setCell (Nat.le_refl _) _)
end Go.Proofs.YtmcmdijfdhlnaaaDoor
