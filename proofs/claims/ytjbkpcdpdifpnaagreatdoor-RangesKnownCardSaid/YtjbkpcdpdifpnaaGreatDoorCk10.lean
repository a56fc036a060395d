/- Parts of the proof of what the last text says. -/
import Derived.Test.YtjbkpcdpdifpnaaGreatDoorCk9
import Derived.Test.YtjbkpcdpdifpnaaGreatDoorCk5
import Derived.Test.YtjbkpcdpdifpnaaGreatDoorCk1
import Derived.Test.YtjbkpcdpdifpnaaGreatDoorCk7
/- parsedSpan: the span that is written at a byte. -/
namespace Go.Proofs.YtjbkpcdpdifpnaaGreatDoor
open Go Go.RowKit Go.Kt Go.Kt.Rg

theorem results_cell3 {P : Program} {fn : Func} {p a b : Tmp} {ty : TypeId} (h : fn.results = #[.cell p ty, .tmp a, .tmp b]) (tmps : Array Value) (w : World) (g : Nat) (t : TypeId) (cs : Array Value) (fr : Nat × Nat) (d : TypeDesc)
    (hp : tmps.getD p undef = .pointer (some ⟨g, 0, none⟩)) (hg : w.heap[g]? = some (.cells cs t fr))
    (hu : P.underlying ty = some d) (hd : (match d with | .struct _ | .array _ _ => true | _ => false) = true) (hi : (P.info? ty).map (·.size) = some cs.size) :
    (results fn tmps).run P w = .ok (.tuple #[.agg cs, tmps.getD a undef, tmps.getD b undef]) w := by
  have hp' : tmps[p]?.getD undef = .pointer (some ⟨g, 0, none⟩) := by simpa using hp
  simp [results, h, hp', asAddr, run_loadVar_row w g t ty cs fr d hg hu hd hi]
theorem pre_one (l : List UInt8) (q : Nat) : Lib.hasPrefix (l.drop q) [45] = decide (l[q]? = some 45) := by
  unfold Lib.hasPrefix
  rw [← Nat.add_zero q, ← List.getElem?_drop]
  cases h : l.drop q with
  | nil => simp [List.isPrefixOf]
  | cons c t =>
    by_cases hc : c = 45
    · subst hc; simp [List.isPrefixOf]
    · have hc2 : ((45 : UInt8) == c) = false := by rw [beq_eq_false_iff_ne]; exact fun h => hc h.symm
      simp [List.isPrefixOf, hc, hc2]
theorem pt_fits {l : List UInt8} {p k : Nat} {n : Int} (h : ptAt (l.drop p) = some (n, k)) : 0 ≤ n ∧ n < 1112192 ∧ 0 < k ∧ p + k ≤ l.length := by
  obtain ⟨h0, h1, rfl, t, ht⟩ := ptAt_sound h
  have hp := printP_pos (pntI n)
  have := congrArg List.length ht
  rw [List.length_drop, List.length_append] at this
  unfold allN at h1
  exact ⟨h0, h1, hp, by omega⟩
def SpOut (l : List UInt8) (p : Nat) (e : Ending) : Prop :=
  match spAt l p with
  | .ok (x, q) => e = .returned (.tuple #[.agg #[.int .i64 x.1, .int .i64 x.2], .int .i64 (q : Nat), .nilIface])
  | .error (no, q) => e = .returned (.tuple #[.agg #[.int .i64 0, .int .i64 0], .int .i64 0, faultV no (q : Nat)])

theorem two_cells {V : World} {g : Nat} {a b x y : Value} {T : TypeId} (h : V.heap[g]? = some (.cells #[a, b] T (0, 0))) :
    ((V.setCell ⟨g, 0, none⟩ x).setCell ⟨g, 1, none⟩ y).heap[g]? = some (.cells #[x, y] T (0, 0)) := by
  have h1 := heap_setCell_same V g 0 _ _ x h
  have h2 := heap_setCell_same (V.setCell ⟨g, 0, none⟩ x) g 1 _ _ y h1
  simpa using h2

set_option maxRecDepth 100000 in
set_option maxHeartbeats 4000000 in
theorem rps_any (s : ByteArray) (p : Nat) (w : World) (hp : p ≤ s.size) (hs : s.size ≤ 140737488351232) (hE : PEnv w) :
    Calls Tryz.prog 81 #[.string s, .int .i64 p] w fun e w' => SpOut s.data.toList p e ∧ Below w.heap.size w w' := by
  have hln : s.data.toList.length = s.size := (Lib.size_eq s).symm
  have CP := Lib.hid (fun (q : Nat) V (hq : q ≤ s.size) (hb : Below w.heap.size w V) => rpp_any s q V hq hs (hE.below hb))
  have CH := Lib.hid (fun (q : Nat) V => Tryz.strings_HasPrefix (s.extract q s.size) ⟨#[45]⟩ V)
  simp only [Lib.Pa.extract_from] at CH
  obtain ⟨l, hl⟩ : ∃ l, s.data.toList = l := ⟨_, rfl⟩
  rw [hl] at hln ⊢
  have HD : ∀ q, (⟨(s.data.toList.drop q).toArray⟩ : ByteArray) = s.extract q s.size := fun q => (Lib.Pa.extract_from s q).symm
  simp only [HD] at CH
  have HC : Hid (∀ q V, Calls Tryz.prog 80 #[.string (s.extract q s.size), .string ⟨#[45]⟩] V fun e w' => e = .returned (.bool (decide (l[q]? = some 45))) ∧ V = w') := Lib.hid fun q V => by
    refine (CH.out q V).mono ?_
    rintro e w' ⟨rfl, rfl⟩
    refine ⟨?_, rfl⟩
    rw [← pre_one l q, ← hl]
  have PO : ∀ (q : Nat) (o : Option (Int × Nat)), ptAt (l.drop q) = o → q ≤ s.size → Hid (∀ V, Below w.heap.size w V → Calls Tryz.prog 127 #[.string s, .int .i64 q] V fun e w' => (match o with
    | some (n, k) => e = .returned (.tuple #[.int .i64 n, .int .i64 ((q + k : Nat) : Int), .nilIface])
    | none => e = .returned (.tuple #[.int .i64 0, .int .i64 0, faultV 9 (q : Nat)])) ∧ Below V.heap.size V w') := fun q o ho hq => Lib.hid fun V hV => by
    refine (CP.out q V hq hV).mono ?_
    rintro e w' ⟨h, hb⟩
    unfold PtOut at h
    rw [hl, ho] at h
    exact ⟨h, hb⟩
  have OUT : ∀ (x : Except (Int × Nat) (Run × Nat)), spAt l p = x → Hid (∀ e w', (match x with
    | .ok (x, q) => e = .returned (.tuple #[.agg #[.int .i64 x.1, .int .i64 x.2], .int .i64 (q : Nat), .nilIface])
    | .error (no, q) => e = .returned (.tuple #[.agg #[.int .i64 0, .int .i64 0], .int .i64 0, faultV no (q : Nat)])) → Below w.heap.size w w' → SpOut l p e ∧ Below w.heap.size w w') := fun x hx => Lib.hid fun e w' h hb => ⟨by unfold SpOut; rw [hx]; exact h, hb⟩
  have hpl : (p : Int) ≤ s.size := by omega
  have hp1 : (p : Int) ≤ 140737488351232 := by omega
  have hsp : spAt l p = match ptAt (l.drop p) with
    | none => .error (9, p)
    | some (lo, k) => if l[p + k]? = some 45 then match ptAt (l.drop (p + k + 1)) with
        | none => .error (9, p + k + 1)
        | some (hi, k2) => if hi ≤ lo then .error (4, p) else .ok ((lo, hi + 1), p + k + 1 + k2)
      else .ok ((lo, lo + 1), p + k) := rfl
  have AL : ∀ o, Hid (Below w.heap.size w (w.alloc o)) := fun o => Lib.hid ((Below.refl _ _).alloc (Nat.le_refl _) _)
  cases h1 : ptAt (l.drop p) with
  | none =>
    have D1 := PO p _ h1 hp
    have HO := OUT _ (by rw [hsp, h1])
    simp only at D1 HO
    clear CP CH HC HD PO OUT hsp hE hs hl hln h1 hp
    go_enter Tryz.func81, Tryz.ntmps81
    go_wp2_with fail
    refine (D1.out _ (AL _).out).mono ?_
    rintro e V1 ⟨rfl, hb1⟩
    have g1 : V1.heap[w.heap.size]? = some (.cells #[.int .i64 0, .int .i64 0] 98 (0, 0)) := (hb1.block _ (by simp)).trans (alloc_at rfl)
    have HB := Lib.hid (And.intro ((AL _).out.trans (hb1.mono (AL _).out.size)) g1)
    clear hb1 g1
    have c0 : V1.cell? ⟨w.heap.size, 0, none⟩ = some (.int .i64 0) := by rw [Lib.cell_of_heap HB.out.2]; rfl
    have c1 : V1.cell? ⟨w.heap.size, 1, none⟩ = some (.int .i64 0) := by rw [Lib.cell_of_heap HB.out.2]; rfl
    have f0 : V1.frozen? ⟨w.heap.size, 0, none⟩ = false := Lib.frozen_of_heap HB.out.2 _
    have f1 : V1.frozen? ⟨w.heap.size, 1, none⟩ = false := Lib.frozen_of_heap HB.out.2 _
    go_wp2_with fail
    (try simp only [Exit.inBlock, Exit.then])
    refine bodyPost_ret (results_cell3 rfl _ _ w.heap.size 98 #[.int .i64 0, .int .i64 0] (0, 0) _ rfl (two_cells HB.out.2) Tryz.underlying98 rfl (by kernel_rfl)) rfl ?_
    exact HO.out _ _ rfl ((HB.out.1.setCell (Nat.le_refl _) _).setCell (Nat.le_refl _) _)
  | some a =>
    obtain ⟨lo, k⟩ := a
    obtain ⟨l0, l1, kp, kf⟩ := pt_fits h1
    have D1 := PO p _ h1 hp
    simp only at D1
    obtain ⟨q, hq⟩ : ∃ q, p + k = q := ⟨_, rfl⟩
    rw [h1] at hsp
    simp only [hq] at hsp D1
    rw [hq] at kf
    have hql : (q : Int) ≤ s.size := by omega
    have hq1 : (q : Int) ≤ 140737488351232 := by omega
    by_cases hc : l[q]? = some 45
    · have D2 := Lib.hid (fun V => HC.out q V)
      rw [decide_eq_true hc] at D2
      rw [if_pos hc] at hsp
      have hqs : q < s.size := by rw [← hln]; exact (List.getElem?_eq_some_iff.1 hc).1
      have hq2 : (q : Int) + 1 ≤ s.size := by omega
      cases h2 : ptAt (l.drop (q + 1)) with
      | none =>
        have D3 := PO (q + 1) _ h2 hqs
        rw [h2] at hsp
        have HO := OUT _ hsp
        simp only at D3 HO
        rw [Int.natCast_add, Int.natCast_one] at D3 HO
        clear CP CH HC HD PO OUT hsp hE hs hl hln h1 h2 hp kf hc hqs hq kp
        go_enter Tryz.func81, Tryz.ntmps81
        go_wp2_with fail
        refine (D1.out _ (AL _).out).mono ?_
        rintro e V1 ⟨rfl, hb1⟩
        have g1 : V1.heap[w.heap.size]? = some (.cells #[.int .i64 0, .int .i64 0] 98 (0, 0)) := (hb1.block _ (by simp)).trans (alloc_at rfl)
        have HB := Lib.hid (And.intro ((AL _).out.trans (hb1.mono (AL _).out.size)) g1)
        clear hb1 g1
        go_wp2_with fail
        refine (D2.out _).mono ?_
        rintro e V2 ⟨rfl, rfl⟩
        go_wp2_with fail
        refine (D3.out _ HB.out.1).mono ?_
        rintro e V2 ⟨rfl, hb2⟩
        have hlt := HB.out.1.size
        replace HB := Lib.hid (And.intro (HB.out.1.trans (hb2.mono HB.out.1.size)) ((hb2.block _ (by have := (Array.getElem?_eq_some_iff.1 HB.out.2).1; exact this)).trans HB.out.2))
        clear hb2 hlt
        have c0 : V2.cell? ⟨w.heap.size, 0, none⟩ = some (.int .i64 0) := by rw [Lib.cell_of_heap HB.out.2]; rfl
        have c1 : V2.cell? ⟨w.heap.size, 1, none⟩ = some (.int .i64 0) := by rw [Lib.cell_of_heap HB.out.2]; rfl
        have f0 : V2.frozen? ⟨w.heap.size, 0, none⟩ = false := Lib.frozen_of_heap HB.out.2 _
        have f1 : V2.frozen? ⟨w.heap.size, 1, none⟩ = false := Lib.frozen_of_heap HB.out.2 _
        go_wp2_with fail
        (try simp only [Exit.inBlock, Exit.then])
        refine bodyPost_ret (results_cell3 rfl _ _ w.heap.size 98 #[.int .i64 0, .int .i64 0] (0, 0) _ rfl (two_cells HB.out.2) Tryz.underlying98 rfl (by kernel_rfl)) rfl ?_
        exact HO.out _ _ rfl ((HB.out.1.setCell (Nat.le_refl _) _).setCell (Nat.le_refl _) _)
      | some b =>
        obtain ⟨hi, k2⟩ := b
        obtain ⟨m0, m1, mp, mf⟩ := pt_fits h2
        have D3 := PO (q + 1) _ h2 hqs
        rw [h2] at hsp
        simp only at D3 hsp
        obtain ⟨u, hu⟩ : ∃ u, q + 1 + k2 = u := ⟨_, rfl⟩
        rw [Int.natCast_add, Int.natCast_one] at D3
        rw [hu] at D3 hsp mf
        by_cases hlo : hi ≤ lo
        · rw [if_pos hlo] at hsp
          have HO := OUT _ hsp
          simp only at HO
          clear CP CH HC HD PO OUT hsp hE hs hl hln h1 h2 hp kf hc hqs hq kp hu mp mf
          go_enter Tryz.func81, Tryz.ntmps81
          go_wp2_with fail
          refine (D1.out _ (AL _).out).mono ?_
          rintro e V1 ⟨rfl, hb1⟩
          have g1 : V1.heap[w.heap.size]? = some (.cells #[.int .i64 0, .int .i64 0] 98 (0, 0)) := (hb1.block _ (by simp)).trans (alloc_at rfl)
          have HB := Lib.hid (And.intro ((AL _).out.trans (hb1.mono (AL _).out.size)) g1)
          clear hb1 g1
          go_wp2_with fail
          refine (D2.out _).mono ?_
          rintro e V2 ⟨rfl, rfl⟩
          go_wp2_with fail
          refine (D3.out _ HB.out.1).mono ?_
          rintro e V2 ⟨rfl, hb2⟩
          have hlt := HB.out.1.size
          replace HB := Lib.hid (And.intro (HB.out.1.trans (hb2.mono HB.out.1.size)) ((hb2.block _ (by have := (Array.getElem?_eq_some_iff.1 HB.out.2).1; exact this)).trans HB.out.2))
          clear hb2 hlt
          have c0 : V2.cell? ⟨w.heap.size, 0, none⟩ = some (.int .i64 0) := by rw [Lib.cell_of_heap HB.out.2]; rfl
          have c1 : V2.cell? ⟨w.heap.size, 1, none⟩ = some (.int .i64 0) := by rw [Lib.cell_of_heap HB.out.2]; rfl
          have f0 : V2.frozen? ⟨w.heap.size, 0, none⟩ = false := Lib.frozen_of_heap HB.out.2 _
          have f1 : V2.frozen? ⟨w.heap.size, 1, none⟩ = false := Lib.frozen_of_heap HB.out.2 _
          go_wp2_with fail
          (try simp only [Exit.inBlock, Exit.then])
          refine bodyPost_ret (results_cell3 rfl _ _ w.heap.size 98 #[.int .i64 0, .int .i64 0] (0, 0) _ rfl (two_cells HB.out.2) Tryz.underlying98 rfl (by kernel_rfl)) rfl ?_
          exact HO.out _ _ rfl ((HB.out.1.setCell (Nat.le_refl _) _).setCell (Nat.le_refl _) _)
        · rw [if_neg hlo] at hsp
          have HO := OUT _ hsp
          simp only at HO
          clear CP CH HC HD PO OUT hsp hE hs hl hln h1 h2 hp kf hc hqs hq kp hu mp mf
          go_enter Tryz.func81, Tryz.ntmps81
          go_wp2_with fail
          refine (D1.out _ (AL _).out).mono ?_
          rintro e V1 ⟨rfl, hb1⟩
          have g1 : V1.heap[w.heap.size]? = some (.cells #[.int .i64 0, .int .i64 0] 98 (0, 0)) := (hb1.block _ (by simp)).trans (alloc_at rfl)
          have HB := Lib.hid (And.intro ((AL _).out.trans (hb1.mono (AL _).out.size)) g1)
          clear hb1 g1
          go_wp2_with fail
          refine (D2.out _).mono ?_
          rintro e V2 ⟨rfl, rfl⟩
          go_wp2_with fail
          refine (D3.out _ HB.out.1).mono ?_
          rintro e V2 ⟨rfl, hb2⟩
          have hlt := HB.out.1.size
          replace HB := Lib.hid (And.intro (HB.out.1.trans (hb2.mono HB.out.1.size)) ((hb2.block _ (by have := (Array.getElem?_eq_some_iff.1 HB.out.2).1; exact this)).trans HB.out.2))
          clear hb2 hlt
          have c0 : V2.cell? ⟨w.heap.size, 0, none⟩ = some (.int .i64 0) := by rw [Lib.cell_of_heap HB.out.2]; rfl
          have c1 : V2.cell? ⟨w.heap.size, 1, none⟩ = some (.int .i64 0) := by rw [Lib.cell_of_heap HB.out.2]; rfl
          have f0 : V2.frozen? ⟨w.heap.size, 0, none⟩ = false := Lib.frozen_of_heap HB.out.2 _
          have f1 : V2.frozen? ⟨w.heap.size, 1, none⟩ = false := Lib.frozen_of_heap HB.out.2 _
          go_wp2_with fail
          (try simp only [Exit.inBlock, Exit.then])
          refine bodyPost_ret (results_cell3 rfl _ _ w.heap.size 98 #[.int .i64 lo, .int .i64 (hi + 1)] (0, 0) _ rfl (two_cells HB.out.2) Tryz.underlying98 rfl (by kernel_rfl)) rfl ?_
          exact HO.out _ _ rfl ((HB.out.1.setCell (Nat.le_refl _) _).setCell (Nat.le_refl _) _)
    · have D2 := Lib.hid (fun V => HC.out q V)
      rw [decide_eq_false hc] at D2
      rw [if_neg hc] at hsp
      have HO := OUT _ hsp
      simp only at HO
      clear CP CH HC HD PO OUT hsp hE hs hl hln h1 hp kf hc hq kp
      go_enter Tryz.func81, Tryz.ntmps81
      go_wp2_with fail
      refine (D1.out _ (AL _).out).mono ?_
      rintro e V1 ⟨rfl, hb1⟩
      have g1 : V1.heap[w.heap.size]? = some (.cells #[.int .i64 0, .int .i64 0] 98 (0, 0)) := (hb1.block _ (by simp)).trans (alloc_at rfl)
      have HB := Lib.hid (And.intro ((AL _).out.trans (hb1.mono (AL _).out.size)) g1)
      clear hb1 g1
      go_wp2_with fail
      refine (D2.out _).mono ?_
      rintro e V2 ⟨rfl, rfl⟩
      have c0 : V1.cell? ⟨w.heap.size, 0, none⟩ = some (.int .i64 0) := by rw [Lib.cell_of_heap HB.out.2]; rfl
      have c1 : V1.cell? ⟨w.heap.size, 1, none⟩ = some (.int .i64 0) := by rw [Lib.cell_of_heap HB.out.2]; rfl
      have f0 : V1.frozen? ⟨w.heap.size, 0, none⟩ = false := Lib.frozen_of_heap HB.out.2 _
      have f1 : V1.frozen? ⟨w.heap.size, 1, none⟩ = false := Lib.frozen_of_heap HB.out.2 _
      go_wp2_with fail
      (try simp only [Exit.inBlock, Exit.then])
      refine bodyPost_ret (results_cell3 rfl _ _ w.heap.size 98 #[.int .i64 lo, .int .i64 (lo + 1)] (0, 0) _ rfl (two_cells HB.out.2) Tryz.underlying98 rfl (by kernel_rfl)) rfl ?_
      exact HO.out _ _ rfl ((HB.out.1.setCell (Nat.le_refl _) _).setCell (Nat.le_refl _) _)
end Go.Proofs.YtjbkpcdpdifpnaaGreatDoor
/- The document's rows in memory; the worlds of its Parse and Of. -/
namespace Go.Kt
open Go
section
variable {P : Program} {o : Oper} {a : Act} {w w' : World}
theorem exec_asg {x : Operand} {u : Value} (ho : o.op = .assign x) (hx : a.eval x = u) : (execOp a.eval o).run P w = .ok (.value u) w := by
  unfold execOp; rw [ho]; simp only [hx]; rfl
theorem exec_ix {t : TypeId} {x y : Operand} {u1 u2 v : Value} (ho : o.op = .index t x y) (hx : a.eval x = u1) (hy : a.eval y = u2) (h : (Instr.index t u1 u2).run P w = .ok v w') : (execOp a.eval o).run P w = .ok (.value v) w' := by
  unfold execOp; rw [ho]; simp only [hx, hy]; exact run_val h
theorem exec_sliceS {t : TypeId} {x lo hi : Operand} {u u1 u2 v : Value} (ho : o.op = .slice t x (some lo) (some hi) none) (hx : a.eval x = u) (h1 : a.eval lo = u1) (h2 : a.eval hi = u2) (h : (Instr.sliceAt t u (some u1) (some u2) none).run P w = .ok v w') : (execOp a.eval o).run P w = .ok (.value v) w' := by
  unfold execOp; rw [ho]; simp only [Option.map_some, Option.map_none, hx, h1, h2]; exact run_val h
end
end Go.Kt
namespace Go.Proofs.YtjbkpcdpdifpnaaGreatDoor
open Go Go.RowKit Go.Kt Go.Kt.Rg
attribute [local go_sem] Oper.semAt_some

theorem rdV_fits {l : List UInt8} {p k : Nat} {n : Int} (h : rdV (l.drop p) = (n, k)) (h0 : 0 ≤ n) : n < 1112192 ∧ 0 < k ∧ p + k ≤ l.length := by
  unfold rdV at h
  cases hp : ptAt (l.drop p) with
  | none =>
    rw [hp] at h
    have h : ((-1 : Int), (0 : Nat)) = (n, k) := h
    injection h with h1 _
    omega
  | some x =>
    rw [hp] at h
    have h : x = (n, k) := h
    subst h
    exact ⟨(pt_fits hp).2.1, (pt_fits hp).2.2.1, (pt_fits hp).2.2.2⟩
def dnR (x : Run) : Run := (x.1, x.2 - 1)
theorem tinfoTwo : (Tryz.prog.info? 103).map (fun i => (i.zero, i.size, i.bytes)) = some (some (.agg #[.int .i64 0, .int .i64 0]), 2, 16) := by kernel_rfl
theorem append_two {Y : Nat → Prop} {ao : Option Addr} {n cp : Nat} {l : List Run} {W : World} (hown : OwnS Y 103 2 (.slice ao n cp) n (encR l) W) (hY : ∀ y, W.heap.size ≤ y → Y y) (x : Run) (hn : n ≤ 2199023255552) :
    ∃ g cap w', (∀ ty, (Builtin.append_ #[42, 42] ty #[.slice ao n cp, .slice (some ⟨W.heap.size, 0, none⟩) 1 1]).run Tryz.prog (W.alloc (.cells #[.int .i64 x.1, .int .i64 x.2] 103)) = .ok (.slice (some ⟨g, 0, none⟩) (n + 1) cap) w') ∧
      OwnS Y 103 2 (.slice (some ⟨g, 0, none⟩) (n + 1) cap) (n + 1) (encR (l ++ [x])) w' ∧ W.heap.size < w'.heap.size ∧ Keep (fun b => (Value.slice ao n cp).ownBlock = some b) W w' := by
  obtain ⟨g, cap, w2, hrun, hown2, hk2, hg2, hz2⟩ := append_x (P := Tryz.prog) W 42 103 Tryz.underlying42 tinfoTwo rfl (by omega) hown [.int .i64 x.1, .int .i64 x.2] rfl
    (by intro u hu; simp at hu; rcases hu with rfl | rfl <;> rfl) (by unfold maxLen; omega) (by omega)
  have hge : Y g := by
    rcases hg2 with h | h
    · exact hown.2 g h
    · exact hY g (by omega)
  refine ⟨g, cap, w2, hrun, ?_, hz2, hk2⟩
  rw [encR_snoc]; exact hown2.weaken (fun b h => by subst h; exact hge)
theorem slr_own {Y : Nat → Prop} {e : TypeId} {v : Value} {n : Nat} {l : List Run} {W : World} (h : OwnS Y e 2 v n (encR l) W) (hn : n = l.length) : SlR W v l := by
  subst hn
  rcases h.1.2 with ⟨hv, hn⟩ | ⟨g, cap, cur, hv, rest⟩
  · exact ⟨none, 0, by rw [hv, hn], .inl (List.eq_nil_of_length_eq_zero hn)⟩
  · refine ⟨_, cap, hv, .inr ⟨g, rfl, fun i x hx => ?_⟩⟩
    subst hv
    have e := encR_get l i x hx
    have c1 := h.1.cells (g := g) rfl _ _ e.1
    have c2 := h.1.cells (g := g) rfl _ _ e.2
    rw [Addr.add_lit, Nat.zero_add] at c1 c2
    exact ⟨c1, c2⟩
theorem own_nx {Y : Nat → Prop} {e : TypeId} {size n : Nat} {v : Value} {xs : List Value} {A B : World} (h : OwnS Y e size v n xs A) (hb : Below A.heap.size A B) : OwnS Y e size v n xs B := h.keep (X := fun _ => False) (.of_all hb) (fun _ h => h.elim)
theorem own_bx {Y : Nat → Prop} {e : TypeId} {size n : Nat} {v : Value} {xs : List Value} {A : World} (h : OwnS Y e size v n xs A) : OwnS (fun b => Y b ∧ b < A.heap.size) e size v n xs A := ⟨h.1, fun b hb => ⟨h.2 b hb, (h.1.lt b hb).2⟩⟩
theorem own_set {Y : Nat → Prop} {e : TypeId} {size n : Nat} {v : Value} {xs : List Value} {W : World} (h : OwnS Y e size v n xs W) {g o : Nat} (u : Value) (hc : ¬ Y g) : OwnS Y e size v n xs (W.setCell ⟨g, o, none⟩ u) :=
  h.keep (X := fun b => b = g) (Keep.setCell (X := fun b => b = g) (Keep.refl _ _) (p := ⟨g, o, none⟩) rfl u) (fun b hb => by subst hb; exact hc)
def PW (w : World) (v : Value) (W : World) : Prop :=
  W.heap[w.heap.size]? = some (.cells #[.slice none 0 0] 44 (0, 0)) ∧ W.heap[w.heap.size + 1]? = some (.cells #[v] 44 (0, 0)) ∧ Below w.heap.size w W ∧ w.heap.size + 2 ≤ W.heap.size
theorem PW.next {w V V' : World} {v : Value} (h : PW w v V) (hb : Below V.heap.size V V') : PW w v V' :=
  ⟨(hb.block _ (by have := h.2.2.2; omega)).trans h.1, (hb.block _ (by have := h.2.2.2; omega)).trans h.2.1, h.2.2.1.trans (hb.mono h.2.2.1.size), Nat.le_trans h.2.2.2 hb.size⟩
theorem PW.start (w : World) : PW w (.slice none 0 0) ((w.alloc (.cells #[.slice none 0 0] 44)).alloc (.cells #[.slice none 0 0] 44)) :=
  ⟨alloc_old (alloc_at rfl), alloc_at (by simp), ((Below.refl _ _).alloc (Nat.le_refl _) _).alloc (by simp) _, by simp⟩
theorem one_cell {V : World} {g : Nat} {a x : Value} {T : TypeId} (h : V.heap[g]? = some (.cells #[a] T (0, 0))) : (V.setCell ⟨g, 0, none⟩ x).heap[g]? = some (.cells #[x] T (0, 0)) := by
  have h1 := heap_setCell_same V g 0 _ _ x h
  simpa using h1
theorem PW.app {w V W2 : World} {ao : Option Addr} {n cp : Nat} {v' : Value} (h : PW w (.slice ao n cp) V) (hY : ∀ b, (Value.slice ao n cp).ownBlock = some b → w.heap.size + 2 ≤ b) (hk : Keep (fun b => (Value.slice ao n cp).ownBlock = some b) V W2) (hz : V.heap.size < W2.heap.size) :
    W2.heap[w.heap.size + 1]? = some (.cells #[.slice ao n cp] 44 (0, 0)) ∧ PW w v' (W2.setCell ⟨w.heap.size + 1, 0, none⟩ v') := by
  have hb2 : Below (w.heap.size + 2) V W2 := hk.below h.2.2.2 hY
  have k0 : W2.heap[w.heap.size]? = some (.cells #[.slice none 0 0] 44 (0, 0)) := (hb2.block _ (by omega)).trans h.1
  have k1 : W2.heap[w.heap.size + 1]? = some (.cells #[.slice ao n cp] 44 (0, 0)) := (hb2.block _ (by omega)).trans h.2.1
  have hbw : Below w.heap.size w W2 := h.2.2.1.trans (hb2.mono (by omega))
  have hb3 : Below (w.heap.size + 1) W2 (W2.setCell ⟨w.heap.size + 1, 0, none⟩ v') := (Below.refl (w.heap.size + 1) W2).setCell (p := ⟨w.heap.size + 1, 0, none⟩) (Nat.le_refl _) v'
  exact ⟨k1, (hb3.block _ (by omega)).trans k0, one_cell k1, hbw.trans (hb3.mono (by omega)), by have := hb3.size; have := h.2.2.2; omega⟩

end Go.Proofs.YtjbkpcdpdifpnaaGreatDoor
/- What is the same of any program: an iterator that lays memory of its own between rounds, and the loop over it. -/
namespace Go.Kt
open Go Go.RowKit
variable {P : Program}

def Slim {β : Type} (J : β → (Nat → Prop) → World → Prop) : Prop := ∀ s Y W, J s Y W → J s (fun b => Y b ∧ b < W.heap.size) W
def Iter2 {α : Type} (P : Program) (gf : Nat) (lb : Array Value) (encs : α → Array Value) (L : List α) (Nd : Nat → Prop) (w0 : World) : Prop :=
  ∀ (l : Nat) (X : Nat → Prop) (J Jx : List α → (Nat → Prop) → World → Prop) (W : World),
    (∀ b, Nd b → ¬ X b) → (∀ b, X b → b < W.heap.size) → (∀ b, Nd b → W.heap[b]? = w0.heap[b]?) → w0.heap.size ≤ W.heap.size →
    Low W.heap.size J → Low W.heap.size Jx → Slim J →
    (∀ pre x Y W1, pre ++ [x] <+: L → J pre Y W1 → W.heap.size ≤ W1.heap.size → (∀ b, Y b → W.heap.size ≤ b) → YieldAt Fence.wide 0 P l (encs x) W1 fun e W' =>
      ∃ Y', Keep (fun b => X b ∨ Y b) W1 W' ∧ (∀ b, Y' b → Y b ∨ W1.heap.size ≤ b) ∧ ((e = .returned (.bool true) ∧ J (pre ++ [x]) Y' W') ∨ (e = .returned (.bool false) ∧ Jx (pre ++ [x]) Y' W'))) →
    J [] (fun _ => False) W →
    Calls P gf (#[.func (.yield l) #[] #[]] ++ lb) W fun e W' => (∃ v, e = .returned v) ∧ Keep X W W' ∧ ((∃ Y, (∀ b, Y b → W.heap.size ≤ b) ∧ J L Y W') ∨ ∃ pre Y, pre <+: L ∧ (∀ b, Y b → W.heap.size ≤ b) ∧ Jx pre Y W')

theorem loop_core2 {α : Type} {F : Fence} {ps : Array Tmp} {assign body : Code} {Q : Exit → Act → World → Prop} {a a' : Act} {w W1 : World}
    {gf : Nat} {lb : Array Value} {encs : α → Array Value} {L : List α} {Nd X : Nat → Prop} {w0 : World} (hit : Iter2 P gf lb encs L Nd w0)
    (hps : ∀ x, (encs x).size = ps.size) (l : Nat) (rec : LoopState → Option Code → Loop) (fn : FuncId) (D : Nat)
    (hrec : ∀ st pe, rec st pe = { state := st, pending := pe, fn, tmps := a.tmps, params := ps, assign, body, defers := D })
    (hX : ∀ b, X b → b < w.heap.size) (hNd : ∀ b, Nd b → ¬ X b ∧ b < w.heap.size) (hNdw : ∀ b, Nd b → w.heap[b]? = w0.heap[b]?) (hw0 : w0.heap.size ≤ w.heap.size)
    (hl : w.heap.size ≤ l) (hL1 : W1.heap[l]? = some (.loop (rec .ready none))) (hbw : Below w.heap.size w W1)
    (I : List α → (Nat → Prop) → World → Prop) (Ix : Code → List α → (Nat → Prop) → World → Prop) (hI : Low w.heap.size I) (hSI : Slim I) (hIx : ∀ c, Low w.heap.size (Ix c)) (h0 : I [] (fun _ => False) w)
    (hround : Round P ps assign body a.tmps encs L X I Ix w l)
    (hdone : ∀ Y W, I L Y W → (∀ b, Y b → W1.heap.size ≤ b) → Keep X w W → Keep (fun b => X b ∨ b = l) W1 W → Q .normal a' W)
    (hstop : ∀ c pre Y W, pre <+: L → Ix c pre Y W → (∀ b, Y b → W1.heap.size ≤ b) → Keep X w W → Keep (fun b => X b ∨ b = l) W1 W → c.wpIn F 0 P Q a' W) :
    Calls P gf (#[.func (.yield l) #[] #[]] ++ lb) W1 (rangePost F 0 P l Q a') := by
  have hlt1 : l < W1.heap.size := (Array.getElem?_eq_some_iff.1 hL1).1
  have hB1 : w.heap.size ≤ W1.heap.size := hbw.size
  have hkw : Keep X w W1 := .of_all hbw
  -- a step that touches nothing below W1's heap's end but what is not of Y
  have low1 : ∀ {Y : Nat → Prop} {A B : World}, Keep (fun b => W1.heap.size ≤ b ∧ ¬ Y b) A B → Keep (fun b => w.heap.size ≤ b ∧ ¬ Y b) A B := fun h => h.weaken fun _ _ hb => ⟨Nat.le_trans hB1 hb.1, hb.2⟩
  have lowX : ∀ {Y : Nat → Prop} {A B : World}, Keep (fun b => W1.heap.size ≤ b ∧ ¬ Y b) A B → Keep X w A → Keep X w B := fun h k =>
    ⟨h.os.trans k.os, h.tape.trans k.tape, h.output.trans k.output, Nat.le_trans k.size h.size, fun b hb hx => (h.same b (Nat.lt_of_lt_of_le hb k.size) (fun hy => by have := hy.1; omega)).trans (k.same b hb hx)⟩
  have lowl : ∀ {Y : Nat → Prop} {A B : World} {o : Obj}, Keep (fun b => W1.heap.size ≤ b ∧ ¬ Y b) A B → A.heap[l]? = some o → B.heap[l]? = some o := fun h ho => h.heap ho (fun hy => by have := hy.1; omega)
  -- the law's own turn of its record
  have turn : ∀ {Y : Nat → Prop} (W : World) (o : Obj), (∀ b, Y b → W1.heap.size ≤ b) → Keep (fun b => w.heap.size ≤ b ∧ ¬ Y b) W (W.putObj l o) := fun W o hY => (Keep.refl _ W).putObj (.inl ⟨hl, fun hy => by have := hY l hy; omega⟩) o
  refine (hit l (fun b => X b ∨ b = l) (fun pre Y W => (∀ b, Y b → W1.heap.size ≤ b) ∧ I pre Y W ∧ Keep X w W ∧ W.heap[l]? = some (.loop (rec .ready none)))
    (fun pre Y W => (∀ b, Y b → W1.heap.size ≤ b) ∧ ∃ c, Ix c pre Y W ∧ Keep X w W ∧ W.heap[l]? = some (.loop (rec .done (some c)))) W1
    (fun b hb => by have := hNd b hb; rintro (h | h); exact this.1 h; omega)
    (fun b hb => by rcases hb with hb | hb; have := hX b hb; omega; omega)
    (fun b hb => (hkw.same b (hNd b hb).2 (hNd b hb).1).trans (hNdw b hb)) (by omega)
    (fun s Y A B hb ⟨hY, h1, h2, h3⟩ => ⟨hY, hI s Y A B (low1 hb) h1, lowX hb h2, lowl hb h3⟩)
    (fun s Y A B hb ⟨hY, c, h1, h2, h3⟩ => ⟨hY, c, hIx c s Y A B (low1 hb) h1, lowX hb h2, lowl hb h3⟩)
    (fun s Y A ⟨hY, h1, h2, h3⟩ => ⟨fun b hb => hY b hb.1, hSI s Y A h1, h2, h3⟩)
    ?_ ⟨fun _ h => h.elim, hI _ _ _ _ (.of_all hbw) h0, hkw, hL1⟩).mono ?_
  · rintro pre x Y W hpre ⟨hY, hi, hk, hl3⟩ hsz _
    have hlt : l < W.heap.size := (Array.getElem?_eq_some_iff.1 hl3).1
    have hYl : ∀ b, Y b → w.heap.size ≤ b ∧ b ≠ l := fun b hb => by have := hY b hb; omega
    have hy := run_yield (P := P) (args := encs x) hl3 (by rw [hrec]; exact hps x)
    rw [hrec] at hy
    refine ⟨fn, _, assign, body, hy, roundIn_of_wpIn trivial (wpIn_mono (hround pre x Y W hpre hi hk hYl hlt ⟨_, hl3⟩) ?_)⟩
    intro e a₁ w₁ h
    cases e with
    | normal =>
      obtain ⟨hk1, hb1⟩ := h
      have hl4 : w₁.heap[l]? = some (.loop (rec .ready none)) := hk1.heap hl3 (fun hx => hx)
      refine ⟨_, run_beginRound hl4 (by rw [hrec]), ?_⟩
      have hlt4 : l < w₁.heap.size := (Array.getElem?_eq_some_iff.1 hl4).1
      have hi1 : I pre Y w₁ := hI _ _ _ _ (hk1.weaken (fun _ _ h => h.elim)) hi
      have hi2 := hI _ _ _ _ (turn (Y := Y) w₁ (.loop { rec .ready none with state := .busy }) hY) hi1
      have hkw1 : Keep X w (w₁.putObj l (.loop { rec .ready none with state := .busy })) := (hk.trans (hk1.weaken fun _ _ h => h.elim)).putObj (.inr hl) _
      have hl5 : (w₁.putObj l (.loop { rec .ready none with state := .busy })).heap[l]? = some (.loop { rec .ready none with state := .busy }) := World.putObj_heap_same hlt4
      refine wpIn_mono (hb1 _ ((Keep.refl (fun b => b = l) w₁).putObj (.inl rfl) _) hkw1 hi2 ⟨_, hl5⟩) ?_
      have hX2 : Keep (fun b => (X b ∨ b = l) ∨ Y b) W (w₁.putObj l (.loop { rec .ready none with state := .busy })) := (hk1.weaken (fun _ _ h => h.elim)).putObj (.inl (.inl (.inr rfl))) _
      have hsz2 : W.heap.size ≤ (w₁.putObj l (.loop { rec .ready none with state := .busy })).heap.size := hX2.size
      have fin : ∀ (jump : Option Code) (W3 : World) (I' : List α → (Nat → Prop) → World → Prop), Low w.heap.size I' → Left X Y I' (pre ++ [x]) (w₁.putObj l (.loop { rec .ready none with state := .busy })) W3 →
          (Instr.endRound l jump).run P W3 = .ok (.bool jump.isNone) (W3.putObj l (.loop (rec (if jump.isNone then .ready else .done) jump))) ∧
          (W3.putObj l (.loop (rec (if jump.isNone then .ready else .done) jump))).heap[l]? = some (.loop (rec (if jump.isNone then .ready else .done) jump)) ∧
          ∃ Y', (∀ b, Y' b → W1.heap.size ≤ b) ∧ (∀ b, Y' b → Y b ∨ W.heap.size ≤ b) ∧ I' (pre ++ [x]) Y' (W3.putObj l (.loop (rec (if jump.isNone then .ready else .done) jump))) ∧
          Keep X w (W3.putObj l (.loop (rec (if jump.isNone then .ready else .done) jump))) ∧
          Keep (fun b => (X b ∨ b = l) ∨ Y b) W (W3.putObj l (.loop (rec (if jump.isNone then .ready else .done) jump))) := fun jump W3 I' hI' ⟨Y', hk3, hY', hi3⟩ => by
        have hl6 := hk3.heap hl5 (fun hx => by rcases hx with hx | hx; have := hX l hx; omega; have := hY l hx; omega)
        have hr := run_endRound (P := P) jump hl6
        have er : ({ ({ rec .ready none with state := .busy } : Loop) with state := if jump.isNone then .ready else .done, pending := jump } : Loop) = rec (if jump.isNone then .ready else .done) jump := by
          rw [hrec, hrec]
        rw [er] at hr
        have hY1 : ∀ b, Y' b → W1.heap.size ≤ b := fun b hb => by rcases hY' b hb with h | h; exact hY b h; omega
        refine ⟨hr, World.putObj_heap_same (Array.getElem?_eq_some_iff.1 hl6).1, Y', hY1, fun b hb => by rcases hY' b hb with h | h; exact .inl h; exact .inr (by omega), hI' _ _ _ _ (turn W3 _ hY1) hi3, ?_, ?_⟩
        · refine Keep.putObj ?_ (.inr hl) _
          exact ⟨hk3.os.trans hkw1.os, hk3.tape.trans hkw1.tape, hk3.output.trans hkw1.output, Nat.le_trans hkw1.size hk3.size, fun b hb hx => (hk3.same b (Nat.lt_of_lt_of_le hb hkw1.size) (fun h => by rcases h with h | h; exact hx h; have := hY b h; omega)).trans (hkw1.same b hb hx)⟩
        · exact (hX2.trans (hk3.weaken (fun _ _ h => by rcases h with h | h; exact .inl (.inl h); exact .inr h))).putObj (.inl (.inl (.inr rfl))) _
      rintro e a3 W3 hp
      cases e with
      | normal =>
        obtain ⟨hr, hl7, Y', q1, q2, q3, q4, q5⟩ := fin none W3 I hI hp
        exact ⟨_, _, hr, Y', q5, q2, .inl ⟨rfl, q1, q3, q4, hl7⟩⟩
      | ret =>
        obtain ⟨hr, hl7, Y', q1, q2, q3, q4, q5⟩ := fin (some .ret) W3 _ (hIx _) hp
        exact ⟨_, _, hr, Y', q5, q2, .inr ⟨rfl, q1, .ret, q3, q4, hl7⟩⟩
      | exit id =>
        obtain ⟨hr, hl7, Y', q1, q2, q3, q4, q5⟩ := fin (some (.exit id)) W3 _ (hIx _) hp
        exact ⟨_, _, hr, Y', q5, q2, .inr ⟨rfl, q1, .exit id, q3, q4, hl7⟩⟩
      | goto t =>
        obtain ⟨hr, hl7, Y', q1, q2, q3, q4, q5⟩ := fin (some (.goto t)) W3 _ (hIx _) hp
        exact ⟨_, _, hr, Y', q5, q2, .inr ⟨rfl, q1, .goto t, q3, q4, hl7⟩⟩
      | panic ch => exact hp.elim
      | outgrown => exact hp.elim
    | ret => exact h.elim
    | exit id => exact h.elim
    | goto t => exact h.elim
    | panic ch => exact h.elim
    | outgrown => exact h.elim
  · rintro e W2 ⟨⟨v, rfl⟩, hk2, (⟨Y, _, hY, hi, hk, hl2⟩ | ⟨pre, Y, hpre, _, hY, c, hi, hk, hl2⟩)⟩
    · have hr := run_endLoop (P := P) hl2 (by rw [hrec]; simp)
      have e1 : (rec .ready none).pending = none := by rw [hrec]
      rw [e1] at hr
      exact ⟨none, _, hr, hdone Y _ (hI _ _ _ _ (turn W2 _ hY) hi) hY (hk.putObj (.inr hl) _) (hk2.putObj (.inl (.inr rfl)) _)⟩
    · have hr := run_endLoop (P := P) hl2 (by rw [hrec]; simp)
      have e1 : (rec .done (some c)).pending = some c := by rw [hrec]
      rw [e1] at hr
      exact ⟨some c, _, hr, hstop c pre Y _ hpre (hIx c _ _ _ _ (turn W2 _ hY) hi) hY (hk.putObj (.inr hl) _) (hk2.putObj (.inl (.inr rfl)) _)⟩

theorem loop_out2 {α : Type} {g : Operand} {ps : Array Tmp} {assign body : Code} {Q : Exit → Act → World → Prop} {a : Act} {w : World}
    {gf : Nat} {lb : Array Value} (hg : a.eval g = .func (.func gf) #[] lb) (eg : ∀ args w, (callFunc gf args).run P w = .ok (.enter gf args) w)
    {encs : α → Array Value} {L : List α} {Nd X : Nat → Prop} {w0 : World} (hit : Iter2 P gf lb encs L Nd w0) (hps : ∀ x, (encs x).size = ps.size)
    (hX : ∀ b, X b → b < w.heap.size) (hNd : ∀ b, Nd b → ¬ X b ∧ b < w.heap.size) (hNdw : ∀ b, Nd b → w.heap[b]? = w0.heap[b]?) (hw0 : w0.heap.size ≤ w.heap.size)
    (I : List α → (Nat → Prop) → World → Prop) (Ix : Code → List α → (Nat → Prop) → World → Prop) (hI : Low w.heap.size I) (hSI : Slim I) (hIx : ∀ c, Low w.heap.size (Ix c)) (h0 : I [] (fun _ => False) w)
    (hround : ∀ l, w.heap.size ≤ l → Round P ps assign body a.tmps encs L X I Ix w l)
    (hdone : ∀ D Y W, w.heap.size ≤ D → W.heap[D]? = some (.deferred (some [])) → I L Y W → (∀ b, Y b → w.heap.size ≤ b ∧ b ≠ D) → Keep X w W → Q .normal { a with defers := { target := .collected D, args := #[] } :: a.defers } W)
    (hstop : ∀ D c pre Y W, w.heap.size ≤ D → W.heap[D]? = some (.deferred (some [])) → pre <+: L → Ix c pre Y W → (∀ b, Y b → w.heap.size ≤ b ∧ b ≠ D) → Keep X w W → c.wpIn Fence.wide 0 P Q { a with defers := { target := .collected D, args := #[] } :: a.defers } W) :
    (Code.rangeFunc g ps assign body).wpIn Fence.wide 0 P Q a w := by
  refine wpIn_rangeFunc ?_
  intro fn _
  obtain ⟨rec, hrec⟩ : ∃ rec : LoopState → Option Code → Loop, rec = fun st pe => { state := st, pending := pe, fn, tmps := a.tmps, params := ps, assign, body, defers := w.heap.size } := ⟨_, rfl⟩
  obtain ⟨W1, hW1⟩ : ∃ W1, (w.alloc (.deferred (some []))).alloc (.loop (rec .ready none)) = W1 := ⟨_, rfl⟩
  have hL1 : W1.heap[w.heap.size + 1]? = some (.loop (rec .ready none)) := by
    rw [← hW1]; have := World.alloc_heap_new (w.alloc (.deferred (some []))) (.loop (rec .ready none)); rwa [World.size_alloc] at this
  have hD1 : W1.heap[w.heap.size]? = some (.deferred (some [])) := by
    rw [← hW1]; exact (Below.heap_alloc _ _ _ (by simp)).trans (World.alloc_heap_new w _)
  have hbw : Below w.heap.size w W1 := by
    rw [← hW1]; exact ((Below.refl _ w).alloc (Nat.le_refl _) _).alloc (by simp) _
  have hltD : w.heap.size < W1.heap.size := (Array.getElem?_eq_some_iff.1 hD1).1
  have hD : ∀ W, Keep (fun b => X b ∨ b = w.heap.size + 1) W1 W → W.heap[w.heap.size]? = some (.deferred (some [])) := fun W hk =>
    hk.heap hD1 (fun h => by rcases h with h | h; have := hX _ h; omega; omega)
  refine ⟨w.heap.size + 1, [{ target := .collected w.heap.size, args := #[] }], W1, { target := .fn (.func gf) lb, args := #[.func (.yield (w.heap.size + 1)) #[] #[]] }, W1, gf,
    #[.func (.yield (w.heap.size + 1)) #[] #[]] ++ lb, W1, ?_, ?_, ?_, ?_, (fun h => by cases h), ?_⟩
  · rw [← hW1, hrec]; exact run_enterLoop_outer _ _ _ _ _
  · simp only [resolve, hg]
    simp [go_sem]
  · intro _ _; trivial
  · simp [invoke, go_sem, eg]
  · exact callsIn_wide.2 (loop_core2 hit hps (w.heap.size + 1) rec fn w.heap.size (by intro st pe; rw [hrec]) hX hNd hNdw hw0 (by omega) hL1 hbw I Ix hI hSI hIx h0
      (hround _ (by omega))
      (fun Y W hi hY hk hk1 => hdone _ Y W (Nat.le_refl _) (hD W hk1) hi (fun b hb => by have := hY b hb; omega) hk)
      (fun c pre Y W hp hi hY hk hk1 => hstop _ c pre Y W (Nat.le_refl _) (hD W hk1) hp hi (fun b hb => by have := hY b hb; omega) hk))
end Go.Kt
/- The iterator of a set's points. -/
namespace Go.Proofs.YtjbkpcdpdifpnaaGreatDoor
open Go Go.RowKit Go.Kt Go.Kt.Rg
attribute [local go_sem] Oper.semAt_some

def ptsR (x : Run) : List Int := (List.range (x.2 - x.1).toNat).map fun i => pntI (x.1 + (i : Nat))
def ptsL (l : List Run) : List Int := l.flatMap ptsR
def encPt (x : Int) : Array Value := #[.int .i32 x]
theorem ptsR_len (x : Run) : (ptsR x).length = (x.2 - x.1).toNat := by simp [ptsR]
theorem ptsL_len : ∀ {l : List Run} {lo : Int}, CanonFrom lo l → ((ptsL l).length : Int) = cntL l
  | [], _, _ => rfl
  | x :: t, lo, h => by
    have := ptsL_len h.2.2.2
    have := h.2.1
    simp only [ptsL, List.flatMap_cons, List.length_append, ptsR_len, cntL] at *
    omega
theorem ptsR_take (x : Run) (i : Nat) (h : (i : Int) < x.2 - x.1) : (ptsR x).take (i + 1) = (ptsR x).take i ++ [pntI (x.1 + (i : Nat))] := by
  rw [List.take_add_one]
  congr 1
  have : i < (x.2 - x.1).toNat := by omega
  simp [ptsR, this]
theorem ptsL_take (l : List Run) (k : Nat) (x : Run) (h : l[k]? = some x) : ptsL (l.take (k + 1)) = ptsL (l.take k) ++ ptsR x := by
  rw [List.take_add_one, h]; simp [ptsL]
theorem ptsL_pre (l : List Run) (k : Nat) (x : Run) (h : l[k]? = some x) (i : Nat) : ptsL (l.take k) ++ (ptsR x).take i <+: ptsL l := by
  have h1 : ptsL l = ptsL (l.take (k + 1)) ++ ptsL (l.drop (k + 1)) := by
    rw [ptsL, ptsL, ptsL, ← List.flatMap_append, List.take_append_drop]
  rw [h1, ptsL_take l k x h]
  exact ⟨(ptsR x).drop i ++ ptsL (l.drop (k + 1)), by rw [List.append_assoc, ← List.append_assoc ((ptsR x).take i), List.take_append_drop, List.append_assoc]⟩

theorem rall_call (b : Nat) (w : World) :
    Calls Tryz.prog 28 #[ptrV b] w fun e w' => e = .returned (.func (.func 88) #[] #[.pointer (some ⟨w.heap.size, 0, none⟩)]) ∧ w.alloc (.cells #[ptrV b] 36) = w' := by
  go_enter Tryz.func28, Tryz.ntmps28
  go_wp2
  go_ret
  exact ⟨rfl, rfl⟩
theorem enters_all : ∀ args w, (callFunc 88 args).run Tryz.prog w = .ok (.enter 88 args) w := enters_of Tryz.func88 (by kernel_rfl) rfl

set_option maxRecDepth 100000 in
set_option maxHeartbeats 4000000 in
theorem rall_iter (l : List Run) (bs b : Nat) (g : Nat) (w0 : World) (hbs : w0.cell? ⟨bs, 0, none⟩ = some (ptrV b)) (hS : ∃ ao cap, w0.cell? ⟨b, 0, none⟩ = some (.slice ao l.length cap) ∧ (l = [] ∨ ao = some ⟨g, 0, none⟩ ∧ ∀ (i : Nat) (x : Run), l[i]? = some x → w0.cell? ⟨g, i * 2, none⟩ = some (.int .i64 x.1) ∧ w0.cell? ⟨g, i * 2 + 1, none⟩ = some (.int .i64 x.2))) (hc : Canon l) (hT : PTab w0) :
    Iter2 Tryz.prog 88 #[.pointer (some ⟨bs, 0, none⟩)] encPt (ptsL l) (fun x => x = bs ∨ x = b ∨ x = g ∨ x = 0) w0 := by
  intro m X J Jx W hNd hX hsame hsz hJ hJx hSl hY h0
  obtain ⟨ao, cap, hb0, hrow⟩ := hS
  have hlen := canon_len hc (Int.le_refl _)
  have hl : l.length ≤ 1112192 := by unfold allN at hlen; omega
  have same : ∀ (p : Addr), (p.block = bs ∨ p.block = b ∨ p.block = g ∨ p.block = 0) → W.cell? p = w0.cell? p := fun p hp => World.cell?_of_block (hsame _ hp)
  have q1 : W.cell? ⟨bs, 0, none⟩ = some (ptrV b) := (same _ (.inl rfl)).trans hbs
  have q2 : W.cell? ⟨b, 0, none⟩ = some (.slice ao l.length cap) := (same _ (.inr (.inl rfl))).trans hb0
  have HT : Hid (PTab W) := Lib.hid ⟨(same ⟨0, _, none⟩ (.inr (.inr (.inr rfl)))).trans hT.1, (same ⟨0, _, none⟩ (.inr (.inr (.inr rfl)))).trans hT.2.1, (same ⟨0, _, none⟩ (.inr (.inr (.inr rfl)))).trans hT.2.2.1,
    (same ⟨0, _, none⟩ (.inr (.inr (.inr rfl)))).trans hT.2.2.2.1, (same ⟨0, _, none⟩ (.inr (.inr (.inr rfl)))).trans hT.2.2.2.2.1, (same ⟨0, _, none⟩ (.inr (.inr (.inr rfl)))).trans hT.2.2.2.2.2⟩
  have HR : Hid (∀ (i : Nat) (x : Run), l[i]? = some x → ao = some ⟨g, 0, none⟩ ∧ W.cell? ⟨g, i * 2, none⟩ = some (.int .i64 x.1) ∧ W.cell? ⟨g, i * 2 + 1, none⟩ = some (.int .i64 x.2)) := Lib.hid fun i x hx => by
    rcases hrow with h | ⟨e, h⟩
    · subst h; simp at hx
    · exact ⟨e, (same ⟨g, _, none⟩ (.inr (.inr (.inl rfl)))).trans (h i x hx).1, (same ⟨g, _, none⟩ (.inr (.inr (.inl rfl)))).trans (h i x hx).2⟩
  have HC := Lib.hid hc
  have HK := Lib.hid (And.intro hX (And.intro hJ (And.intro hJx (And.intro hSl hY))))
  have HX' : Hid (¬ X bs ∧ ¬ X b ∧ ¬ X g ∧ ¬ X 0) := Lib.hid ⟨hNd _ (.inl rfl), hNd _ (.inr (.inl rfl)), hNd _ (.inr (.inr (.inl rfl))), hNd _ (.inr (.inr (.inr rfl)))⟩
  have KT : Hid (∀ V : World, Keep X W V → PTab V) := Lib.hid fun V hk => ⟨hk.cell HT.out.1 HX'.out.2.2.2, hk.cell HT.out.2.1 HX'.out.2.2.2, hk.cell HT.out.2.2.1 HX'.out.2.2.2, hk.cell HT.out.2.2.2.1 HX'.out.2.2.2, hk.cell HT.out.2.2.2.2.1 HX'.out.2.2.2, hk.cell HT.out.2.2.2.2.2 HX'.out.2.2.2⟩
  obtain ⟨n, hn⟩ : ∃ n, l.length = n := ⟨_, rfl⟩
  rw [hn] at hl q2
  have HN := Lib.hid hn
  have hfn : ∀ k, Fence.wide.fn k := fun _ => trivial
  have hdep : Fence.wide.depth = none := rfl
  clear hNd hsame hsz hc hT hrow hb0 hbs same hlen hn hX hJ hJx hSl hY
  refine (callsIn_wide (n := 0)).1 ?_
  refine callsIn_of_wp Tryz.func88 rfl trivial ?_ rfl
  simp only [Tryz.ntmps88, List.size_toArray, List.length_cons, List.length_nil, Nat.reduceAdd, Nat.reduceSub, Array.replicate_succ, Array.replicate_zero, List.push_toArray, List.append_toArray, List.nil_append, List.cons_append]
  gi_wp2
  gi_loopw [11] (fun x wr => ∃ (k : Nat) (Y : Nat → Prop), x = .int .i64 k ∧ k ≤ n ∧ (∀ y, Y y → W.heap.size ≤ y) ∧ J (ptsL (l.take k)) Y wr ∧ Keep X W wr)
    (fun x _ => n - (RowKit.intOf x).toNat)
  case atStart => exact ⟨0, _, rfl, by omega, fun _ h => h.elim, h0, Keep.refl _ _⟩
  case round =>
    obtain ⟨k, Y, rfl, hk, hYl, hJs, hkp⟩ := hrel
    by_cases hlt : k < n
    · have hlt' : (k : Int) < n := by omega
      obtain ⟨x, hx⟩ : ∃ x, l[k]? = some x := ⟨_, List.getElem?_eq_getElem (by rw [HN.out]; exact hlt)⟩
      obtain ⟨rfl, r1', r2'⟩ := HR.out k x hx
      have r1 := hkp.cell r1' HX'.out.2.2.1
      have r2 := hkp.cell r2' HX'.out.2.2.1
      have hf := Canon.fit HC.out x (List.mem_of_getElem? hx)
      unfold allN at hf
      have HPR := Lib.hid (fun i => ptsL_pre l k x hx i)
      have HTK := Lib.hid (ptsL_take l k x hx)
      have HTR := Lib.hid (fun i => ptsR_take x i)
      have HLR := Lib.hid (ptsR_len x)
      obtain ⟨x1, x2⟩ := x
      simp only at r1 r2 hf HTR HLR
      obtain ⟨Z, hZ⟩ : ∃ Z, Z = fun y => Y y ∧ y < wr.heap.size := ⟨_, rfl⟩
      have hJZ : J (ptsL (l.take k)) Z wr := by rw [hZ]; exact HK.out.2.2.2.1 _ _ _ hJs
      obtain ⟨V, hV⟩ : ∃ V, wr.alloc (.cells #[.int .i64 x1, .int .i64 x2] 98) = V := ⟨_, rfl⟩
      obtain ⟨q, hq⟩ : ∃ q, wr.heap.size = q := ⟨_, rfl⟩
      have hWq : W.heap.size ≤ q := by rw [← hq]; exact hkp.size
      have hJV : J (ptsL (l.take k)) Z V := by rw [← hV]; exact HK.out.2.1 _ _ _ _ ((Keep.refl _ _).alloc _) hJZ
      have hkV : Keep X W V := by rw [← hV]; exact hkp.alloc _
      have hqV : V.heap[q]? = some (.cells #[.int .i64 x1, .int .i64 x2] 98 (0, 0)) := by rw [← hV]; exact alloc_at hq.symm
      have hZq : ¬ Z q := by rw [hZ]; intro h; have := h.2; omega
      have hZl : ∀ y, Z y → W.heap.size ≤ y := fun y hy => by rw [hZ] at hy; exact hYl y hy.1
      have v0 := Lib.cell_of_heap hqV 0
      simp at v0
      have HV := Lib.hid (And.intro hV hq)
      have HJV := Lib.hid (And.intro hJV (And.intro hkV (And.intro hqV (And.intro hZq hZl))))
      clear hJZ hJV hkV hqV hZq hZl hZ hV hq hYl hJs hkp hx r1' r2'
      gi_wp2_with fail
      rw [HV.out.2, HV.out.1]
      gi_wp2_with fail
      obtain ⟨wo, rfl⟩ : ∃ wo : World, wo = wr := ⟨_, rfl⟩
      gi_loopw [5] (fun x wr => ∃ (i : Nat) (Y : Nat → Prop), x = .int .i64 (x1 + (i : Nat)) ∧ (i : Int) ≤ x2 - x1 ∧ (∀ y, Y y → W.heap.size ≤ y) ∧ ¬ Y q ∧ J (ptsL (l.take k) ++ (ptsR (x1, x2)).take i) Y wr ∧ Keep X W wr ∧ wr.heap[q]? = some (.cells #[.int .i64 x1, .int .i64 x2] 98 (0, 0)))
        (fun x _ => (x2 - RowKit.intOf x).toNat)
      case atStart => exact ⟨0, Z, by simp, by omega, HJV.out.2.2.2.2, HJV.out.2.2.2.1, by simpa using HJV.out.1, HJV.out.2.1, HJV.out.2.2.1⟩
      case round =>
        obtain ⟨i, Y, rfl, hi, hYl, hYq, hJs, hkp, hqc⟩ := hrel
        have c0 := Lib.cell_of_heap hqc 1
        simp at c0
        have hql : q < wr.heap.size := (Array.getElem?_eq_some_iff.1 hqc).1
        by_cases hlt2 : (i : Int) < x2 - x1
        · have hlt3 : x1 + (i : Int) < x2 := by omega
          have hpre := HPR.out (i + 1)
          rw [HTR.out i hlt2] at hpre
          have CP := Lib.hid (rpoint_any (x1 + (i : Int)) wr (KT.out wr hkp) (by omega))
          have hb0 : 0 ≤ x1 + (i : Int) := by omega
          have hb1 : x1 + (i : Int) ≤ 1112192 := by omega
          obtain ⟨pt, hpt⟩ : ∃ pt, pntI (x1 + (i : Nat)) = pt := ⟨_, rfl⟩
          have hTI := HTR.out i hlt2
          rw [hpt] at CP hpre hTI
          rw [← List.append_assoc] at hpre
          have HI := Lib.hid (And.intro hYl (And.intro hYq (And.intro hJs (And.intro hkp (And.intro hqc (And.intro hpre hTI))))))
          clear hYl hYq hJs hkp hqc hpre hTI hpt
          gi_wp2_with fail
          refine (callsIn_wide.2 CP.out).mono ?_
          rintro e1 V1 ⟨rfl, hbv⟩
          have hk1 : Keep X W V1 := HI.out.2.2.2.1.trans (.of_all hbv)
          have hJ1 := HK.out.2.1 _ _ _ _ (.of_all hbv) HI.out.2.2.1
          have hs1 := hbv.size
          have hyy : YieldAt Fence.wide 0 Tryz.prog m #[.int .i32 pt] V1 _ := HK.out.2.2.2.2 (ptsL (l.take k) ++ (ptsR (x1, x2)).take i) pt Y V1 HI.out.2.2.2.2.2.1 hJ1 hk1.size HI.out.1
          obtain ⟨fn, tmps, assign, body, hy, hR⟩ := hyy
          have hq1 : V1.heap[q]? = some (.cells #[.int .i64 x1, .int .i64 x2] 98 (0, 0)) := (hbv.block q hql).trans HI.out.2.2.2.2.1
          have H1 := Lib.hid (And.intro hk1 (And.intro hq1 (Nat.lt_of_lt_of_le hql hs1)))
          clear hbv hJ1 hk1 hq1 hs1
          gi_wp2_with fail
          refine hR.mono ?_
          rintro e3 V3 ⟨Y', hk4, hY', (⟨rfl, hJ3⟩ | ⟨rfl, hJx3⟩)⟩
          all_goals have hk3 := H1.out.1
          all_goals have hzk := hk3.size
          all_goals have hkW : Keep X W V3 := ⟨hk4.os.trans hk3.os, hk4.tape.trans hk3.tape, hk4.output.trans hk3.output, Nat.le_trans hk3.size hk4.size, fun b hb hx => (hk4.same b (Nat.lt_of_lt_of_le hb hk3.size) (fun h => by rcases h with h | h; exact hx h; have := HI.out.1 b h; omega)).trans (hk3.same b hb hx)⟩
          all_goals have hYl2 : ∀ b, Y' b → W.heap.size ≤ b := fun b hb => by rcases hY' b hb with h | h; exact HI.out.1 b h; omega
          · have hYq2 : ¬ Y' q := fun h => by
              rcases hY' q h with h | h
              · exact HI.out.2.1 h
              · have := H1.out.2.2; omega
            have hq3 : V3.heap[q]? = some (.cells #[.int .i64 x1, .int .i64 x2] 98 (0, 0)) := hk4.heap H1.out.2.1 (fun h => by
              rcases h with h | h
              · have := HK.out.1 q h; omega
              · exact HI.out.2.1 h)
            have HF := Lib.hid (And.intro hYl2 (And.intro hYq2 (And.intro hJ3 (And.intro hkW hq3))))
            clear hk4 hk3 hYl2 hYq2 hJ3 hkW hq3 hY'
            gi_wp2_with fail
            go_roundw
            case rel => exact ⟨i + 1, Y', by congr 1; omega, by omega, HF.out.1, HF.out.2.1, by rw [HI.out.2.2.2.2.2.2, ← List.append_assoc]; exact HF.out.2.2.1, HF.out.2.2.2.1, HF.out.2.2.2.2⟩
            case measure => simp [RowKit.intOf]; omega
          · have HF := Lib.hid (And.intro hYl2 (And.intro hJx3 hkW))
            clear hk4 hk3 hYl2 hJx3 hkW hY'
            gi_wp2_with fail
            refine bodyPost_ret (results_none rfl _ _ _) rfl ?_
            exact ⟨⟨_, rfl⟩, HF.out.2.2, .inr ⟨_, Y', HI.out.2.2.2.2.2.1, HF.out.1, HF.out.2.1⟩⟩
        · have hlt3 : ¬ x1 + (i : Int) < x2 := by omega
          have ei : (ptsR (x1, x2)).take i = ptsR (x1, x2) := List.take_of_length_le (by rw [HLR.out]; omega)
          rw [ei, ← HTK.out] at hJs
          have HF := Lib.hid (And.intro hYl (And.intro hJs hkp))
          clear hYl hYq hJs hkp hqc ei
          gi_wp2_with fail
          go_roundw
          case rel => exact ⟨k + 1, Y, by go_num, by omega, HF.out.1, HF.out.2.1, HF.out.2.2⟩
          case measure => simp [RowKit.intOf]; omega
    · have hlt' : ¬ (k : Int) < n := by omega
      obtain rfl : k = n := by omega
      have e : l.take k = l := by rw [← HN.out, List.take_length]
      rw [e] at hJs
      have HF := Lib.hid (And.intro hkp (And.intro hYl hJs))
      clear hkp hYl hJs e
      gi_wp2_with fail
      go_end0
      exact ⟨⟨_, rfl⟩, HF.out.1, .inl ⟨Y, HF.out.2.1, HF.out.2.2⟩⟩
end Go.Proofs.YtjbkpcdpdifpnaaGreatDoor
/- What is the same of any program: a drawn region operation by operation, as in K6; what holds of the world may hang on which operations are done (so a cell may be loaded and, at the end, stored). -/
namespace Go.Kt
open Go

section
variable {P : Program} {ops : Array Oper} {Q : Exit → Act → World → Prop} {md : Region.Mode}

def awaits (md : Region.Mode) (ops : Array Oper) (j i : Nat) : Bool := match ops[j]? with | some o => waitsB md o i | none => false
def DStep (P : Program) (md : Region.Mode) (ops : Array Oper) (Q : Exit → Act → World → Prop) (S : (Nat → Bool) → World → Prop) (p : Nat → Value → World → Prop) (a0 : Act) (i : Nat) (o : Oper) : Prop :=
  ∀ (D : Nat → Bool) a w, D i = false → (∀ j, awaits md ops j i = true → D j = false) → (∀ j, waitsB md o j = true → D j = true) → S D w → Like ops a0 a → (∀ j k, waitsB md o j = true → slotB ops j k = true → p j (a.tmps.getD k undef) w) →
    Region.wanted o (yielded ops a.tmps) = true ∧ o.wp P a w (fun a' w' => ∃ v, a' = a.put o.dst v ∧ S (fun j => D j || j == i) w' ∧ (∀ j u, D j = true → p j u w → p j u w') ∧ p i v w') Q
def DSteps (P : Program) (md : Region.Mode) (ops : Array Oper) (Q : Exit → Act → World → Prop) (S : (Nat → Bool) → World → Prop) (p : Nat → Value → World → Prop) (a0 : Act) : Nat → List Oper → Prop
  | _, [] => True
  | i, o :: r => DStep P md ops Q S p a0 i o ∧ DSteps P md ops Q S p a0 (i + 1) r
theorem DSteps.get {S : (Nat → Bool) → World → Prop} {p : Nat → Value → World → Prop} {a0 : Act} : ∀ (l : List Oper) (i : Nat), DSteps P md ops Q S p a0 i l → ∀ j o, l[j]? = some o → DStep P md ops Q S p a0 (i + j) o
  | [], _, _, j, o, h => by simp at h
  | x :: r, i, hs, 0, o, h => by simp at h; subst h; exact hs.1
  | x :: r, i, hs, j + 1, o, h => by
    have := DSteps.get r (i + 1) hs.2 j o (by simpa using h)
    rw [show i + (j + 1) = i + 1 + j by omega]; exact this
theorem DSteps.cons {S : (Nat → Bool) → World → Prop} {p : Nat → Value → World → Prop} {a0 : Act} {i : Nat} {o : Oper} {r : List Oper} (h : DStep P md ops Q S p a0 i o) (hr : DSteps P md ops Q S p a0 (i + 1) r) : DSteps P md ops Q S p a0 i (o :: r) := ⟨h, hr⟩
theorem DSteps.nil {S : (Nat → Bool) → World → Prop} {p : Nat → Value → World → Prop} {a0 : Act} {i : Nat} : DSteps P md ops Q S p a0 i [] := trivial

theorem set_done (listed : Array Bool) (i : Nat) (hi : i < listed.size) : (fun j => (listed.setIfInBounds i true).getD j false) = fun j => listed.getD j false || j == i := by
  funext j
  simp only [Array.getD_eq_getD_getElem?, Array.getElem?_setIfInBounds]
  by_cases h : i = j
  · subst h; simp [hi]
  · rw [if_neg h]
    have : (j == i) = false := by simp; omega
    rw [this, Bool.or_false]

theorem wp_region_done {id : Nat} {a0 : Act} {w0 : World} (S : (Nat → Bool) → World → Prop) (p : Nat → Value → World → Prop) (hm : P.follows .mixedOrders = true) (hap : apartB ops a0.tmps.size = true) (hfw : forwardB .any ops = true)
    (hS : S (fun _ => false) w0.drew) (hs : DSteps P .any ops Q S p a0 0 ops.toList)
    (hd : ∀ D a w, (∀ j, j < ops.size → D j = true) → S D w → Like ops a0 a → (∀ j k, slotB ops j k = true → p j (a.tmps.getD k undef) w) → (∀ j, j < ops.size → ∃ v, p j v w) → Q .normal a w) : (Code.region id ops true).wp P Q a0 w0 := by
  have hdst : ∀ (i : Nat) (o : Oper) (k : Nat), ops[i]? = some o → o.dst = some k → k < a0.tmps.size ∧ ∀ (j : Nat) (oj : Oper), ops[j]? = some oj → oj.dst = some k → i = j := by
    intro i o k ho hk
    have hi := (Array.getElem?_eq_some_iff.1 ho).1
    have h1 := List.all_eq_true.1 hap i (List.mem_range.2 hi)
    have h2 : ops.getD i default = o := by simp [Array.getD_eq_getD_getElem?, ho]
    rw [h2, hk] at h1
    simp only [Bool.and_eq_true, decide_eq_true_eq] at h1
    refine ⟨h1.1, fun j oj hj hjk => ?_⟩
    have hj' := (Array.getElem?_eq_some_iff.1 hj).1
    have h3 := List.all_eq_true.1 h1.2 j (List.mem_range.2 hj')
    have h4 : ops.getD j default = oj := by simp [Array.getD_eq_getD_getElem?, hj]
    rw [h4, hjk] at h3
    simpa using h3
  refine wp_region_any hm ?_
  refine wpAny_inv (fun listed a w => listed.size = ops.size ∧ S (fun j => listed.getD j false) w ∧ (∀ j k, listed.getD j false = true → awaits .any ops j k = true → listed.getD k false = true) ∧ Like ops a0 a ∧ (∀ j, listed.getD j false = true → ∃ v, p j v w) ∧ ∀ j k, listed.getD j false = true → slotB ops j k = true → p j (a.tmps.getD k undef) w) ?_ ?_ _ _ _ _ ?_ ⟨by simp, by rw [show (fun j => (Array.replicate ops.size false).getD j false) = fun _ => false from funext fun j => by simp only [Array.getD_eq_getD_getElem?, Array.getElem?_replicate]; split <;> rfl]; exact hS, ?_, ⟨rfl, rfl, fun _ _ => rfl⟩, ?_, ?_⟩
  · rintro listed a w i ⟨hz, hSw, hC, hL, hE, hP⟩ hi
    obtain ⟨hjun, o, ho, hall⟩ := mem_ready.1 hi
    have hilt := (Array.getElem?_eq_some_iff.1 ho).1
    have hin : listed.getD i false = false := by
      have hi2 : i < listed.size := by omega
      simpa [Array.getD_eq_getD_getElem?, hi2] using hjun
    have hw8 : ∀ j, waitsB .any o j = true → listed.getD j false = true := fun j hj => by
      unfold waitsB at hj
      obtain ⟨e, he, h2⟩ := Array.any_eq_true'.1 hj
      simp only [Bool.and_eq_true, beq_iff_eq] at h2
      have := hall e he h2.2
      rw [h2.1] at this
      exact this
    have hst := DSteps.get ops.toList 0 hs i o (by simpa using ho)
    rw [Nat.zero_add] at hst
    obtain ⟨hw, hx⟩ := hst (fun j => listed.getD j false) a w hin (fun j hj => by
      cases hl : listed.getD j false with
      | false => rfl
      | true => have := hC j i hl hj; rw [hin] at this; cases this) hw8 hSw hL (fun j k hj hk => hP j k (hw8 j hj) hk)
    unfold wpOp
    simp only [ho, hw, if_true]
    refine .inl (Oper.wp_mono ?_ hx)
    rintro a' w' ⟨v, rfl, hS', hR', hpv⟩
    refine ⟨by simpa using hz, by rw [set_done listed i (by omega)]; exact hS', ?_, ⟨?_, ?_, fun k hk => ?_⟩, fun j hj => ?_, fun j k hj hk => ?_⟩
    · intro j k hj hk
      have hd1 := congrFun (set_done listed i (by omega))
      rw [hd1] at hj ⊢
      rw [Bool.or_eq_true] at hj ⊢
      left
      rcases hj with hj | hj
      · exact hC j k hj hk
      · have : j = i := by simpa using hj
        subst this
        unfold awaits at hk
        rw [ho] at hk
        exact hw8 k hk
    · cases h : o.dst <;> exact hL.defers
    · cases h : o.dst
      · exact hL.size
      · simp only [Act.put, Array.size_setIfInBounds]; exact hL.size
    · cases h : o.dst with
      | none => exact hL.far k hk
      | some d =>
        have hne : d ≠ k := fun e => by
          subst e
          unfold outside at hk
          have := Array.all_eq_true.1 hk i hilt
          rw [(Array.getElem?_eq_some_iff.1 ho).2, h] at this
          simp at this
        simp only [Act.put, Array.getD_eq_getD_getElem?, Array.getElem?_setIfInBounds, if_neg hne]
        have := hL.far k hk
        simpa only [Array.getD_eq_getD_getElem?] using this
    · by_cases hji : j = i
      · subst hji; exact ⟨v, hpv⟩
      · have hjl : listed.getD j false = true := by
          simp only [Array.getD_eq_getD_getElem?, Array.getElem?_setIfInBounds, if_neg (Ne.symm hji)] at hj ⊢
          exact hj
        obtain ⟨u, hu⟩ := hE j hjl
        exact ⟨u, hR' j _ hjl hu⟩
    · obtain ⟨oj, hoj, hjk⟩ : ∃ oj, ops[j]? = some oj ∧ oj.dst = some k := by
        unfold slotB at hk
        cases h : ops[j]? with
        | none => rw [h] at hk; cases hk
        | some oj => rw [h] at hk; exact ⟨oj, rfl, by simpa using hk⟩
      by_cases hji : j = i
      · subst hji
        rw [hoj] at ho
        cases ho
        have hkz := (hdst j _ k hoj hjk).1
        rw [hjk]
        have : (a.put (some k) v).tmps.getD k undef = v := by
          have : k < a.tmps.size := by rw [hL.size]; exact hkz
          simp [Act.put, Array.getD_eq_getD_getElem?, this]
        rw [this]
        exact hpv
      · have hjl : listed.getD j false = true := by
          simp only [Array.getD_eq_getD_getElem?, Array.getElem?_setIfInBounds, if_neg (Ne.symm hji)] at hj ⊢
          exact hj
        have h1 := hR' j _ hjl (hP j k hjl hk)
        cases h : o.dst with
        | none => exact h1
        | some d =>
          have hne : d ≠ k := fun e => by
            subst e
            exact hji ((hdst i o d ho h).2 j oj hoj hjk).symm
          simp only [Act.put, Array.getD_eq_getD_getElem?, Array.getElem?_setIfInBounds, if_neg hne] at h1 ⊢
          exact h1
  · rintro listed a w ⟨hz, hSw, hC, hL, hE, hP⟩ hr
    have hall : ∀ n j, j < n → j < ops.size → listed.getD j false = true := by
      intro n
      induction n with
      | zero => intro j h; omega
      | succ n ih =>
        intro j hjn hj
        cases hl : listed.getD j true with
        | true =>
          have : j < listed.size := by omega
          simpa [Array.getD_eq_getD_getElem?, this] using hl
        | false =>
          exfalso
          have hmem : j ∈ Region.ready .any ops listed := mem_ready.2 ⟨hl, ops[j], by simp [hj], fun e he hb => by
            have h1 := List.all_eq_true.1 hfw j (List.mem_range.2 hj)
            have h2 : ops.getD j default = ops[j] := by simp [Array.getD_eq_getD_getElem?, hj]
            rw [h2] at h1
            have h3 := Array.all_eq_true_iff_forall_mem.1 h1 e he
            rw [hb] at h3
            simp at h3
            exact ih e.on (by omega) (by omega)⟩
          rw [hr] at hmem
          cases hmem
    refine hd _ a w (fun j hj => hall (j + 1) j (by omega) hj) hSw hL (fun j k hk => hP j k (hall (j + 1) j (by omega) ?_) hk) (fun j hj => hE j (hall (j + 1) j (by omega) hj))
    unfold slotB at hk
    cases h : ops[j]? with
    | none => rw [h] at hk; cases hk
    | some oj => exact (Array.getElem?_eq_some_iff.1 h).1
  · unfold unlisted
    exact Nat.le_trans (List.length_filter_le _ _) (by simp)
  · intro j k hj
    simp only [Array.getD_eq_getD_getElem?, Array.getElem?_replicate] at hj
    split at hj <;> simp at hj
  · intro j hj
    simp only [Array.getD_eq_getD_getElem?, Array.getElem?_replicate] at hj
    split at hj <;> simp at hj
  · intro j k hj
    simp only [Array.getD_eq_getD_getElem?, Array.getElem?_replicate] at hj
    split at hj <;> simp at hj
end
end Go.Kt
