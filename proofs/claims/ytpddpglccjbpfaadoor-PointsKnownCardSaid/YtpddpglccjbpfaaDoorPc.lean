/- The points of a text: the document's Of, and points.Of. -/
import Derived.Test.YtpddpglccjbpfaaDoorPb
import Derived.Test.YtpddpglccjbpfaaDoorCs
import Derived.Test.YtpddpglccjbpfaaDoorCr
namespace Go.Proofs.YtpddpglccjbpfaaDoor
open Go Go.RowKit Go.Kt Go.Shelf
attribute [local go_sem] Oper.semAt_some

/-- The points of units. -/
def ptL (s : ByteArray) (l : List (Nat × Nat)) : List Int := l.map fun p => ((ptU s p.1).1 : Int)
def pts (s : ByteArray) : List Int := ptL s (units s)
theorem ptL_snoc (s : ByteArray) (l : List (Nat × Nat)) (p : Nat × Nat) : ptL s (l ++ [p]) = ptL s l ++ [((ptU s p.1).1 : Int)] := by simp [ptL]
theorem ptL_len (s : ByteArray) (l : List (Nat × Nat)) : (ptL s l).length = l.length := by simp [ptL]
theorem pts_len (s : ByteArray) : (pts s).length = (units s).length := ptL_len _ _

/-- What a call that makes a list of numbers answers. -/
def Made (B : Nat) (l : List Int) (w : World) (e : Ending) (w' : World) : Prop :=
  ∃ ao cap, e = .returned (.slice ao l.length cap) ∧ OwnS (fun b => B ≤ b) 21 1 (.slice ao l.length cap) l.length (i32s l) w' ∧ Below B w w'

set_option maxRecDepth 100000 in
theorem refOf_any (s : ByteArray) (w : World) (hs : s.size ≤ 4611686018427387904) (hu : (units s).length ≤ 35184372087808) :
    Calls Tryd.prog 69 #[.string s] w (Made w.heap.size (pts s) w) := by
  obtain ⟨R, hR⟩ : ∃ R, units s = R := ⟨_, rfl⟩
  have hRl : R.length ≤ 35184372087808 := by rw [← hR]; exact hu
  have HR := Lib.hid hR
  clear hR hu
  go_enter Tryd.func69, Tryd.ntmps69
  go_wp2
  go_loopw [3, 4] (fun o v wr => ∃ (pos f : Nat) (pre : List (Nat × Nat)) (ao : Option Addr) (cp k : Nat), k = pre.length ∧ v = .int .i64 pos ∧ o = .slice ao k cp ∧ pre ++ unitsF s f pos = R ∧ s.size ≤ pos + f ∧ pos ≤ s.size ∧
      OwnS (fun b => w.heap.size ≤ b) 21 1 (.slice ao k cp) k (i32s (ptL s pre)) wr ∧ Below w.heap.size w wr)
    (fun _ v _ => s.size - (RowKit.intOf v).toNat)
  case atStart => exact ⟨0, s.size, [], none, 0, 0, rfl, rfl, rfl, by rw [← HR.out]; rfl, by omega, by omega, own_nil _ _ _ _, Below.refl _ _⟩
  case round =>
    obtain ⟨pos, f, pre, ao, cp, k, hkl, rfl, rfl, hp, hf, hpl, hown, hb⟩ := hrel
    by_cases hpos : pos < s.size
    · obtain ⟨d1, d2, d3⟩ := dec_width s pos hpos
      obtain ⟨f', rfl⟩ : ∃ f', f = f' + 1 := ⟨f - 1, by omega⟩
      have hun : unitsF s (f' + 1) pos = (pos, (Utf8.decode s pos).1) :: unitsF s f' (pos + (Utf8.decode s pos).2) := by rw [unitsF, if_pos hpos]
      rw [hun] at hp
      rw [← ptU_wide_eq] at hp d1 d2 d3
      have C := refNext_in s pos wr hpos (by omega)
      have hkl2 : k < R.length := by rw [← hp]; simp; omega
      obtain ⟨pr, hpr⟩ : ∃ pr, (pos, (Utf8.decode s pos).1) = pr := ⟨_, rfl⟩
      have hp1 : pos = pr.1 := by rw [← hpr]
      rw [hpr] at hp
      have hsn := ptL_snoc s pre pr
      rw [← hp1] at hsn
      generalize ptU s pos = d at *
      obtain ⟨r, wd⟩ := d
      simp only at d1 d2 d3 C hp hsn
      obtain ⟨g, cap, w2, hrun, hown2, hk2, hg2, hz2⟩ := append_x (P := Tryd.prog) wr 46 21 Tryd.underlying46 tinfo21 rfl (by omega) hown [.int .i32 r] rfl
        (by intro u hu; simp at hu; subst hu; rfl) (by unfold maxLen; omega) (by omega)
      have HG : Hid (OwnS (fun b => w.heap.size ≤ b) 21 1 (.slice (some ⟨g, 0, none⟩) (k + 1) cap) (k + 1) (i32s (ptL s (pre ++ [pr]))) w2 ∧ Below w.heap.size w w2) := Lib.hid (by
        have hge : w.heap.size ≤ g := by
          rcases hg2 with h | h
          · exact hown.2 g h
          · have := hb.size; omega
        refine ⟨?_, hb.trans (hk2.below hb.size fun b h => hown.2 b h)⟩
        have := hown2.weaken (Z := fun b => w.heap.size ≤ b) (fun b h => by subst h; exact hge)
        rw [hsn]
        simpa [i32s] using this)
      have HRun := Lib.hid hrun
      have HP := Lib.hid (And.intro hp hkl)
      have CC := Lib.hid C
      clear hrun hown2 hk2 hg2 hz2 hown hp hsn hkl hpr hp1 hun C
      go_wp2_with (first | (go_at_call 72; refine CC.out.mono ?_; rintro e w' ⟨rfl, rfl⟩) | (at_builtin; refine wpList_append_eq rfl rfl rfl rfl HRun.out ?_))
      go_roundw
      case rel => exact ⟨pos + wd, f', pre ++ [pr], some ⟨g, 0, none⟩, cap, k + 1, by rw [List.length_append, ← HP.out.2]; rfl, by go_num, rfl, by rw [List.append_assoc]; exact HP.out.1, by omega, by omega, HG.out.1, HG.out.2⟩
      case measure => simp [RowKit.intOf]; omega
    · have hun : unitsF s f pos = [] := by
        cases f with
        | zero => rfl
        | succ f => rw [unitsF, if_neg hpos]
      rw [hun, List.append_nil] at hp
      have HO : Hid (Made w.heap.size (pts s) w (.returned (.slice ao k cp)) wr) := Lib.hid ⟨ao, cp, by rw [pts_len, HR.out, ← hp, hkl], by
        have e1 : pts s = ptL s pre := by unfold pts; rw [HR.out, hp]
        rw [e1, ptL_len, ← hkl]
        exact hown, hb⟩
      clear hown hp hun hkl
      go_wp2
      go_ret
      exact HO.out

theorem mk_runes (W : World) (c : Nat) (hc : 4 * c ≤ 281474976710656) :
    ∃ w2, (Instr.makeSlice 46 (.int .i64 0) (.int .i64 (c : Int))).run Tryd.prog W = .ok (.slice (some ⟨W.heap.size, 0, none⟩) 0 c) w2 ∧
      OwnS (fun b => b = W.heap.size) 21 1 (.slice (some ⟨W.heap.size, 0, none⟩) 0 c) 0 [] w2 ∧ w2.heap.size = W.heap.size + 1 ∧ Below W.heap.size W w2 := by
  obtain ⟨i, hi, hz, hs1, hbb1⟩ := info_parts tinfo21
  have hb' : (i.bytes : Int) * (c : Int) ≤ 281474976710656 := by rw [hbb1]; omega
  have hr := run_make (P := Tryd.prog) W 46 21 i (.int .i32 0) Tryd.underlying46 hi hz .i64 .i64 0 c (Int.le_refl _) (by omega) hb' (by omega)
  simp only [Int.toNat_zero, Int.toNat_natCast] at hr
  have hm : c ≤ maxLen := by unfold maxLen; omega
  have hq := World.ownsRow_made (base := 0) W (madeCells (Value.int .i32 0).cells (c * i.size)) c (Nat.zero_le _) hm (size_madeCells _ _) (e := 21)
  rw [hs1] at hq hr
  exact ⟨_, hr, ⟨hq, fun g h => by cases h; rfl⟩, by simp, (Below.refl _ W).alloc (Nat.le_refl _) _⟩

set_option maxRecDepth 100000 in
set_option maxHeartbeats 2000000 in
theorem ptsOf_any (s : ByteArray) (w : World) (hT : Lib.Utf8Tabs 5 6 w) (h2 : 7 ≤ w.heap.size) (hs : s.size ≤ 4611686018427387904) (hu : (units s).length ≤ 35184372087808) :
    Calls Tryd.prog 23 #[.string s] w (Made w.heap.size (pts s) w) := by
  have HT := Lib.hid hT; clear hT
  obtain ⟨R, hR⟩ : ∃ R, units s = R := ⟨_, rfl⟩
  have hRl : R.length ≤ 35184372087808 := by rw [← hR]; exact hu
  have HR := Lib.hid hR
  have cC := Lib.hid (fun W => (by have := utfCount_any s W (by omega); rw [hR] at this; exact this : Calls Tryd.prog 56 #[.string s] W fun e w' => e = .returned (.int .i64 (R.length : Nat)) ∧ Below W.heap.size W w'))
  clear hR hu
  have hfn : ∀ k, Fence.wide.fn k := fun _ => trivial
  have hdep : Fence.wide.depth = none := rfl
  refine (callsIn_wide (n := 0)).1 ?_
  refine callsIn_of_wp_marks Tryd.func23 rfl trivial ?_ rfl
  simp only [Tryd.ntmps23, List.size_toArray, List.length_cons, List.length_nil, Nat.reduceAdd, Nat.reduceSub, Array.replicate_succ, Array.replicate_zero, List.push_toArray, List.append_toArray, List.nil_append, List.cons_append]
  gi_wp2_with fail
  refine (callsIn_wide.2 (cC.out _)).mono ?_
  rintro e w1 ⟨rfl, hb1⟩
  generalize hn : w.heap.size = n at *
  obtain ⟨w0, hw0⟩ : ∃ w0, w.alloc (.cells #[.string s] 9 (0, 0)) = w0 := ⟨_, rfl⟩
  rw [hw0] at hb1
  have hsz0 : w0.heap.size = n + 1 := by rw [← hw0]; simp [hn]
  have b00 : w0.heap[n]? = some (.cells #[.string s] 9 (0, 0)) := by rw [← hw0, ← hn]; exact World.alloc_heap_new w _
  have hbw0 : Below n w w0 := by rw [← hw0]; exact (Below.refl n w).alloc (by omega) _
  have hbw1 : Below n w w1 := hbw0.trans (hb1.mono (by omega))
  have b01 : w1.heap[n]? = some (.cells #[.string s] 9 (0, 0)) := (hb1.block n (by omega)).trans b00
  have hsz1 := hb1.size
  obtain ⟨w2, hrun, hown2, hsz2, hbw2⟩ := mk_runes w1 R.length (by omega)
  have HRun := Lib.hid hrun
  have b02 : w2.heap[n]? = some (.cells #[.string s] 9 (0, 0)) := (hbw2.block n (by omega)).trans b01
  have c01 := cell_one b01
  have c02 := cell_one b02
  clear hrun
  have hrun := HRun.out
  have c03 : ∀ o, (w2.alloc o).cell? ⟨n, 0, none⟩ = some (.string s) := fun o => cell_one (alloc_old b02)
  gi_wp2_with fail
  refine (callsIn_wide.2 (utfAll_call s _)).mono ?_
  rintro e w3 ⟨rfl, hw3⟩
  clear hrun
  obtain ⟨m, hm⟩ : ∃ m, w1.heap.size = m := ⟨_, rfl⟩
  rw [hm] at hown2 hsz2 hbw2 hw3 ⊢
  have hsz3 : w3.heap.size = m + 3 := by rw [← hw3]; simp [hsz2]
  have hbw3 : Below n w w3 := by
    have h1 : Below n w w2 := hbw1.trans (hbw2.mono (by omega))
    rw [← hw3]
    exact (h1.alloc (by omega) _).alloc (by simp; omega) _
  have b03 : w3.heap[n]? = some (.cells #[.string s] 9 (0, 0)) := by rw [← hw3]; exact alloc_old (alloc_old b02)
  have bl3 : w3.heap[m + 1]? = some (.cells #[.slice (some ⟨m, 0, none⟩) 0 R.length] 46 (0, 0)) := by rw [← hw3]; exact alloc_old (alloc_at hsz2.symm)
  have bs3 : w3.heap[m + 2]? = some (.cells #[.string s] 9 (0, 0)) := by rw [← hw3]; exact alloc_at (by simp [hsz2])
  have hown3 : OwnS (fun b => b = m) 21 1 (.slice (some ⟨m, 0, none⟩) 0 R.length) 0 [] w3 := by
    rw [← hw3]
    exact hown2.keep (X := fun _ => False) (((Keep.refl _ _).alloc _).alloc _) (fun _ h => h.elim)
  have HT3 : Hid (Lib.Utf8Tabs 5 6 w3) := Lib.hid (tabs_below HT.out h2 hbw3)
  clear hw3 hown2 b00 b01 b02 c01 c02 c03 hw0
  gi_wp2_with fail
  refine loop_out (gf := 87) (lb := #[.pointer (some ⟨m + 2, 0, none⟩)]) (encs := enc2) rfl (enters_of Tryd.func87 (by kernel_rfl) rfl)
    (all_iter s (m + 2) w3 (cell_one bs3) (by omega)) (fun _ => rfl) (X := fun b => b = m + 1 ∨ b = m)
    (fun b hb => by omega) (fun b hb => by omega) (fun _ _ => rfl) (Nat.le_refl _)
    (fun pre Y W => ∃ ao cv, W.heap[m + 1]? = some (.cells #[.slice ao pre.length cv] 46 (0, 0)) ∧ OwnS (fun b => b = m ∨ Y b) 21 1 (.slice ao pre.length cv) pre.length (i32s (ptL s pre)) W)
    (fun _ _ _ _ => False)
    (fun pre Y W W' hk h => by
      obtain ⟨ao, cv, h1, h2⟩ := h
      exact ⟨ao, cv, hk.heap h1 (fun hx => by have := hx.1; omega), h2.keep hk (fun b hx hy => by rcases hy with hy | hy; have := hx.1; omega; exact hx.2 hy)⟩)
    (fun _ _ _ _ _ _ h => h) ⟨_, _, bl3, hown3.weaken (fun _ h => .inl h)⟩ ?round ?done ?stop
  case stop => intro D c pre Y W _ _ _ h; exact h.elim
  case round =>
    rintro l' hl' pre ⟨at', r0⟩ Y W hpre hi hk hY hlt hr
    gi_wp2
    refine ⟨Keep.refl _ _, ?_⟩
    rintro W2 _ hk2 ⟨ao, cv, hv, hown⟩ hr2
    obtain ⟨rest, hrest⟩ := hpre
    have hmem : (at', r0) ∈ units s := by rw [← hrest]; simp
    have hat : at' < s.size := (units_dec s s.size 0 _ hmem).2
    rw [HR.out] at hrest
    have hlen : pre.length < R.length := by rw [← hrest]; simp
    have hz2 : m + 3 ≤ W2.heap.size := by have := hk2.size; omega
    have c2 : W2.cell? ⟨n, 0, none⟩ = some (.string s) := hk2.cell (p := ⟨n, 0, none⟩) (cell_one b03) (by show ¬ (n = m + 1 ∨ n = m); omega)
    have hT2 : Lib.Utf8Tabs 5 6 W2 := tabs_below HT3.out h2 (hk2.below (n := n) (by omega) (fun b hb => by omega))
    have C := ptsNext_any s at' W2 hT2 (by omega)
    rw [ptP_in s at' hat] at C
    have hsn := ptL_snoc s pre (at', r0)
    simp only at hsn
    generalize ptU s at' = d at *
    obtain ⟨x, wd⟩ := d
    simp only at C hsn
    have CC := Lib.hid C
    have HI := Lib.hid (And.intro hv (And.intro hown hsn))
    clear C hv hown hsn hmem hrest hi hk hT2
    gi_wp2_with fail
    refine (CallsIn.inRound l' (callsIn_wide.2 CC.out)).mono ?_
    rintro e W3 ⟨rfl, hb3⟩
    obtain ⟨hv, hown, hsn⟩ := HI.out
    have hz3 := hb3.size
    have hv3 : W3.heap[m + 1]? = some (.cells #[.slice ao pre.length cv] 46 (0, 0)) := (hb3.block _ (by omega)).trans hv
    have hown3' : OwnS (fun b => b = m ∨ Y b) 21 1 (.slice ao pre.length cv) pre.length (i32s (ptL s pre)) W3 := hown.keep (X := fun _ => False) (.of_all hb3) (fun _ h => h.elim)
    obtain ⟨v, hvv⟩ : ∃ v, Value.slice ao pre.length cv = v := ⟨_, rfl⟩
    rw [hvv] at hv3 hown3' hv
    clear hown
    obtain ⟨g, cap, w4, hrun, hown4, hk4, hg4, hz4⟩ := append_x (P := Tryd.prog) W3 46 21 Tryd.underlying46 tinfo21 rfl (by omega) hown3' [.int .i32 x] rfl
      (by intro u hu; simp at hu; subst hu; rfl) (by unfold maxLen; omega) (by omega)
    have hvY : ∀ b, v.ownBlock = some b → b = m ∨ Y b := hown3'.2
    have hYl : ∀ b, Y b → m + 3 ≤ b := fun b hb => by have := (hY b hb).1; omega
    have hgn : g ≠ m + 1 := by
      rcases hg4 with h | h
      · rcases hvY g h with h | h
        · omega
        · have := hYl g h; omega
      · omega
    have hv4 : w4.heap[m + 1]? = some (.cells #[v] 46 (0, 0)) := hk4.heap hv3 (fun hx => by
      rcases hvY _ hx with h | h
      · omega
      · have := hYl _ h; omega)
    have k3 := cell_one hv3
    have f3 := frozen_one hv3
    have k4 := cell_one hv4
    have f4 := frozen_one hv4
    obtain ⟨w5, hw5⟩ : ∃ w5, w4.setCell ⟨m + 1, 0, none⟩ (.slice (some ⟨g, 0, none⟩) (pre.length + 1) cap) = w5 := ⟨_, rfl⟩
    have hk5 : Keep (fun b => b = m + 1) w4 w5 := by rw [← hw5]; exact Keep.setCell (X := fun b => b = m + 1) (p := ⟨m + 1, 0, none⟩) (Keep.refl _ _) rfl _
    have hfin : Kt.Left (fun b => b = m + 1 ∨ b = m) Y (fun pre Y W => ∃ ao cv, W.heap[m + 1]? = some (.cells #[.slice ao pre.length cv] 46 (0, 0)) ∧ OwnS (fun b => b = m ∨ Y b) 21 1 (.slice ao pre.length cv) pre.length (i32s (ptL s pre)) W) (pre ++ [(at', r0)]) W2 w5 := by
      refine ⟨fun b => Y b ∨ (b = g ∧ b ≠ m), ?_, ?_, some ⟨g, 0, none⟩, cap, ?_, ?_⟩
      · have h1 : Keep (fun b => (b = m + 1 ∨ b = m) ∨ Y b) W2 W3 := (Keep.of_all hb3)
        have h2 : Keep (fun b => (b = m + 1 ∨ b = m) ∨ Y b) W3 w4 := hk4.weaken (fun b _ h => by rcases hvY b h with h | h; exact .inl (.inr h); exact .inr h)
        exact (h1.trans h2).trans (hk5.weaken fun b _ h => .inl (.inl h))
      · rintro b (hb | ⟨hb, hbm⟩)
        · exact .inl hb
        · subst hb
          rcases hg4 with h | h
          · rcases hvY b h with h | h
            · exact absurd h hbm
            · exact .inl h
          · exact .inr (by omega)
      · rw [← hw5]
        have e1 : (pre ++ [(at', r0)]).length = pre.length + 1 := by simp
        rw [e1]
        exact set_at hv4
      · have := (hown4.keep hk5 (fun b hb hy => hgn (by rw [← hy, hb]))).weaken (Z := fun b => b = m ∨ (Y b ∨ (b = g ∧ b ≠ m))) (fun b h => by
          by_cases hm : b = m
          · exact .inl hm
          · exact .inr (.inr ⟨h, hm⟩))
        have e1 : (pre ++ [(at', r0)]).length = pre.length + 1 := by simp
        rw [e1, hsn]
        simpa [i32s] using this
    subst hvv
    obtain ⟨ag, hag⟩ : ∃ ag, (some ⟨g, 0, none⟩ : Option Addr) = ag := ⟨_, rfl⟩
    rw [hag] at hrun hw5
    have HF := Lib.hid hfin
    have H3 := Lib.hid hrun
    clear hag hfin hrun hown4 hk4 hk5 hg4 hvY hv hv3 hv4 hown3' hsn
    gi_wp2_with (refine wpListIn_append_eq (o := ⟨some 23, _, _, _, _, _⟩) (by rfl) (by rfl) (by rfl) (by rfl) H3.out ?_)
    exact HF.out
  case done =>
    rintro D Y W hD hDd ⟨ao, cv, hv, hown⟩ hY hkW
    have hbW : Below n w W := hbw3.trans (hkW.below (by omega) (fun b hb => by omega))
    have k0 := cell_one hv
    have hz := hkW.size
    rw [HR.out] at hv hown k0
    have HO := Lib.hid (And.intro hown hbW)
    clear hown hbW hv
    gi_wp2_with fail
    refine leaves_marks (Ds := [D]) (by simp) (fun D' h => by simp at h; subst h; exact hDd) (fun W' hk' => ⟨_, results_tmp rfl _ _ _, ?_⟩)
    have e1 : pts s = ptL s R := by unfold pts; rw [HR.out]
    refine ⟨ao, cv, by rw [e1, ptL_len]; rfl, ?_, HO.out.2.trans (hk'.below (by omega) (fun b hb => by simp at hb; omega))⟩
    rw [e1, ptL_len]
    refine (HO.out.1.keep hk' ?_).weaken ?_
    · intro b hb hy
      simp at hb
      subst hb
      rcases hy with h | h
      · omega
      · exact (hY b h).2 rfl
    · rintro b (h | h)
      · omega
      · have := (hY b h).1; omega
end Go.Proofs.YtpddpglccjbpfaaDoor
