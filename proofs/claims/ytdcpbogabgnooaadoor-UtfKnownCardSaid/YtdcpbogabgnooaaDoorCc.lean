/- The pieces that are ill-formed, held against a list. -/
import Derived.Test.YtdcpbogabgnooaaDoorCb
namespace Go.Proofs.YtdcpbogabgnooaaDoor
open Go Go.RowKit Go.Kt Go.Shelf
attribute [local go_sem] Oper.semAt_some

theorem tinfo3 : (Tryd.prog.info? 3).map (fun i => (i.zero, i.size, i.bytes)) = some (some (.int .i64 0), 1, 8) := by kernel_rfl

/-- The numbers of a list of pieces. -/
def pieceInts (l : List (Nat × Nat)) : List Int := l.flatMap fun p => [(p.1 : Int), (p.2 : Int)]
theorem pieceInts_snoc (l : List (Nat × Nat)) (p : Nat × Nat) : pieceInts (l ++ [p]) = pieceInts l ++ [(p.1 : Int), (p.2 : Int)] := by simp [pieceInts]
theorem pieceInts_len (l : List (Nat × Nat)) : (pieceInts l).length = 2 * l.length := by
  induction l with
  | nil => rfl
  | cons p l ih => simp [pieceInts] at *; omega
abbrev intCells (l : List Int) : List Value := l.map fun x => .int .i64 x

set_option maxRecDepth 100000 in
set_option maxHeartbeats 2000000 in
theorem badIs_yes (s : ByteArray) (v1 : Value) (l : List Int) (w : World) (hT : Lib.Utf8Tabs 0 1 w) (h2 : 2 ≤ w.heap.size) (hs : s.size ≤ 1048576) (hv : Sl .i64 w v1 l) (h : pieceInts (bads s) = l) :
    Calls Tryd.prog 45 #[.string s, v1] w fun e w' => e = .returned (.bool true) ∧ Below w.heap.size w w' := by
  have HT := Lib.hid hT; clear hT
  have HV := Lib.hid hv; clear hv
  have HL := Lib.hid h; clear h
  obtain ⟨R, hR⟩ : ∃ R, bads s = R := ⟨_, rfl⟩
  have hRl : R.length ≤ s.size := by rw [← hR]; exact bads_len s
  have HR := Lib.hid hR
  clear hR
  have hfn : ∀ k, Fence.wide.fn k := fun _ => trivial
  have hdep : Fence.wide.depth = none := rfl
  refine (callsIn_wide (n := 0)).1 ?_
  refine callsIn_of_wp_marks Tryd.func45 rfl trivial ?_ rfl
  simp only [Tryd.ntmps45, List.size_toArray, List.length_cons, List.length_nil, Nat.reduceAdd, Nat.reduceSub, Array.replicate_succ, Array.replicate_zero, List.push_toArray, List.append_toArray, List.nil_append, List.cons_append]
  gi_wp2_with fail
  refine (callsIn_wide.2 (utfBad_call s _)).mono ?_
  rintro e w1 ⟨rfl, hw1⟩
  gi_wp2_with fail
  generalize hn : w.heap.size = n at *
  have hsz1 : w1.heap.size = n + 2 := by rw [← hw1]; simp [hn]
  have hbw : Below n w w1 := by
    rw [← hw1]
    exact ((Below.refl n w).alloc (by omega) _).alloc (by simp; omega) _
  have b0 : w1.heap[n]? = some (.cells #[.slice none 0 0] 29 (0, 0)) := by rw [← hw1]; simp only [heap_alloc_if, World.size_alloc, hn]; (repeat rw [if_neg (by omega)]); simp
  have b1 : w1.heap[n + 1]? = some (.cells #[.string s] 9 (0, 0)) := by rw [← hw1]; simp only [heap_alloc_if, World.size_alloc, hn]; (repeat rw [if_neg (by omega)]); simp
  have HT1 : Hid (Lib.Utf8Tabs 0 1 w1) := Lib.hid (tabs_below HT.out h2 hbw)
  clear hw1
  refine loop_out (gf := 59) (lb := #[.pointer (some ⟨n + 1, 0, none⟩)]) (encs := encP) rfl (enters_of Tryd.func59 (by kernel_rfl) rfl)
    (bad_iter s (n + 1) w1 (cell_one b1) (by omega) HT1.out (by omega)) (fun _ => rfl) (X := fun b => b = n)
    (fun b hb => by omega) (fun b hb => by omega) (fun _ _ => rfl) (Nat.le_refl _)
    (fun pre Y W => ∃ ao cv, W.heap[n]? = some (.cells #[.slice ao (2 * pre.length) cv] 29 (0, 0)) ∧ OwnS Y 3 1 (.slice ao (2 * pre.length) cv) (2 * pre.length) (intCells (pieceInts pre)) W)
    (fun _ _ _ _ => False)
    (fun pre Y W W' hk h => by
      obtain ⟨ao, cv, h1, h2⟩ := h
      exact ⟨ao, cv, hk.heap h1 (fun hx => by have := hx.1; omega), h2.keep hk (fun b hx hy => hx.2 hy)⟩)
    (fun _ _ _ _ _ _ h => h) ⟨_, _, b0, own_nil _ _ _ _⟩ ?round ?done ?stop
  case stop => intro D c pre Y W _ _ _ h; exact h.elim
  case round =>
    rintro l' hl' pre ⟨at', wide⟩ Y W hpre hi hk hY hlt hr
    gi_wp2
    refine ⟨Keep.refl _ _, ?_⟩
    rintro W2 _ hk2 ⟨ao, cv, hv, hown⟩ hr2
    obtain ⟨rest, hrest⟩ := hpre
    rw [HR.out] at hrest
    have hlen : pre.length < R.length := by rw [← hrest]; simp
    have hz2 : n < W2.heap.size := by have := hk2.size; omega
    have hYn : ∀ b, Y b → b ≠ n := fun b hb => by have := (hY b hb).1; omega
    obtain ⟨v, hvv⟩ : ∃ v, Value.slice ao (2 * pre.length) cv = v := ⟨_, rfl⟩
    rw [hvv] at hown hv
    obtain ⟨g, cap, w3, hrun, hown3, hk3, hg3, hz3⟩ := append_x (P := Tryd.prog) W2 29 3 Tryd.underlying29 tinfo3 rfl (by omega) hown [.int .i64 at'] rfl
      (by intro u hu; simp at hu; subst hu; rfl) (by unfold maxLen; omega) (by omega)
    have hvY : ∀ b, v.ownBlock = some b → Y b := hown.2
    have hg3Y : Y g ∨ W2.heap.size ≤ g := by
      rcases hg3 with h | h
      · exact .inl (hvY g h)
      · exact .inr (by omega)
    have hgn : g ≠ n := by rcases hg3Y with h | h; exact hYn g h; omega
    have k0 := cell_one hv
    have kf := frozen_one hv
    obtain ⟨w4, hw4⟩ : ∃ w4, w3.setCell ⟨n, 0, none⟩ (.slice (some ⟨g, 0, none⟩) (2 * pre.length + 1) cap) = w4 := ⟨_, rfl⟩
    have hv3 : w3.heap[n]? = some (.cells #[v] 29 (0, 0)) := hk3.heap hv (fun hx => hYn n (hvY n hx) rfl)
    have hk4 : Keep (fun b => b = n) w3 w4 := by rw [← hw4]; exact Keep.setCell (X := fun b => b = n) (p := ⟨n, 0, none⟩) (Keep.refl _ _) rfl _
    have hv4 : w4.heap[n]? = some (.cells #[.slice (some ⟨g, 0, none⟩) (2 * pre.length + 1) cap] 29 (0, 0)) := by rw [← hw4]; exact set_at hv3
    have hz4 : w4.heap.size = w3.heap.size := by rw [← hw4]; simp
    have hown4 := hown3.keep hk4 (fun b hb hy => hgn (by rw [← hy, hb]))
    obtain ⟨g5, cap5, w5, hrun5, hown5, hk5, hg5, hz5⟩ := append_x (P := Tryd.prog) w4 29 3 Tryd.underlying29 tinfo3 rfl (by omega) hown4 [.int .i64 wide] rfl
      (by intro u hu; simp at hu; subst hu; rfl) (by unfold maxLen; omega) (by omega)
    have k4 := cell_one hv4
    have k3 := cell_one hv3
    have f3 := frozen_one hv3
    have f4 := frozen_one hv4
    have hk24 : Keep (fun b => b = n ∨ Y b) W2 w4 := (hk3.weaken (fun b _ h => .inr (hvY b h))).trans (hk4.weaken fun b _ h => .inl h)
    have hg5Y : Y g5 ∨ W2.heap.size ≤ g5 := by
      rcases hg5 with h | h
      · have : g = g5 := by simpa [Value.ownBlock] using h
        exact this ▸ hg3Y
      · have := hk24.size; exact .inr (by omega)
    have hg5n : g5 ≠ n := by rcases hg5Y with h | h; exact hYn g5 h; omega
    have hv5 : w5.heap[n]? = some (.cells #[.slice (some ⟨g, 0, none⟩) (2 * pre.length + 1) cap] 29 (0, 0)) := hk5.heap hv4 (fun hx => hgn (by simpa [Value.ownBlock] using hx))
    have f5 := frozen_one hv5
    have k5 := cell_one hv5
    obtain ⟨w6, hw6⟩ : ∃ w6, w5.setCell ⟨n, 0, none⟩ (.slice (some ⟨g5, 0, none⟩) (2 * pre.length + 1 + 1) cap5) = w6 := ⟨_, rfl⟩
    have hk6 : Keep (fun b => b = n) w5 w6 := by rw [← hw6]; exact Keep.setCell (X := fun b => b = n) (p := ⟨n, 0, none⟩) (Keep.refl _ _) rfl _
    have hfin : Kt.Left (fun b => b = n) Y (fun pre Y W => ∃ ao cv, W.heap[n]? = some (.cells #[.slice ao (2 * pre.length) cv] 29 (0, 0)) ∧ OwnS Y 3 1 (.slice ao (2 * pre.length) cv) (2 * pre.length) (intCells (pieceInts pre)) W) (pre ++ [(at', wide)]) W2 w6 := by
      refine ⟨fun b => b = g5, ?_, ?_, some ⟨g5, 0, none⟩, cap5, ?_, ?_⟩
      · have hk45 : Keep (fun b => (b = n ∨ Y b) ∨ W2.heap.size ≤ b) w4 w5 := hk5.weaken (fun b _ h => by
          have : g = b := by simpa [Value.ownBlock] using h
          subst this
          rcases hg3Y with h | h
          · exact .inl (.inr h)
          · exact .inr h)
        have := ((hk24.weaken (Y := fun b => (b = n ∨ Y b) ∨ W2.heap.size ≤ b) (fun b _ h => .inl h)).trans hk45).trans (hk6.weaken fun b _ h => .inl (.inl h))
        exact this.weaken (fun b hb h => by rcases h with h | h; exact h; omega)
      · intro b hb; subst hb; exact hg5Y
      · rw [← hw6]
        have e1 : 2 * (pre ++ [(at', wide)]).length = 2 * pre.length + 1 + 1 := by simp; omega
        rw [e1]
        exact set_at hv5
      · have := hown5.keep hk6 (fun b hb hy => hg5n (by rw [← hy, hb]))
        have e1 : 2 * (pre ++ [(at', wide)]).length = 2 * pre.length + 1 + 1 := by simp; omega
        rw [e1, pieceInts_snoc]
        simpa [intCells] using this
    subst hvv
    obtain ⟨ag, hag⟩ : ∃ ag, (some ⟨g, 0, none⟩ : Option Addr) = ag := ⟨_, rfl⟩
    rw [hag] at hrun hrun5 k4 hw4 k5
    have HF := Lib.hid hfin
    have H3 := Lib.hid hrun
    have H5 := Lib.hid hrun5
    clear hag hz4 hfin hrun hrun5 hown hown3 hown4 hown5 hk3 hk4 hk5 hk6 hk24 hg3 hg5 hvY hk hrest hi hv hv3 hv4 hv5 hg3Y hg5Y
    gi_wp2_with (first | (refine wpListIn_append_eq (o := ⟨some 15, _, _, _, _, _⟩) (by rfl) (by rfl) (by rfl) (by rfl) H3.out ?_) | (refine wpListIn_append_eq (o := ⟨some 19, _, _, _, _, _⟩) (by rfl) (by rfl) (by rfl) (by rfl) H5.out ?_))
    exact HF.out
  case done =>
    rintro D Y W hD hDd ⟨ao, cv, hv, hown⟩ hY hkW
    obtain ⟨v, hvv⟩ : ∃ v, Value.slice ao (2 * (bads s).length) cv = v := ⟨_, rfl⟩
    rw [hvv] at hown hv
    have hbW : Below n w W := hbw.trans (hkW.below (by omega) (fun b hb => by omega))
    have hsl1 : Sl .i64 W v1 l := HV.out.below (by rw [hn]; exact hbW)
    have hsl : Sl .i64 W v l := by
      rw [← HL.out]
      exact sl_of_own hown (by rw [pieceInts_len])
    have hll : l.length ≤ 4611686018427387904 := by
      rw [← HL.out, pieceInts_len, HR.out]; omega
    have C := Lib.hid (sameInts_any v v1 l l W hsl hsl1 hll hll)
    have k0 := cell_one hv
    have hz := hkW.size
    clear hsl hsl1 hown
    gi_wp2_with fail
    refine (callsIn_wide.2 C.out).mono ?_
    rintro e w3 ⟨rfl, hd3⟩
    have hb3 := hd3.below
    have e1 : decide (l = l) = true := by simp
    rw [e1]
    gi_wp2_with fail
    have hD3 : w3.heap[D]? = some (.deferred (some [])) := (hb3.block D (Array.getElem?_eq_some_iff.1 hDd).1).trans hDd
    refine leaves_marks (Ds := [D]) (by simp) (fun D' h => by simp at h; subst h; exact hD3) (fun W' hk' => ⟨_, results_tmp rfl _ _ _, rfl, ?_⟩)
    rw [hn]
    exact (hbW.trans (hb3.mono (by omega))).trans (hk'.below (by have := hb3.size; omega) (fun b hb => by simp at hb; omega))
end Go.Proofs.YtdcpbogabgnooaaDoor
