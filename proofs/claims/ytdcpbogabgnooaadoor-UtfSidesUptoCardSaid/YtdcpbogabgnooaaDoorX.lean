/- The document's lists of what is ill-formed, and its mended text. -/
import Derived.Test.YtdcpbogabgnooaaDoorS
import Derived.Laws.IdiomStrings
namespace Go.Proofs.YtdcpbogabgnooaaDoor
open Go Go.RowKit Go.Kt Go.Shelf

theorem tinfo50 : (Tryd.prog.info? 50).map (fun i => (i.zero, i.size, i.bytes)) = some (some (.agg #[.int .i64 0, .int .i64 0]), 2, 16) := by kernel_rfl

/-- The cells of a list of pieces. -/
def pieceCells (l : List (Nat × Nat)) : List Value := l.flatMap fun p => [.int .i64 p.1, .int .i64 p.2]
theorem pieceCells_snoc (l : List (Nat × Nat)) (p : Nat × Nat) : pieceCells (l ++ [p]) = pieceCells l ++ [.int .i64 p.1, .int .i64 p.2] := by simp [pieceCells]
theorem badsF_len (s : ByteArray) : ∀ f i, (badsF s f i).length ≤ f
  | 0, _ => by simp [badsF]
  | f + 1, i => by
    rw [badsF]
    split
    · split
      · have := badsF_len s f (i + badK s i)
        simp; omega
      · have := badsF_len s f (i + (wideI s i).toNat)
        omega
    · simp
theorem bads_len (s : ByteArray) : (bads s).length ≤ s.size := badsF_len s s.size 0

theorem begunI_bd (s : ByteArray) (i : Nat) (hi : i < s.size) : 0 ≤ (begunI s i).1 ∧ (begunI s i).1 ≤ 4 ∧ 0 ≤ (begunI s i).2 ∧ (begunI s i).2 ≤ 4 := by
  have hb := bgT_bd (leadI (B s i)) (s.size - i) (B s (i + 1)) (B s (i + 2)) (B s (i + 3)) (by omega)
  have hl := leadI_bd (B s i)
  rw [begunI_eq]
  split
  · simp
  · simp only; omega

set_option maxRecDepth 100000 in
theorem refBad_any (s : ByteArray) (w : World) (hs : s.size ≤ 8796093022207) :
    Calls Tryd.prog 38 #[.string s] w fun e w' => ∃ v, e = .returned v ∧ OwnS (fun b => w.heap.size ≤ b) 50 2 v (bads s).length (pieceCells (bads s)) w' ∧ Below w.heap.size w w' := by
  obtain ⟨R, hR⟩ : ∃ R, bads s = R := ⟨_, rfl⟩
  have HR := Lib.hid hR
  have hRl : R.length ≤ s.size := by rw [← hR]; exact bads_len s
  rw [hR]; clear hR
  go_enter Tryd.func38, Tryd.ntmps38
  go_wp2
  go_loopw [3, 4] (fun v i wr => ∃ (pre : List (Nat × Nat)) (k f : Nat) (ao : Option Addr) (cv : Nat), k ≤ s.size ∧ i = .int .i64 k ∧ pre ++ badsF s f k = R ∧ s.size ≤ f + k ∧ v = .slice ao pre.length cv ∧
    OwnS (fun b => w.heap.size ≤ b) 50 2 v pre.length (pieceCells pre) wr ∧ Below w.heap.size w wr) (fun _ i _ => s.size - (RowKit.intOf i).toNat)
  case atStart => exact ⟨[], 0, s.size, none, 0, by omega, rfl, HR.out, by omega, rfl, own_nil _ _ _ _, Below.refl _ _⟩
  case round =>
    obtain ⟨pre, k, f, ao, cv, hk, rfl, hp, hf, rfl, hown, hb⟩ := hrel
    have HP := Lib.hid hp; clear hp
    have HO := Lib.hid hown; clear hown
    by_cases hlt : k < s.size
    · obtain ⟨f', rfl⟩ : ∃ f', f = f' + 1 := ⟨f - 1, by omega⟩
      have stp : badsF s (f' + 1) k = if wideI s k = 0 then (k, badK s k) :: badsF s f' (k + badK s k) else badsF s f' (k + (wideI s k).toNat) := by simp only [badsF]; rw [if_pos hlt]
      have Stp := Lib.hid stp; clear stp
      have c := Lib.hid fun w => begun_any s k w hlt (by omega)
      obtain ⟨g1, g2, g3, g4⟩ := begunI_bd s k hlt
      have gw : wideI s k = if (begunI s k).1 != (begunI s k).2 then 0 else (begunI s k).2 := rfl
      have gk : badK s k = ((begunI s k).1).toNat.max 1 := rfl
      have gb := wideI_bd s k hlt
      have gkb := badK_bd s k hlt
      generalize badK s k = bk at *
      generalize wideI s k = wi at *
      generalize begunI s k = r at *
      obtain ⟨k1, n1⟩ := r
      simp only at g1 g2 g3 g4 gw gk c
      by_cases he : k1 = n1 ∧ n1 > 0
      · obtain ⟨rfl, hn⟩ := he
        have gw' : wi = k1 := by rw [gw]; simp
        clear gw gk
        have Gw := Lib.hid gw'
        clear gw'
        go_wp2_with fail
        refine (c.out _).mono ?_
        rintro e w' ⟨rfl, rfl⟩
        go_wp2
        go_roundw
        case rel => exact ⟨pre, k + k1.toNat, f', ao, cv, by have := Gw.out; omega, by go_num, by rw [← HP.out, Stp.out, if_neg (by rw [Gw.out]; omega), Gw.out], by omega, rfl, HO.out, hb⟩
        case measure => simp [RowKit.intOf]; omega
      · have gw' : wi = 0 := by
          rw [gw]
          by_cases h : k1 = n1
          · subst h; simp; omega
          · simp [h]
        clear gw
        have Gw := Lib.hid gw'
        have Gk := Lib.hid gk
        clear gw' gk
        have hlen : pre.length + 1 ≤ s.size := by
          have := congrArg List.length HP.out
          rw [Stp.out, if_pos Gw.out] at this
          simp at this; omega
        obtain ⟨g, cap, w2, hrun, hown2, hk2, hg2, hz2⟩ := append_x (P := Tryd.prog) wr 44 50 Tryd.underlying44 tinfo50 rfl (by omega) HO.out [.int .i64 k, .int .i64 (max k1 1)] rfl
          (by intro u hu; simp at hu; rcases hu with rfl | rfl <;> rfl) (by unfold maxLen; omega) (by omega)
        have hmx : ((max k1 1 : Int)) = (bk : Int) := by rw [Gk.out]; simp only [Nat.max_def]; split <;> omega
        have HG : Hid (OwnS (fun b => w.heap.size ≤ b) 50 2 (.slice (some ⟨g, 0, none⟩) (pre.length + 1) cap) (pre ++ [(k, bk)]).length (pieceCells (pre ++ [(k, bk)])) w2 ∧ Below w.heap.size w w2) := Lib.hid (by
          have hge : w.heap.size ≤ g := by
            rcases hg2 with h | h
            · exact HO.out.2 g h
            · have := hb.size; omega
          refine ⟨?_, hb.trans (hk2.below hb.size fun b h => HO.out.2 b h)⟩
          have := hown2.weaken (Z := fun b => w.heap.size ≤ b) (fun b h => by subst h; exact hge)
          rw [pieceCells_snoc]
          simpa [hmx] using this)
        have HRun := Lib.hid hrun
        have HP2 : Hid ((pre ++ [(k, bk)]) ++ badsF s f' (k + bk) = R) := Lib.hid (by rw [← HP.out, Stp.out, if_pos Gw.out]; simp)
        have Hmx := Lib.hid hmx
        have e3 : ((k : Int) + max k1 1) = ((k + bk : Nat) : Int) := by rw [hmx]; simp
        have E3 := Lib.hid e3
        clear hrun hown2 hk2 hg2 hz2 hmx HO HP Gk e3
        have hcase : (k1 == n1) = true ∧ decide (n1 > 0) = false ∨ (k1 == n1) = false := by
          by_cases h : k1 = n1
          · left; subst h; simp; omega
          · right; simpa using h
        rcases hcase with ⟨h, h'⟩ | h
        all_goals
          go_wp2_with fail
          refine (c.out _).mono ?_
          rintro e w' ⟨rfl, rfl⟩
          go_wp2_with (at_builtin; refine wpList_append_eq rfl rfl rfl rfl HRun.out ?_)
          go_roundw
          case rel => exact ⟨pre ++ [(k, bk)], k + bk, f', some ⟨g, 0, none⟩, cap, by omega, by rw [E3.out], HP2.out, by omega, by simp, HG.out.1, HG.out.2⟩
          case measure => rw [E3.out]; simp [RowKit.intOf]; omega
    · have hfin : R = pre := by
        rw [← HP.out]
        cases f <;> simp [badsF, hlt]
      have Fin := Lib.hid hfin; clear hfin
      go_wp2
      go_ret
      rw [Fin.out]
      exact ⟨_, rfl, HO.out, hb⟩

/-- A slice of bytes of the call's own, that holds l. -/
def OwnB (Y : Nat → Prop) (v : Value) (l : List UInt8) (W : World) : Prop := W.ownsRowF 0 5 1 v l.length (Lib.byteCells l) ∧ ∀ g, v.ownBlock = some g → Y g
theorem OwnB.nil (Y : Nat → Prop) (W : World) : OwnB Y (.slice none 0 0) [] W := ⟨World.ownsRowF_nil W 0 5 1, fun _ h => by cases h⟩
theorem OwnB.slice {Y : Nat → Prop} {v : Value} {l : List UInt8} {W : World} (h : OwnB Y v l W) : ∃ ao cap, v = .slice ao l.length cap := by
  rcases h.1.2 with ⟨hv, hn⟩ | ⟨g, cap, cur, fz, hv, _⟩
  · exact ⟨none, 0, by rw [hv, hn]⟩
  · exact ⟨_, _, hv⟩
theorem OwnB.append {Y : Nat → Prop} {v : Value} {l : List UInt8} {W : World} (h : OwnB Y v l W) (n0 : Nat) (hn : n0 ≤ W.heap.size) (hY : ∀ g, Y g → n0 ≤ g) (s : ByteArray) (hl : l.length + s.size ≤ 140737488355328) :
    ∃ ao cap W', (∀ ty, (Builtin.append_ #[57, 9] ty #[v, .string s]).run Tryd.prog W = .ok (.slice ao (l.length + s.size) cap) W') ∧ OwnB (fun b => n0 ≤ b) (.slice ao (l.length + s.size) cap) (l ++ s.data.toList) W' ∧ Below n0 W W' := by
  obtain ⟨v', w', hrun, h1, hk, hf⟩ := append_str (P := Tryd.prog) W 57 9 5 Tryd.underlying57 Tryd.underlying9 tinfo5 h.1 s hl
  have e1 : (l ++ s.data.toList).length = l.length + s.size := by simp
  have hO : OwnB (fun b => n0 ≤ b) v' (l ++ s.data.toList) w' := ⟨by
    rw [e1, show Lib.byteCells (l ++ s.data.toList) = Lib.byteCells l ++ Lib.strCells s by simp [Lib.byteCells, Lib.strCells]]
    exact h1, fun g hg => by
      rcases hf g hg with q | q
      · exact hY g (h.2 g q)
      · omega⟩
  obtain ⟨ao, cap, rfl⟩ := hO.slice
  rw [e1] at hrun hO
  exact ⟨ao, cap, w', hrun, hO, hk.below hn fun b hb => hY b (h.2 b hb)⟩
theorem OwnB.text {Y : Nat → Prop} {v : Value} {l : List UInt8} {W : World} (h : OwnB Y v l W) : (convert 57 9 v).run Tryd.prog W = .ok (.string ⟨l.toArray⟩) W := by
  rcases h.1.2 with ⟨hv, hn⟩ | ⟨g, cap, cur, fz, hv, _⟩
  · have : l = [] := List.eq_nil_of_length_eq_zero hn
    subst this; subst hv
    simp [convert, Conv.bytesToString, run_underlying Tryd.underlying57, run_underlying Tryd.underlying9, run_underlying Tryd.underlying5]
    rfl
  · subst hv
    refine run_convert_bytes_back W 57 9 5 ⟨g, 0, none⟩ cap l Tryd.underlying57 Tryd.underlying5 Tryd.underlying9 fun j hj => ?_
    refine h.1.cells rfl j _ ?_
    simp [Lib.byteCells, hj]

theorem pieceCells_get (l : List (Nat × Nat)) : ∀ (i : Nat) (p : Nat × Nat), l[i]? = some p → (pieceCells l)[2 * i]? = some (.int .i64 p.1) ∧ (pieceCells l)[2 * i + 1]? = some (.int .i64 p.2) := by
  induction l with
  | nil => intro i p h; simp at h
  | cons q r ih =>
    intro i p h
    cases i with
    | zero => simp at h; subst h; simp [pieceCells]
    | succ i =>
      simp at h
      obtain ⟨h1, h2⟩ := ih i p h
      simp only [pieceCells] at h1 h2
      exact ⟨by simpa [pieceCells, Nat.mul_add] using h1, by simpa [pieceCells, Nat.mul_add] using h2⟩
/-- A slice of pieces, read. -/
theorem piece_slice {Y : Nat → Prop} {v : Value} {l : List (Nat × Nat)} {W : World} (h : OwnS Y 50 2 v l.length (pieceCells l) W) :
    ∃ ao cap, v = .slice ao l.length cap ∧ (∀ g, v.ownBlock = some g → Y g) ∧ (l = [] ∨ ∃ g, ao = some ⟨g, 0, none⟩ ∧ Y g ∧ ∀ (i : Nat) (p : Nat × Nat), l[i]? = some p → W.cell? ⟨g, 2 * i, none⟩ = some (.int .i64 p.1) ∧ W.cell? ⟨g, 2 * i + 1, none⟩ = some (.int .i64 p.2)) := by
  rcases h.1.2 with ⟨hv, hn⟩ | ⟨g, cap, cur, hv, rest⟩
  · exact ⟨none, 0, by rw [hv, hn], h.2, .inl (List.eq_nil_of_length_eq_zero hn)⟩
  · refine ⟨_, cap, hv, h.2, .inr ⟨g, rfl, h.2 g (by rw [hv]; rfl), fun i p hp => ?_⟩⟩
    obtain ⟨h1, h2⟩ := pieceCells_get l i p hp
    have hc := h.1.cells (g := g) (by rw [hv]; rfl)
    have c1 := hc _ _ h1
    have c2 := hc _ _ h2
    rw [Addr.add_lit] at c1 c2
    simpa using And.intro c1 c2
end Go.Proofs.YtdcpbogabgnooaaDoor
