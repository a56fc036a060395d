/- Parts of the proof of what the last text says. -/
import Derived.Test.YtlfdpdlhppgakaaGreatDoorQs5
import Derived.Test.YtlfdpdlhppgakaaGreatDoorQs1
import Derived.LaidHandle
/- The scanner's token (written by wip/tools/gen_token.py). -/
namespace Go.Proofs.YtlfdpdlhppgakaaGreatDoor
open Go Go.RowKit Go.Kt Go.Shelf Go.Lib
attribute [local go_sem] Oper.semAt_some

/-- What token answers, and leaves. -/
def TokOut (D g : Nat) (s : ByteArray) (w : World) (o : TR) (e : Ending) (w' : World) : Prop := KeepG D g w w' ∧ match o with
  | .ok c => e = .returned .nilIface ∧ ScAt D g s c w'
  | .bad no p => e = .returned (fltV no (p.1 : Nat) (p.2.1 : Nat))
theorem ext_nil (s : ByteArray) (i : Nat) : s.extract i i = ⟨#[]⟩ := by
  apply ByteArray.ext
  rw [ByteArray.data_extract]
  simp
  omega
theorem nil_app (b : ByteArray) : (⟨#[]⟩ : ByteArray) ++ b = b := by
  apply ByteArray.ext
  rw [ByteArray.data_append]
  simp
theorem app_list (a b : ByteArray) : (a ++ b).data.toList = a.data.toList ++ b.data.toList := by
  rw [ByteArray.data_append, Array.toList_append]
theorem pieceS_left {s : ByteArray} {c c' : Sc} {r : Int} (h : pieceS s c r = .left c') : c' = { c with st := 4 } := by
  have hp : ∀ {c'}, plainS s c r = .left c' → c' = { c with st := 4 } := by
    intro c' h
    unfold plainS at h
    split at h
    · cases h
    · split at h
      · split at h <;> cases h
      · split at h
        · cases h; rfl
        · split at h
          · cases h; rfl
          · cases h
  unfold pieceS quotedS closingS escapeS at h
  split at h
  · split at h <;> cases h
  · split at h
    · split at h
      · cases h
      · exact hp h
    · split at h
      · split at h
        · exact hp h
        · cases h
      · exact hp h

set_option maxHeartbeats 8000000 in
set_option maxRecDepth 100000 in
theorem token_between (s : ByteArray) (c : Sc) (r : Int) (D g : Nat) (w0 w : World) (hD0 : D ≤ w0.heap.size) (h0 : c.st = 0) (hS : ScAt D g s c w) (hE : ∀ X, KeepG D g w0 X → SEnv X) (hW : KeepG D g w0 w) (hr : 0 ≤ r) (h92 : r = 92 → c.here.2.2 < s.size) (hi : c.here.2.2 ≤ s.size) (hf : c.from.2.2 ≤ c.here.2.2) (hs : s.size ≤ 1048576) (hm : c.text.length ≤ 8388000) (hn : c.toks.length ≤ 2097152) :
    Calls Tryz.prog 27 #[.pointer (some ⟨g, 0, none⟩), .int .i32 r] w (TokOut D g s w0 (betweenS s c r)) := by
  have hD : D ≤ w.heap.size := Nat.le_trans hD0 hW.size
  obtain ⟨st, ⟨l1, c1, i⟩, ⟨l2, c2, i2⟩, text, ⟨l3, c3, i3⟩, bh, toks⟩ := c
  simp only at h92 hi hm hf hn
  obtain ⟨X, hX⟩ : ∃ X, betweenS s ⟨st, (l1, c1, i), (l2, c2, i2), text, (l3, c3, i3), bh, toks⟩ r = X := ⟨_, rfl⟩
  rw [hX]
  have CP : Hid (∀ (V : World) (k : Nat × Nat × Nat) (st2 : Nat) (x : List UInt8) (l : List Tk), x.length ≤ 8388000 → ScAt D g s ⟨st2, (l1, c1, i), k, x, (l3, c3, i3), bh, l⟩ V → KeepG D g w0 V → Calls Tryz.prog 47 #[.pointer (some ⟨g, 0, none⟩), .int .i32 r] V (PieceOut D g s w0 (pieceS s ⟨st2, (l1, c1, i), k, x, (l3, c3, i3), bh, l⟩ r))) := Lib.hid fun V k st2 x l hx hS hb => spiece_any s _ r D g w0 V hD0 hS hE hb hr h92 hi hs hx
  have HDe := Lib.hid hD0
  have HX := Lib.hid (And.intro hi (And.intro hf (And.intro hs (And.intro hm hn))))
  clear hE hm hn hD0
  simp only at h0
  subst h0
  obtain ⟨tv, kv, hg, hDg, hR⟩ := hS
  have hR : Rows D g tv kv _ _ w := hR
  have hgl : g < w.heap.size := (Array.getElem?_eq_some_iff.1 hg).1
  have k1 : w.cell? ⟨g, 1, none⟩ = some (.int .i64 0) := by rw [Lib.cell_of_heap hg]; rfl
  have k2 : w.cell? ⟨g, 2, none⟩ = some (.int .i64 (l1 : Nat)) := by rw [Lib.cell_of_heap hg]; rfl
  have k3 : w.cell? ⟨g, 3, none⟩ = some (.int .i64 (c1 : Nat)) := by rw [Lib.cell_of_heap hg]; rfl
  have k4 : w.cell? ⟨g, 4, none⟩ = some (.int .i64 (i : Nat)) := by rw [Lib.cell_of_heap hg]; rfl
  have k5 : w.cell? ⟨g, 5, none⟩ = some (.int .i64 (l2 : Nat)) := by rw [Lib.cell_of_heap hg]; rfl
  have k6 : w.cell? ⟨g, 6, none⟩ = some (.int .i64 (c2 : Nat)) := by rw [Lib.cell_of_heap hg]; rfl
  have k7 : w.cell? ⟨g, 7, none⟩ = some (.int .i64 (i2 : Nat)) := by rw [Lib.cell_of_heap hg]; rfl
  have k8 : w.cell? ⟨g, 8, none⟩ = some (tv) := by rw [Lib.cell_of_heap hg]; rfl
  have f1 : w.frozen? ⟨g, 1, none⟩ = false := by simp [World.frozen?, hg]
  have f5 : w.frozen? ⟨g, 5, none⟩ = false := by simp [World.frozen?, hg]
  have f6 : w.frozen? ⟨g, 6, none⟩ = false := by simp [World.frozen?, hg]
  have f7 : w.frozen? ⟨g, 7, none⟩ = false := by simp [World.frozen?, hg]
  have f8 : w.frozen? ⟨g, 8, none⟩ = false := by simp [World.frozen?, hg]
  go_enter Tryz.func27, Tryz.ntmps27
  go_wp2
  refine wp_scope_far 4 fun F HQ HJ => ?_
  go_wp2
  refine wp_goto ?_
  refine HJ.out 3 0 _ _ _ (by rfl) ?_
  by_cases hb : isBlk r = true
  · skip
    have hX2 : X = .ok ⟨0, (l1, c1, i), (l1, c1, i), text, (l3, c3, i3), bh, toks⟩ := by rw [← hX]; unfold betweenS; rw [if_pos hb]
    have CB : Hid (∀ V, Calls Tryz.prog 49 #[.int .i32 r] V fun e w' => e = .returned (.bool true) ∧ V = w') := Lib.hid fun V => by have h := isBlank_any r V; rw [hb] at h; exact h
    clear hX
    go_wp2_with fail
    have hk1 : Keep (fun b => b = g) w ((((w.setCell ⟨g, 1, none⟩ (.int .i64 0)).setCell ⟨g, 5, none⟩ (.int .i64 (l1 : Nat))).setCell ⟨g, 6, none⟩ (.int .i64 (c1 : Nat))).setCell ⟨g, 7, none⟩ (.int .i64 (i : Nat))) := keep_set (g := g) (keep_set (g := g) (keep_set (g := g) (keep_set (g := g) (Keep.refl _ w))))
    have hg1 := set_f (a := (l1 : Nat)) (b := (c1 : Nat)) (c := (i : Nat)) (set_1 (z := 0) hg)
    have hR1 := hR.keepg hk1
    have hW1 := hW.trans (Rows.belowg hD hDg hk1)
    have hD1 := Nat.le_trans hD hk1.size
    clear k1 k2 k3 k4 k5 k6 k7 k8 f1 f5 f6 f7 f8 hgl hk1 hg hR hW hD
    generalize (((w.setCell ⟨g, 1, none⟩ (.int .i64 0)).setCell ⟨g, 5, none⟩ (.int .i64 (l1 : Nat))).setCell ⟨g, 6, none⟩ (.int .i64 (c1 : Nat))).setCell ⟨g, 7, none⟩ (.int .i64 (i : Nat)) = V1 at *
    have hg := hg1
    have hgl : g < V1.heap.size := (Array.getElem?_eq_some_iff.1 hg).1
    have k1 : V1.cell? ⟨g, 1, none⟩ = some (.int .i64 0) := by rw [Lib.cell_of_heap hg]; rfl
    have k2 : V1.cell? ⟨g, 2, none⟩ = some (.int .i64 (l1 : Nat)) := by rw [Lib.cell_of_heap hg]; rfl
    have k3 : V1.cell? ⟨g, 3, none⟩ = some (.int .i64 (c1 : Nat)) := by rw [Lib.cell_of_heap hg]; rfl
    have k4 : V1.cell? ⟨g, 4, none⟩ = some (.int .i64 (i : Nat)) := by rw [Lib.cell_of_heap hg]; rfl
    have k5 : V1.cell? ⟨g, 5, none⟩ = some (.int .i64 (l1 : Nat)) := by rw [Lib.cell_of_heap hg]; rfl
    have k6 : V1.cell? ⟨g, 6, none⟩ = some (.int .i64 (c1 : Nat)) := by rw [Lib.cell_of_heap hg]; rfl
    have k7 : V1.cell? ⟨g, 7, none⟩ = some (.int .i64 (i : Nat)) := by rw [Lib.cell_of_heap hg]; rfl
    have k8 : V1.cell? ⟨g, 8, none⟩ = some (tv) := by rw [Lib.cell_of_heap hg]; rfl
    have f1 : V1.frozen? ⟨g, 1, none⟩ = false := by simp [World.frozen?, hg]
    have f5 : V1.frozen? ⟨g, 5, none⟩ = false := by simp [World.frozen?, hg]
    have f6 : V1.frozen? ⟨g, 6, none⟩ = false := by simp [World.frozen?, hg]
    have f7 : V1.frozen? ⟨g, 7, none⟩ = false := by simp [World.frozen?, hg]
    have f8 : V1.frozen? ⟨g, 8, none⟩ = false := by simp [World.frozen?, hg]
    have HG := Lib.hid hg1
    have HR := Lib.hid hR1
    have HD := Lib.hid (And.intro hD1 (And.intro hDg hW1))
    clear hg hg1 hR1 hW1 hD1 hDg
    refine (CB.out _).mono ?_
    rintro e w' ⟨rfl, rfl⟩
    go_wp2
    refine HQ _ _ _ _ (by intro l h; cases h) ?_
    go_ret
    try rw [hX2]
    exact ⟨HD.out.2.2, rfl, .of HG.out HD.out.2.1 HR.out⟩
  have hb : isBlk r = false := by simpa using hb
  have CB : Hid (∀ V, Calls Tryz.prog 49 #[.int .i32 r] V fun e w' => e = .returned (.bool false) ∧ V = w') := Lib.hid fun V => by have h := isBlank_any r V; rw [hb] at h; exact h
  by_cases r35 : r = 35
  · subst r35
    have hX2 : X = .ok ⟨1, (l1, c1, i), (l1, c1, i), text, (l3, c3, i3), bh, toks⟩ := by rw [← hX]; unfold betweenS; rw [if_neg (by rw [hb]; decide)]; rw [if_pos rfl]
    clear hX
    go_wp2_with fail
    have hk1 : Keep (fun b => b = g) w ((((w.setCell ⟨g, 1, none⟩ (.int .i64 0)).setCell ⟨g, 5, none⟩ (.int .i64 (l1 : Nat))).setCell ⟨g, 6, none⟩ (.int .i64 (c1 : Nat))).setCell ⟨g, 7, none⟩ (.int .i64 (i : Nat))) := keep_set (g := g) (keep_set (g := g) (keep_set (g := g) (keep_set (g := g) (Keep.refl _ w))))
    have hg1 := set_f (a := (l1 : Nat)) (b := (c1 : Nat)) (c := (i : Nat)) (set_1 (z := 0) hg)
    have hR1 := hR.keepg hk1
    have hW1 := hW.trans (Rows.belowg hD hDg hk1)
    have hD1 := Nat.le_trans hD hk1.size
    clear k1 k2 k3 k4 k5 k6 k7 k8 f1 f5 f6 f7 f8 hgl hk1 hg hR hW hD
    generalize (((w.setCell ⟨g, 1, none⟩ (.int .i64 0)).setCell ⟨g, 5, none⟩ (.int .i64 (l1 : Nat))).setCell ⟨g, 6, none⟩ (.int .i64 (c1 : Nat))).setCell ⟨g, 7, none⟩ (.int .i64 (i : Nat)) = V1 at *
    have hg := hg1
    have hgl : g < V1.heap.size := (Array.getElem?_eq_some_iff.1 hg).1
    have k1 : V1.cell? ⟨g, 1, none⟩ = some (.int .i64 0) := by rw [Lib.cell_of_heap hg]; rfl
    have k2 : V1.cell? ⟨g, 2, none⟩ = some (.int .i64 (l1 : Nat)) := by rw [Lib.cell_of_heap hg]; rfl
    have k3 : V1.cell? ⟨g, 3, none⟩ = some (.int .i64 (c1 : Nat)) := by rw [Lib.cell_of_heap hg]; rfl
    have k4 : V1.cell? ⟨g, 4, none⟩ = some (.int .i64 (i : Nat)) := by rw [Lib.cell_of_heap hg]; rfl
    have k5 : V1.cell? ⟨g, 5, none⟩ = some (.int .i64 (l1 : Nat)) := by rw [Lib.cell_of_heap hg]; rfl
    have k6 : V1.cell? ⟨g, 6, none⟩ = some (.int .i64 (c1 : Nat)) := by rw [Lib.cell_of_heap hg]; rfl
    have k7 : V1.cell? ⟨g, 7, none⟩ = some (.int .i64 (i : Nat)) := by rw [Lib.cell_of_heap hg]; rfl
    have k8 : V1.cell? ⟨g, 8, none⟩ = some (tv) := by rw [Lib.cell_of_heap hg]; rfl
    have f1 : V1.frozen? ⟨g, 1, none⟩ = false := by simp [World.frozen?, hg]
    have f5 : V1.frozen? ⟨g, 5, none⟩ = false := by simp [World.frozen?, hg]
    have f6 : V1.frozen? ⟨g, 6, none⟩ = false := by simp [World.frozen?, hg]
    have f7 : V1.frozen? ⟨g, 7, none⟩ = false := by simp [World.frozen?, hg]
    have f8 : V1.frozen? ⟨g, 8, none⟩ = false := by simp [World.frozen?, hg]
    have HG := Lib.hid hg1
    have HR := Lib.hid hR1
    have HD := Lib.hid (And.intro hD1 (And.intro hDg hW1))
    clear hg hg1 hR1 hW1 hD1 hDg
    refine (CB.out _).mono ?_
    rintro e w' ⟨rfl, rfl⟩
    go_wp2
    refine wp_goto ?_
    refine HJ.out 2 1 _ _ _ (by rfl) ?_
    go_wp2
    refine HQ _ _ _ _ (by intro l h; cases h) ?_
    go_ret
    try rw [hX2]
    have hk := keep_set (g := g) (k := 1) (u := .int .i64 1) (Keep.refl _ V1)
    exact ⟨HD.out.2.2.trans (Rows.belowg HD.out.1 HD.out.2.1 hk), rfl, .of (set_1 (z := 1) HG.out) HD.out.2.1 (HR.out.keepg hk)⟩
  have n35 : (r == 35) = false := by simpa using r35
  by_cases hq : isSgn (encL r) = true
  · skip
    have CI : Hid (∀ V, Calls Tryz.prog 50 #[.string (Utf8.encode r)] V fun e w' => e = .returned (.bool true) ∧ V = w') := Lib.hid fun V => by have h := isSign_any (Utf8.encode r) V; rw [show isSgn (Utf8.encode r).data.toList = true from hq] at h; exact h
    have hX2 : X = .ok ⟨2, (l1, c1, i), (l1, c1, i), text, (l3, c3, i3), bh, toks⟩ := by rw [← hX]; unfold betweenS; rw [if_neg (by rw [hb]; decide)]; rw [if_neg (by first | exact r35 | decide)]; rw [if_pos hq]
    have hcz : ¬ (s.extract i i).size + (Utf8.encode r).size > 9223372036854775807 := by
      have h1 := encode_size r
      have h2 : (s.extract i i).size = 0 := by rw [ext_nil]; rfl
      omega
    have CS : Hid (∀ V tv kv, V.heap[g]? = some (.cells (scC s 2 (l1 : Nat) (c1 : Nat) (i : Nat) (l1 : Nat) (c1 : Nat) (i : Nat) tv (l3 : Nat) (c3 : Nat) (i3 : Nat) (bh : Nat) kv) 53 (0, 0)) → Calls Tryz.prog 52 #[.pointer (some ⟨g, 0, none⟩)] V fun e w' => e = .returned (.string (s.extract i i)) ∧ Below V.heap.size V w') := Lib.hid fun V tv kv h => since_any s _ _ _ _ _ _ _ _ _ i i tv kv g V h (Nat.le_refl _) hi
    clear hX
    go_wp2_with fail
    have hk1 : Keep (fun b => b = g) w ((((w.setCell ⟨g, 1, none⟩ (.int .i64 0)).setCell ⟨g, 5, none⟩ (.int .i64 (l1 : Nat))).setCell ⟨g, 6, none⟩ (.int .i64 (c1 : Nat))).setCell ⟨g, 7, none⟩ (.int .i64 (i : Nat))) := keep_set (g := g) (keep_set (g := g) (keep_set (g := g) (keep_set (g := g) (Keep.refl _ w))))
    have hg1 := set_f (a := (l1 : Nat)) (b := (c1 : Nat)) (c := (i : Nat)) (set_1 (z := 0) hg)
    have hR1 := hR.keepg hk1
    have hW1 := hW.trans (Rows.belowg hD hDg hk1)
    have hD1 := Nat.le_trans hD hk1.size
    clear k1 k2 k3 k4 k5 k6 k7 k8 f1 f5 f6 f7 f8 hgl hk1 hg hR hW hD
    generalize (((w.setCell ⟨g, 1, none⟩ (.int .i64 0)).setCell ⟨g, 5, none⟩ (.int .i64 (l1 : Nat))).setCell ⟨g, 6, none⟩ (.int .i64 (c1 : Nat))).setCell ⟨g, 7, none⟩ (.int .i64 (i : Nat)) = V1 at *
    have hg := hg1
    have hgl : g < V1.heap.size := (Array.getElem?_eq_some_iff.1 hg).1
    have k1 : V1.cell? ⟨g, 1, none⟩ = some (.int .i64 0) := by rw [Lib.cell_of_heap hg]; rfl
    have k2 : V1.cell? ⟨g, 2, none⟩ = some (.int .i64 (l1 : Nat)) := by rw [Lib.cell_of_heap hg]; rfl
    have k3 : V1.cell? ⟨g, 3, none⟩ = some (.int .i64 (c1 : Nat)) := by rw [Lib.cell_of_heap hg]; rfl
    have k4 : V1.cell? ⟨g, 4, none⟩ = some (.int .i64 (i : Nat)) := by rw [Lib.cell_of_heap hg]; rfl
    have k5 : V1.cell? ⟨g, 5, none⟩ = some (.int .i64 (l1 : Nat)) := by rw [Lib.cell_of_heap hg]; rfl
    have k6 : V1.cell? ⟨g, 6, none⟩ = some (.int .i64 (c1 : Nat)) := by rw [Lib.cell_of_heap hg]; rfl
    have k7 : V1.cell? ⟨g, 7, none⟩ = some (.int .i64 (i : Nat)) := by rw [Lib.cell_of_heap hg]; rfl
    have k8 : V1.cell? ⟨g, 8, none⟩ = some (tv) := by rw [Lib.cell_of_heap hg]; rfl
    have f1 : V1.frozen? ⟨g, 1, none⟩ = false := by simp [World.frozen?, hg]
    have f5 : V1.frozen? ⟨g, 5, none⟩ = false := by simp [World.frozen?, hg]
    have f6 : V1.frozen? ⟨g, 6, none⟩ = false := by simp [World.frozen?, hg]
    have f7 : V1.frozen? ⟨g, 7, none⟩ = false := by simp [World.frozen?, hg]
    have f8 : V1.frozen? ⟨g, 8, none⟩ = false := by simp [World.frozen?, hg]
    have HG := Lib.hid hg1
    have HR := Lib.hid hR1
    have HD := Lib.hid (And.intro hD1 (And.intro hDg hW1))
    clear hg hg1 hR1 hW1 hD1 hDg
    refine (CB.out _).mono ?_
    rintro e w' ⟨rfl, rfl⟩
    go_wp2_with fail
    refine (CI.out _).mono ?_
    rintro e w' ⟨rfl, rfl⟩
    go_wp2
    refine wp_goto ?_
    refine HJ.out 2 2 _ _ _ (by rfl) ?_
    go_wp2_with fail
    refine (CS.out _ _ _ (set_1 (z := 2) HG.out)).mono ?_
    rintro e w2 ⟨rfl, hb2⟩
    have HB2 := Lib.hid hb2
    clear hb2
    go_wp2_with fail
    refine (CI.out _).mono ?_
    rintro e w' ⟨rfl, rfl⟩
    go_wp2
    refine HQ _ _ _ _ (by intro l h; cases h) ?_
    go_ret
    try rw [hX2]
    have hk := keep_set (g := g) (k := 1) (u := .int .i64 2) (Keep.refl _ V1)
    have hz : (V1.setCell ⟨g, 1, none⟩ (.int .i64 2)).heap.size = V1.heap.size := by simp
    have hD2 : D ≤ (V1.setCell ⟨g, 1, none⟩ (.int .i64 2)).heap.size := by rw [hz]; exact HD.out.1
    exact ⟨(HD.out.2.2.trans (Rows.belowg HD.out.1 HD.out.2.1 hk)).trans (toG HB2.out), rfl, .of ((HB2.out.block g (by rw [hz]; exact hgl)).trans (set_1 (z := 2) HG.out)) HD.out.2.1 ((HR.out.keepg hk).below HB2.out)⟩
  have hq : isSgn (encL r) = false := by simpa using hq
  have CI : Hid (∀ V, Calls Tryz.prog 50 #[.string (Utf8.encode r)] V fun e w' => e = .returned (.bool false) ∧ V = w') := Lib.hid fun V => by have h := isSign_any (Utf8.encode r) V; rw [show isSgn (Utf8.encode r).data.toList = false from hq] at h; exact h
  by_cases r91 : r = 91
  · subst r91
    have hX2 : X = .ok ⟨3, (l1, c1, i), (l1, c1, i), text, (l3, c3, i3), bh, toks⟩ := by rw [← hX]; unfold betweenS; rw [if_neg (by rw [hb]; decide)]; rw [if_neg (by first | exact r35 | decide)]; rw [if_neg (by rw [hq]; decide)]; rw [if_pos rfl]
    clear hX
    go_wp2_with fail
    have hk1 : Keep (fun b => b = g) w ((((w.setCell ⟨g, 1, none⟩ (.int .i64 0)).setCell ⟨g, 5, none⟩ (.int .i64 (l1 : Nat))).setCell ⟨g, 6, none⟩ (.int .i64 (c1 : Nat))).setCell ⟨g, 7, none⟩ (.int .i64 (i : Nat))) := keep_set (g := g) (keep_set (g := g) (keep_set (g := g) (keep_set (g := g) (Keep.refl _ w))))
    have hg1 := set_f (a := (l1 : Nat)) (b := (c1 : Nat)) (c := (i : Nat)) (set_1 (z := 0) hg)
    have hR1 := hR.keepg hk1
    have hW1 := hW.trans (Rows.belowg hD hDg hk1)
    have hD1 := Nat.le_trans hD hk1.size
    clear k1 k2 k3 k4 k5 k6 k7 k8 f1 f5 f6 f7 f8 hgl hk1 hg hR hW hD
    generalize (((w.setCell ⟨g, 1, none⟩ (.int .i64 0)).setCell ⟨g, 5, none⟩ (.int .i64 (l1 : Nat))).setCell ⟨g, 6, none⟩ (.int .i64 (c1 : Nat))).setCell ⟨g, 7, none⟩ (.int .i64 (i : Nat)) = V1 at *
    have hg := hg1
    have hgl : g < V1.heap.size := (Array.getElem?_eq_some_iff.1 hg).1
    have k1 : V1.cell? ⟨g, 1, none⟩ = some (.int .i64 0) := by rw [Lib.cell_of_heap hg]; rfl
    have k2 : V1.cell? ⟨g, 2, none⟩ = some (.int .i64 (l1 : Nat)) := by rw [Lib.cell_of_heap hg]; rfl
    have k3 : V1.cell? ⟨g, 3, none⟩ = some (.int .i64 (c1 : Nat)) := by rw [Lib.cell_of_heap hg]; rfl
    have k4 : V1.cell? ⟨g, 4, none⟩ = some (.int .i64 (i : Nat)) := by rw [Lib.cell_of_heap hg]; rfl
    have k5 : V1.cell? ⟨g, 5, none⟩ = some (.int .i64 (l1 : Nat)) := by rw [Lib.cell_of_heap hg]; rfl
    have k6 : V1.cell? ⟨g, 6, none⟩ = some (.int .i64 (c1 : Nat)) := by rw [Lib.cell_of_heap hg]; rfl
    have k7 : V1.cell? ⟨g, 7, none⟩ = some (.int .i64 (i : Nat)) := by rw [Lib.cell_of_heap hg]; rfl
    have k8 : V1.cell? ⟨g, 8, none⟩ = some (tv) := by rw [Lib.cell_of_heap hg]; rfl
    have f1 : V1.frozen? ⟨g, 1, none⟩ = false := by simp [World.frozen?, hg]
    have f5 : V1.frozen? ⟨g, 5, none⟩ = false := by simp [World.frozen?, hg]
    have f6 : V1.frozen? ⟨g, 6, none⟩ = false := by simp [World.frozen?, hg]
    have f7 : V1.frozen? ⟨g, 7, none⟩ = false := by simp [World.frozen?, hg]
    have f8 : V1.frozen? ⟨g, 8, none⟩ = false := by simp [World.frozen?, hg]
    have HG := Lib.hid hg1
    have HR := Lib.hid hR1
    have HD := Lib.hid (And.intro hD1 (And.intro hDg hW1))
    clear hg hg1 hR1 hW1 hD1 hDg
    refine (CB.out _).mono ?_
    rintro e w' ⟨rfl, rfl⟩
    go_wp2_with fail
    refine (CI.out _).mono ?_
    rintro e w' ⟨rfl, rfl⟩
    go_wp2
    refine wp_goto ?_
    refine HJ.out 2 3 _ _ _ (by rfl) ?_
    go_wp2
    refine HQ _ _ _ _ (by intro l h; cases h) ?_
    go_ret
    try rw [hX2]
    have hk := keep_set (g := g) (k := 1) (u := .int .i64 3) (Keep.refl _ V1)
    exact ⟨HD.out.2.2.trans (Rows.belowg HD.out.1 HD.out.2.1 hk), rfl, .of (set_1 (z := 3) HG.out) HD.out.2.1 (HR.out.keepg hk)⟩
  have n91 : (r == 91) = false := by simpa using r91
  by_cases r93 : r = 93
  · subst r93
    have hX2 : X = .bad 25 (l1, c1, i) := by rw [← hX]; unfold betweenS; rw [if_neg (by rw [hb]; decide)]; rw [if_neg (by first | exact r35 | decide)]; rw [if_neg (by rw [hq]; decide)]; rw [if_neg (by first | exact r91 | decide)]; rw [if_pos rfl]
    have CF := Lib.hid (fun V => plFault_any (l1, c1, i) 25 V)
    unfold plV at CF
    clear hX
    go_wp2_with fail
    have hk1 : Keep (fun b => b = g) w ((((w.setCell ⟨g, 1, none⟩ (.int .i64 0)).setCell ⟨g, 5, none⟩ (.int .i64 (l1 : Nat))).setCell ⟨g, 6, none⟩ (.int .i64 (c1 : Nat))).setCell ⟨g, 7, none⟩ (.int .i64 (i : Nat))) := keep_set (g := g) (keep_set (g := g) (keep_set (g := g) (keep_set (g := g) (Keep.refl _ w))))
    have hg1 := set_f (a := (l1 : Nat)) (b := (c1 : Nat)) (c := (i : Nat)) (set_1 (z := 0) hg)
    have hR1 := hR.keepg hk1
    have hW1 := hW.trans (Rows.belowg hD hDg hk1)
    have hD1 := Nat.le_trans hD hk1.size
    clear k1 k2 k3 k4 k5 k6 k7 k8 f1 f5 f6 f7 f8 hgl hk1 hg hR hW hD
    generalize (((w.setCell ⟨g, 1, none⟩ (.int .i64 0)).setCell ⟨g, 5, none⟩ (.int .i64 (l1 : Nat))).setCell ⟨g, 6, none⟩ (.int .i64 (c1 : Nat))).setCell ⟨g, 7, none⟩ (.int .i64 (i : Nat)) = V1 at *
    have hg := hg1
    have hgl : g < V1.heap.size := (Array.getElem?_eq_some_iff.1 hg).1
    have k1 : V1.cell? ⟨g, 1, none⟩ = some (.int .i64 0) := by rw [Lib.cell_of_heap hg]; rfl
    have k2 : V1.cell? ⟨g, 2, none⟩ = some (.int .i64 (l1 : Nat)) := by rw [Lib.cell_of_heap hg]; rfl
    have k3 : V1.cell? ⟨g, 3, none⟩ = some (.int .i64 (c1 : Nat)) := by rw [Lib.cell_of_heap hg]; rfl
    have k4 : V1.cell? ⟨g, 4, none⟩ = some (.int .i64 (i : Nat)) := by rw [Lib.cell_of_heap hg]; rfl
    have k5 : V1.cell? ⟨g, 5, none⟩ = some (.int .i64 (l1 : Nat)) := by rw [Lib.cell_of_heap hg]; rfl
    have k6 : V1.cell? ⟨g, 6, none⟩ = some (.int .i64 (c1 : Nat)) := by rw [Lib.cell_of_heap hg]; rfl
    have k7 : V1.cell? ⟨g, 7, none⟩ = some (.int .i64 (i : Nat)) := by rw [Lib.cell_of_heap hg]; rfl
    have k8 : V1.cell? ⟨g, 8, none⟩ = some (tv) := by rw [Lib.cell_of_heap hg]; rfl
    have f1 : V1.frozen? ⟨g, 1, none⟩ = false := by simp [World.frozen?, hg]
    have f5 : V1.frozen? ⟨g, 5, none⟩ = false := by simp [World.frozen?, hg]
    have f6 : V1.frozen? ⟨g, 6, none⟩ = false := by simp [World.frozen?, hg]
    have f7 : V1.frozen? ⟨g, 7, none⟩ = false := by simp [World.frozen?, hg]
    have f8 : V1.frozen? ⟨g, 8, none⟩ = false := by simp [World.frozen?, hg]
    have HG := Lib.hid hg1
    have HR := Lib.hid hR1
    have HD := Lib.hid (And.intro hD1 (And.intro hDg hW1))
    clear hg hg1 hR1 hW1 hD1 hDg
    refine (CB.out _).mono ?_
    rintro e w' ⟨rfl, rfl⟩
    go_wp2_with fail
    refine (CI.out _).mono ?_
    rintro e w' ⟨rfl, rfl⟩
    go_wp2_with fail
    refine (CF.out _).mono ?_
    rintro e w2 ⟨rfl, hb2⟩
    have HB2 := Lib.hid hb2
    clear hb2
    go_wp2
    refine HQ _ _ _ _ (by intro l h; cases h) ?_
    go_ret
    try rw [hX2]
    exact ⟨HD.out.2.2.trans (toG HB2.out), rfl⟩
  have n93 : (r == 93) = false := by simpa using r93
  by_cases r42 : r = 42
  · subst r42
    have hX2 : X = .bad 4 (l1, c1, i) := by rw [← hX]; unfold betweenS; rw [if_neg (by rw [hb]; decide)]; rw [if_neg (by first | exact r35 | decide)]; rw [if_neg (by rw [hq]; decide)]; rw [if_neg (by first | exact r91 | decide)]; rw [if_neg (by first | exact r93 | decide)]; rw [if_pos rfl]
    have CF := Lib.hid (fun V => plFault_any (l1, c1, i) 4 V)
    unfold plV at CF
    clear hX
    go_wp2_with fail
    have hk1 : Keep (fun b => b = g) w ((((w.setCell ⟨g, 1, none⟩ (.int .i64 0)).setCell ⟨g, 5, none⟩ (.int .i64 (l1 : Nat))).setCell ⟨g, 6, none⟩ (.int .i64 (c1 : Nat))).setCell ⟨g, 7, none⟩ (.int .i64 (i : Nat))) := keep_set (g := g) (keep_set (g := g) (keep_set (g := g) (keep_set (g := g) (Keep.refl _ w))))
    have hg1 := set_f (a := (l1 : Nat)) (b := (c1 : Nat)) (c := (i : Nat)) (set_1 (z := 0) hg)
    have hR1 := hR.keepg hk1
    have hW1 := hW.trans (Rows.belowg hD hDg hk1)
    have hD1 := Nat.le_trans hD hk1.size
    clear k1 k2 k3 k4 k5 k6 k7 k8 f1 f5 f6 f7 f8 hgl hk1 hg hR hW hD
    generalize (((w.setCell ⟨g, 1, none⟩ (.int .i64 0)).setCell ⟨g, 5, none⟩ (.int .i64 (l1 : Nat))).setCell ⟨g, 6, none⟩ (.int .i64 (c1 : Nat))).setCell ⟨g, 7, none⟩ (.int .i64 (i : Nat)) = V1 at *
    have hg := hg1
    have hgl : g < V1.heap.size := (Array.getElem?_eq_some_iff.1 hg).1
    have k1 : V1.cell? ⟨g, 1, none⟩ = some (.int .i64 0) := by rw [Lib.cell_of_heap hg]; rfl
    have k2 : V1.cell? ⟨g, 2, none⟩ = some (.int .i64 (l1 : Nat)) := by rw [Lib.cell_of_heap hg]; rfl
    have k3 : V1.cell? ⟨g, 3, none⟩ = some (.int .i64 (c1 : Nat)) := by rw [Lib.cell_of_heap hg]; rfl
    have k4 : V1.cell? ⟨g, 4, none⟩ = some (.int .i64 (i : Nat)) := by rw [Lib.cell_of_heap hg]; rfl
    have k5 : V1.cell? ⟨g, 5, none⟩ = some (.int .i64 (l1 : Nat)) := by rw [Lib.cell_of_heap hg]; rfl
    have k6 : V1.cell? ⟨g, 6, none⟩ = some (.int .i64 (c1 : Nat)) := by rw [Lib.cell_of_heap hg]; rfl
    have k7 : V1.cell? ⟨g, 7, none⟩ = some (.int .i64 (i : Nat)) := by rw [Lib.cell_of_heap hg]; rfl
    have k8 : V1.cell? ⟨g, 8, none⟩ = some (tv) := by rw [Lib.cell_of_heap hg]; rfl
    have f1 : V1.frozen? ⟨g, 1, none⟩ = false := by simp [World.frozen?, hg]
    have f5 : V1.frozen? ⟨g, 5, none⟩ = false := by simp [World.frozen?, hg]
    have f6 : V1.frozen? ⟨g, 6, none⟩ = false := by simp [World.frozen?, hg]
    have f7 : V1.frozen? ⟨g, 7, none⟩ = false := by simp [World.frozen?, hg]
    have f8 : V1.frozen? ⟨g, 8, none⟩ = false := by simp [World.frozen?, hg]
    have HG := Lib.hid hg1
    have HR := Lib.hid hR1
    have HD := Lib.hid (And.intro hD1 (And.intro hDg hW1))
    clear hg hg1 hR1 hW1 hD1 hDg
    refine (CB.out _).mono ?_
    rintro e w' ⟨rfl, rfl⟩
    go_wp2_with fail
    refine (CI.out _).mono ?_
    rintro e w' ⟨rfl, rfl⟩
    go_wp2_with fail
    refine (CF.out _).mono ?_
    rintro e w2 ⟨rfl, hb2⟩
    have HB2 := Lib.hid hb2
    clear hb2
    go_wp2
    refine HQ _ _ _ _ (by intro l h; cases h) ?_
    go_ret
    try rw [hX2]
    exact ⟨HD.out.2.2.trans (toG HB2.out), rfl⟩
  have n42 : (r == 42) = false := by simpa using r42
  have hX2 : X = (plainS s ⟨4, (l1, c1, i), (l1, c1, i), [], (l3, c3, i3), bh, toks⟩ r).out := by rw [← hX]; unfold betweenS; rw [if_neg (by rw [hb]; decide)]; rw [if_neg (by first | exact r35 | decide)]; rw [if_neg (by rw [hq]; decide)]; rw [if_neg (by first | exact r91 | decide)]; rw [if_neg (by first | exact r93 | decide)]; rw [if_neg (by first | exact r42 | decide)]
  clear hX
  go_wp2_with fail
  have hk1 : Keep (fun b => b = g) w ((((w.setCell ⟨g, 1, none⟩ (.int .i64 0)).setCell ⟨g, 5, none⟩ (.int .i64 (l1 : Nat))).setCell ⟨g, 6, none⟩ (.int .i64 (c1 : Nat))).setCell ⟨g, 7, none⟩ (.int .i64 (i : Nat))) := keep_set (g := g) (keep_set (g := g) (keep_set (g := g) (keep_set (g := g) (Keep.refl _ w))))
  have hg1 := set_f (a := (l1 : Nat)) (b := (c1 : Nat)) (c := (i : Nat)) (set_1 (z := 0) hg)
  have hR1 := hR.keepg hk1
  have hW1 := hW.trans (Rows.belowg hD hDg hk1)
  have hD1 := Nat.le_trans hD hk1.size
  clear k1 k2 k3 k4 k5 k6 k7 k8 f1 f5 f6 f7 f8 hgl hk1 hg hR hW hD
  generalize (((w.setCell ⟨g, 1, none⟩ (.int .i64 0)).setCell ⟨g, 5, none⟩ (.int .i64 (l1 : Nat))).setCell ⟨g, 6, none⟩ (.int .i64 (c1 : Nat))).setCell ⟨g, 7, none⟩ (.int .i64 (i : Nat)) = V1 at *
  have hg := hg1
  have hgl : g < V1.heap.size := (Array.getElem?_eq_some_iff.1 hg).1
  have k1 : V1.cell? ⟨g, 1, none⟩ = some (.int .i64 0) := by rw [Lib.cell_of_heap hg]; rfl
  have k2 : V1.cell? ⟨g, 2, none⟩ = some (.int .i64 (l1 : Nat)) := by rw [Lib.cell_of_heap hg]; rfl
  have k3 : V1.cell? ⟨g, 3, none⟩ = some (.int .i64 (c1 : Nat)) := by rw [Lib.cell_of_heap hg]; rfl
  have k4 : V1.cell? ⟨g, 4, none⟩ = some (.int .i64 (i : Nat)) := by rw [Lib.cell_of_heap hg]; rfl
  have k5 : V1.cell? ⟨g, 5, none⟩ = some (.int .i64 (l1 : Nat)) := by rw [Lib.cell_of_heap hg]; rfl
  have k6 : V1.cell? ⟨g, 6, none⟩ = some (.int .i64 (c1 : Nat)) := by rw [Lib.cell_of_heap hg]; rfl
  have k7 : V1.cell? ⟨g, 7, none⟩ = some (.int .i64 (i : Nat)) := by rw [Lib.cell_of_heap hg]; rfl
  have k8 : V1.cell? ⟨g, 8, none⟩ = some (tv) := by rw [Lib.cell_of_heap hg]; rfl
  have f1 : V1.frozen? ⟨g, 1, none⟩ = false := by simp [World.frozen?, hg]
  have f5 : V1.frozen? ⟨g, 5, none⟩ = false := by simp [World.frozen?, hg]
  have f6 : V1.frozen? ⟨g, 6, none⟩ = false := by simp [World.frozen?, hg]
  have f7 : V1.frozen? ⟨g, 7, none⟩ = false := by simp [World.frozen?, hg]
  have f8 : V1.frozen? ⟨g, 8, none⟩ = false := by simp [World.frozen?, hg]
  have HG := Lib.hid hg1
  have HR := Lib.hid hR1
  have HD := Lib.hid (And.intro hD1 (And.intro hDg hW1))
  clear hg hg1 hR1 hW1 hD1 hDg
  refine (CB.out _).mono ?_
  rintro e w' ⟨rfl, rfl⟩
  go_wp2_with fail
  refine (CI.out _).mono ?_
  rintro e w' ⟨rfl, rfl⟩
  go_wp2
  refine wp_goto ?_
  refine HJ.out 2 4 _ _ _ (by rfl) ?_
  go_wp2_with fail
  have hk2 : Keep (fun b => b = g) V1 ((V1.setCell ⟨g, 1, none⟩ (.int .i64 4)).setCell ⟨g, 8, none⟩ (.slice none 0 0)) := keep_set (g := g) (keep_set (g := g) (Keep.refl _ V1))
  have hS2 : ScAt D g s ⟨4, (l1, c1, i), (l1, c1, i), [], (l3, c3, i3), bh, toks⟩ ((V1.setCell ⟨g, 1, none⟩ (.int .i64 4)).setCell ⟨g, 8, none⟩ (.slice none 0 0)) := .of (set_8 (u := .slice none 0 0) (set_1 (z := 4) HG.out)) HD.out.2.1 (HR.out.keepg hk2).nil
  refine (CP.out _ _ _ _ _ (by simp) hS2 (HD.out.2.2.trans (Rows.belowg HD.out.1 HD.out.2.1 hk2))).mono ?_
  rintro e w3 ⟨hb3, h3⟩
  have hpp : pieceS s ⟨4, (l1, c1, i), (l1, c1, i), [], (l3, c3, i3), bh, toks⟩ r = plainS s ⟨4, (l1, c1, i), (l1, c1, i), [], (l3, c3, i3), bh, toks⟩ r := by simp [pieceS]
  rw [hpp] at h3
  clear hk2 hS2 hpp
  cases hp : plainS s ⟨4, (l1, c1, i), (l1, c1, i), [], (l3, c3, i3), bh, toks⟩ r with
  | took c3 =>
    rw [hp] at h3 hX2
    obtain ⟨rfl, hS3⟩ := h3
    have HF := Lib.hid (And.intro hS3 (And.intro hb3 hX2))
    clear hS3 hb3 hX2 hp
    go_wp2
    refine HQ _ _ _ _ (by intro l h; cases h) ?_
    go_ret
    rw [HF.out.2.2]
    exact ⟨HF.out.2.1, rfl, HF.out.1⟩
  | left c3 => exact (plain_left hp hb hq r35 r91 r93 r42).elim
  | bad no p =>
    rw [hp] at h3 hX2
    subst h3
    have HF := Lib.hid (And.intro hb3 hX2)
    clear hb3 hX2 hp
    go_wp2
    refine HQ _ _ _ _ (by intro l h; cases h) ?_
    go_ret
    rw [HF.out.2]
    exact ⟨HF.out.1, rfl⟩
set_option maxHeartbeats 8000000 in
set_option maxRecDepth 100000 in
theorem token_remark (s : ByteArray) (c : Sc) (r : Int) (D g : Nat) (w0 w : World) (hD0 : D ≤ w0.heap.size) (h0 : c.st = 1) (hS : ScAt D g s c w) (hE : ∀ X, KeepG D g w0 X → SEnv X) (hW : KeepG D g w0 w) (hr : 0 ≤ r) (h92 : r = 92 → c.here.2.2 < s.size) (hi : c.here.2.2 ≤ s.size) (hf : c.from.2.2 ≤ c.here.2.2) (hs : s.size ≤ 1048576) (hm : c.text.length ≤ 8388000) (hn : c.toks.length ≤ 2097152) :
    Calls Tryz.prog 27 #[.pointer (some ⟨g, 0, none⟩), .int .i32 r] w (TokOut D g s w0 (remarkS s c r)) := by
  have hD : D ≤ w.heap.size := Nat.le_trans hD0 hW.size
  obtain ⟨st, ⟨l1, c1, i⟩, ⟨l2, c2, i2⟩, text, ⟨l3, c3, i3⟩, bh, toks⟩ := c
  simp only at h92 hi hm hf hn
  obtain ⟨X, hX⟩ : ∃ X, remarkS s ⟨st, (l1, c1, i), (l2, c2, i2), text, (l3, c3, i3), bh, toks⟩ r = X := ⟨_, rfl⟩
  rw [hX]
  have CP : Hid (∀ (V : World) (k : Nat × Nat × Nat) (st2 : Nat) (x : List UInt8) (l : List Tk), x.length ≤ 8388000 → ScAt D g s ⟨st2, (l1, c1, i), k, x, (l3, c3, i3), bh, l⟩ V → KeepG D g w0 V → Calls Tryz.prog 47 #[.pointer (some ⟨g, 0, none⟩), .int .i32 r] V (PieceOut D g s w0 (pieceS s ⟨st2, (l1, c1, i), k, x, (l3, c3, i3), bh, l⟩ r))) := Lib.hid fun V k st2 x l hx hS hb => spiece_any s _ r D g w0 V hD0 hS hE hb hr h92 hi hs hx
  have HDe := Lib.hid hD0
  have HX := Lib.hid (And.intro hi (And.intro hf (And.intro hs (And.intro hm hn))))
  clear hE hm hn hD0
  simp only at h0
  subst h0
  obtain ⟨tv, kv, hg, hDg, hR⟩ := hS
  have hR : Rows D g tv kv _ _ w := hR
  have hgl : g < w.heap.size := (Array.getElem?_eq_some_iff.1 hg).1
  have k1 : w.cell? ⟨g, 1, none⟩ = some (.int .i64 1) := by rw [Lib.cell_of_heap hg]; rfl
  have k2 : w.cell? ⟨g, 2, none⟩ = some (.int .i64 (l1 : Nat)) := by rw [Lib.cell_of_heap hg]; rfl
  have k3 : w.cell? ⟨g, 3, none⟩ = some (.int .i64 (c1 : Nat)) := by rw [Lib.cell_of_heap hg]; rfl
  have k4 : w.cell? ⟨g, 4, none⟩ = some (.int .i64 (i : Nat)) := by rw [Lib.cell_of_heap hg]; rfl
  have k5 : w.cell? ⟨g, 5, none⟩ = some (.int .i64 (l2 : Nat)) := by rw [Lib.cell_of_heap hg]; rfl
  have k6 : w.cell? ⟨g, 6, none⟩ = some (.int .i64 (c2 : Nat)) := by rw [Lib.cell_of_heap hg]; rfl
  have k7 : w.cell? ⟨g, 7, none⟩ = some (.int .i64 (i2 : Nat)) := by rw [Lib.cell_of_heap hg]; rfl
  have k8 : w.cell? ⟨g, 8, none⟩ = some (tv) := by rw [Lib.cell_of_heap hg]; rfl
  have f1 : w.frozen? ⟨g, 1, none⟩ = false := by simp [World.frozen?, hg]
  have f5 : w.frozen? ⟨g, 5, none⟩ = false := by simp [World.frozen?, hg]
  have f6 : w.frozen? ⟨g, 6, none⟩ = false := by simp [World.frozen?, hg]
  have f7 : w.frozen? ⟨g, 7, none⟩ = false := by simp [World.frozen?, hg]
  have f8 : w.frozen? ⟨g, 8, none⟩ = false := by simp [World.frozen?, hg]
  by_cases r10 : r = 10
  · subst r10
    have hX2 : betweenS s ⟨1, (l1, c1, i), (l2, c2, i2), text, (l3, c3, i3), bh, toks⟩ 10 = X := by rw [← hX]; unfold remarkS; rw [if_pos rfl]
    clear hX
    have hX := hX2
    clear hX2
    go_enter Tryz.func27, Tryz.ntmps27
    go_wp2
    refine wp_scope_far 4 fun F HQ HJ => ?_
    go_wp2
    refine wp_goto ?_
    refine HJ.out 3 1 _ _ _ (by rfl) ?_
    go_wp2
    have hk1 := keep_set (g := g) (k := 1) (u := .int .i64 1) (Keep.refl _ w)
    have hg1 := set_1 (z := 1) hg
    have hR1 := hR.keepg hk1
    have hW1 := hW.trans (Rows.belowg hD hDg hk1)
    have hD1 := Nat.le_trans hD hk1.size
    clear k1 k2 k3 k4 k5 k6 k7 k8 f1 f5 f6 f7 f8 hgl hk1 hg hR hW hD
    generalize w.setCell ⟨g, 1, none⟩ (.int .i64 1) = V at *
    have hg := hg1
    have hR := hR1
    have hW := hW1
    have hD := hD1
    clear hg1 hR1 hW1 hD1
    have hgl : g < V.heap.size := (Array.getElem?_eq_some_iff.1 hg).1
    have k1 : V.cell? ⟨g, 1, none⟩ = some (.int .i64 1) := by rw [Lib.cell_of_heap hg]; rfl
    have k2 : V.cell? ⟨g, 2, none⟩ = some (.int .i64 (l1 : Nat)) := by rw [Lib.cell_of_heap hg]; rfl
    have k3 : V.cell? ⟨g, 3, none⟩ = some (.int .i64 (c1 : Nat)) := by rw [Lib.cell_of_heap hg]; rfl
    have k4 : V.cell? ⟨g, 4, none⟩ = some (.int .i64 (i : Nat)) := by rw [Lib.cell_of_heap hg]; rfl
    have k5 : V.cell? ⟨g, 5, none⟩ = some (.int .i64 (l2 : Nat)) := by rw [Lib.cell_of_heap hg]; rfl
    have k6 : V.cell? ⟨g, 6, none⟩ = some (.int .i64 (c2 : Nat)) := by rw [Lib.cell_of_heap hg]; rfl
    have k7 : V.cell? ⟨g, 7, none⟩ = some (.int .i64 (i2 : Nat)) := by rw [Lib.cell_of_heap hg]; rfl
    have k8 : V.cell? ⟨g, 8, none⟩ = some (tv) := by rw [Lib.cell_of_heap hg]; rfl
    have f1 : V.frozen? ⟨g, 1, none⟩ = false := by simp [World.frozen?, hg]
    have f5 : V.frozen? ⟨g, 5, none⟩ = false := by simp [World.frozen?, hg]
    have f6 : V.frozen? ⟨g, 6, none⟩ = false := by simp [World.frozen?, hg]
    have f7 : V.frozen? ⟨g, 7, none⟩ = false := by simp [World.frozen?, hg]
    have f8 : V.frozen? ⟨g, 8, none⟩ = false := by simp [World.frozen?, hg]
    refine wp_goto ?_
    refine HJ.out 2 0 _ _ _ (by rfl) ?_
    have hb : isBlk 10 = true := by decide
    have hX2 : X = .ok ⟨0, (l1, c1, i), (l1, c1, i), text, (l3, c3, i3), bh, toks⟩ := by rw [← hX]; unfold betweenS; rw [if_pos hb]
    have CB : Hid (∀ V, Calls Tryz.prog 49 #[.int .i32 10] V fun e w' => e = .returned (.bool true) ∧ V = w') := Lib.hid fun V => by have h := isBlank_any 10 V; rw [hb] at h; exact h
    clear hX
    go_wp2_with fail
    have hk1 : Keep (fun b => b = g) V ((((V.setCell ⟨g, 1, none⟩ (.int .i64 0)).setCell ⟨g, 5, none⟩ (.int .i64 (l1 : Nat))).setCell ⟨g, 6, none⟩ (.int .i64 (c1 : Nat))).setCell ⟨g, 7, none⟩ (.int .i64 (i : Nat))) := keep_set (g := g) (keep_set (g := g) (keep_set (g := g) (keep_set (g := g) (Keep.refl _ V))))
    have hg1 := set_f (a := (l1 : Nat)) (b := (c1 : Nat)) (c := (i : Nat)) (set_1 (z := 0) hg)
    have hR1 := hR.keepg hk1
    have hW1 := hW.trans (Rows.belowg hD hDg hk1)
    have hD1 := Nat.le_trans hD hk1.size
    clear k1 k2 k3 k4 k5 k6 k7 k8 f1 f5 f6 f7 f8 hgl hk1 hg hR hW hD
    generalize (((V.setCell ⟨g, 1, none⟩ (.int .i64 0)).setCell ⟨g, 5, none⟩ (.int .i64 (l1 : Nat))).setCell ⟨g, 6, none⟩ (.int .i64 (c1 : Nat))).setCell ⟨g, 7, none⟩ (.int .i64 (i : Nat)) = V1 at *
    have hg := hg1
    have hgl : g < V1.heap.size := (Array.getElem?_eq_some_iff.1 hg).1
    have k1 : V1.cell? ⟨g, 1, none⟩ = some (.int .i64 0) := by rw [Lib.cell_of_heap hg]; rfl
    have k2 : V1.cell? ⟨g, 2, none⟩ = some (.int .i64 (l1 : Nat)) := by rw [Lib.cell_of_heap hg]; rfl
    have k3 : V1.cell? ⟨g, 3, none⟩ = some (.int .i64 (c1 : Nat)) := by rw [Lib.cell_of_heap hg]; rfl
    have k4 : V1.cell? ⟨g, 4, none⟩ = some (.int .i64 (i : Nat)) := by rw [Lib.cell_of_heap hg]; rfl
    have k5 : V1.cell? ⟨g, 5, none⟩ = some (.int .i64 (l1 : Nat)) := by rw [Lib.cell_of_heap hg]; rfl
    have k6 : V1.cell? ⟨g, 6, none⟩ = some (.int .i64 (c1 : Nat)) := by rw [Lib.cell_of_heap hg]; rfl
    have k7 : V1.cell? ⟨g, 7, none⟩ = some (.int .i64 (i : Nat)) := by rw [Lib.cell_of_heap hg]; rfl
    have k8 : V1.cell? ⟨g, 8, none⟩ = some (tv) := by rw [Lib.cell_of_heap hg]; rfl
    have f1 : V1.frozen? ⟨g, 1, none⟩ = false := by simp [World.frozen?, hg]
    have f5 : V1.frozen? ⟨g, 5, none⟩ = false := by simp [World.frozen?, hg]
    have f6 : V1.frozen? ⟨g, 6, none⟩ = false := by simp [World.frozen?, hg]
    have f7 : V1.frozen? ⟨g, 7, none⟩ = false := by simp [World.frozen?, hg]
    have f8 : V1.frozen? ⟨g, 8, none⟩ = false := by simp [World.frozen?, hg]
    have HG := Lib.hid hg1
    have HR := Lib.hid hR1
    have HD := Lib.hid (And.intro hD1 (And.intro hDg hW1))
    clear hg hg1 hR1 hW1 hD1 hDg
    refine (CB.out _).mono ?_
    rintro e w' ⟨rfl, rfl⟩
    go_wp2
    refine HQ _ _ _ _ (by intro l h; cases h) ?_
    go_ret
    try rw [hX2]
    exact ⟨HD.out.2.2, rfl, .of HG.out HD.out.2.1 HR.out⟩
  have n10 : (r == 10) = false := by simpa using r10
  have hX2 : X = .ok ⟨1, (l1, c1, i), (l2, c2, i2), text, (l3, c3, i3), bh, toks⟩ := by rw [← hX]; unfold remarkS; rw [if_neg r10]
  clear hX
  go_enter Tryz.func27, Tryz.ntmps27
  go_wp2
  refine wp_scope_far 4 fun F HQ HJ => ?_
  go_wp2
  refine wp_goto ?_
  refine HJ.out 3 1 _ _ _ (by rfl) ?_
  go_wp2
  refine HQ _ _ _ _ (by intro l h; cases h) ?_
  go_ret
  try rw [hX2]
  have hk := keep_set (g := g) (k := 1) (u := .int .i64 1) (Keep.refl _ w)
  exact ⟨hW.trans (Rows.belowg hD hDg hk), rfl, .of (set_1 (z := 1) hg) hDg (hR.keepg hk)⟩
set_option maxHeartbeats 8000000 in
set_option maxRecDepth 100000 in
theorem token_sign (s : ByteArray) (c : Sc) (r : Int) (D g : Nat) (w0 w : World) (hD0 : D ≤ w0.heap.size) (h0 : c.st = 2) (hS : ScAt D g s c w) (hE : ∀ X, KeepG D g w0 X → SEnv X) (hW : KeepG D g w0 w) (hr : 0 ≤ r) (h92 : r = 92 → c.here.2.2 < s.size) (hi : c.here.2.2 ≤ s.size) (hf : c.from.2.2 ≤ c.here.2.2) (hs : s.size ≤ 1048576) (hm : c.text.length ≤ 8388000) (hn : c.toks.length ≤ 2097152) :
    Calls Tryz.prog 27 #[.pointer (some ⟨g, 0, none⟩), .int .i32 r] w (TokOut D g s w0 (signS s c r)) := by
  have hD : D ≤ w.heap.size := Nat.le_trans hD0 hW.size
  obtain ⟨st, ⟨l1, c1, i⟩, ⟨l2, c2, i2⟩, text, ⟨l3, c3, i3⟩, bh, toks⟩ := c
  simp only at h92 hi hm hf hn
  obtain ⟨X, hX⟩ : ∃ X, signS s ⟨st, (l1, c1, i), (l2, c2, i2), text, (l3, c3, i3), bh, toks⟩ r = X := ⟨_, rfl⟩
  rw [hX]
  have CP : Hid (∀ (V : World) (k : Nat × Nat × Nat) (st2 : Nat) (x : List UInt8) (l : List Tk), x.length ≤ 8388000 → ScAt D g s ⟨st2, (l1, c1, i), k, x, (l3, c3, i3), bh, l⟩ V → KeepG D g w0 V → Calls Tryz.prog 47 #[.pointer (some ⟨g, 0, none⟩), .int .i32 r] V (PieceOut D g s w0 (pieceS s ⟨st2, (l1, c1, i), k, x, (l3, c3, i3), bh, l⟩ r))) := Lib.hid fun V k st2 x l hx hS hb => spiece_any s _ r D g w0 V hD0 hS hE hb hr h92 hi hs hx
  have HDe := Lib.hid hD0
  have HX := Lib.hid (And.intro hi (And.intro hf (And.intro hs (And.intro hm hn))))
  clear hE hm hn hD0
  simp only at h0
  subst h0
  obtain ⟨tv, kv, hg, hDg, hR⟩ := hS
  have hR : Rows D g tv kv _ _ w := hR
  have hgl : g < w.heap.size := (Array.getElem?_eq_some_iff.1 hg).1
  have k1 : w.cell? ⟨g, 1, none⟩ = some (.int .i64 2) := by rw [Lib.cell_of_heap hg]; rfl
  have k2 : w.cell? ⟨g, 2, none⟩ = some (.int .i64 (l1 : Nat)) := by rw [Lib.cell_of_heap hg]; rfl
  have k3 : w.cell? ⟨g, 3, none⟩ = some (.int .i64 (c1 : Nat)) := by rw [Lib.cell_of_heap hg]; rfl
  have k4 : w.cell? ⟨g, 4, none⟩ = some (.int .i64 (i : Nat)) := by rw [Lib.cell_of_heap hg]; rfl
  have k5 : w.cell? ⟨g, 5, none⟩ = some (.int .i64 (l2 : Nat)) := by rw [Lib.cell_of_heap hg]; rfl
  have k6 : w.cell? ⟨g, 6, none⟩ = some (.int .i64 (c2 : Nat)) := by rw [Lib.cell_of_heap hg]; rfl
  have k7 : w.cell? ⟨g, 7, none⟩ = some (.int .i64 (i2 : Nat)) := by rw [Lib.cell_of_heap hg]; rfl
  have k8 : w.cell? ⟨g, 8, none⟩ = some (tv) := by rw [Lib.cell_of_heap hg]; rfl
  have f1 : w.frozen? ⟨g, 1, none⟩ = false := by simp [World.frozen?, hg]
  have f5 : w.frozen? ⟨g, 5, none⟩ = false := by simp [World.frozen?, hg]
  have f6 : w.frozen? ⟨g, 6, none⟩ = false := by simp [World.frozen?, hg]
  have f7 : w.frozen? ⟨g, 7, none⟩ = false := by simp [World.frozen?, hg]
  have f8 : w.frozen? ⟨g, 8, none⟩ = false := by simp [World.frozen?, hg]
  obtain ⟨A, hA⟩ : ∃ A, s.extract i2 i = A := ⟨_, rfl⟩
  have CS : Hid (∀ V tv kv, V.heap[g]? = some (.cells (scC s 2 (l1 : Nat) (c1 : Nat) (i : Nat) (l2 : Nat) (c2 : Nat) (i2 : Nat) tv (l3 : Nat) (c3 : Nat) (i3 : Nat) (bh : Nat) kv) 53 (0, 0)) → Calls Tryz.prog 52 #[.pointer (some ⟨g, 0, none⟩)] V fun e w' => e = .returned (.string A) ∧ Below V.heap.size V w') := Lib.hid fun V tv kv h => by rw [← hA]; exact since_any s _ _ _ _ _ _ _ _ _ i i2 tv kv g V h hf hi
  have hAz : A.size ≤ 1048576 := by rw [← hA, ByteArray.size_extract]; omega
  have hcz : ¬ A.size + (Utf8.encode r).size > 9223372036854775807 := by have h1 := encode_size r; omega
  have hAl : sinceL s ⟨2, (l1, c1, i), (l2, c2, i2), text, (l3, c3, i3), bh, toks⟩ = A.data.toList := by unfold sinceL; rw [hA]
  have hL : (A ++ Utf8.encode r).data.toList = A.data.toList ++ encL r := app_list _ _
  by_cases hq2 : isSgn (A.data.toList ++ encL r) = true
  · have CI2 : Hid (∀ V, Calls Tryz.prog 50 #[.string (A ++ Utf8.encode r)] V fun e w' => e = .returned (.bool true) ∧ V = w') := Lib.hid fun V => by have h := isSign_any (A ++ Utf8.encode r) V; rw [hL, hq2] at h; exact h
    have hX2 : X = .ok ⟨2, (l1, c1, i), (l2, c2, i2), text, (l3, c3, i3), bh, toks⟩ := by rw [← hX]; unfold signS; rw [hAl, if_pos hq2]
    clear hX hq2 hL hAl hA
    go_enter Tryz.func27, Tryz.ntmps27
    go_wp2
    refine wp_scope_far 4 fun F HQ HJ => ?_
    go_wp2
    refine wp_goto ?_
    refine HJ.out 3 2 _ _ _ (by rfl) ?_
    go_wp2_with fail
    have hk1 := keep_set (g := g) (k := 1) (u := .int .i64 2) (Keep.refl _ w)
    have hg1 := set_1 (z := 2) hg
    have hR1 := hR.keepg hk1
    have hW1 := hW.trans (Rows.belowg hD hDg hk1)
    have hD1 := Nat.le_trans hD hk1.size
    clear k1 k2 k3 k4 k5 k6 k7 k8 f1 f5 f6 f7 f8 hgl hk1 hg hR hW hD
    generalize w.setCell ⟨g, 1, none⟩ (.int .i64 2) = V at *
    have hg := hg1
    have hR := hR1
    have hW := hW1
    have hD := hD1
    clear hg1 hR1 hW1 hD1
    have hgl : g < V.heap.size := (Array.getElem?_eq_some_iff.1 hg).1
    have k1 : V.cell? ⟨g, 1, none⟩ = some (.int .i64 2) := by rw [Lib.cell_of_heap hg]; rfl
    have k2 : V.cell? ⟨g, 2, none⟩ = some (.int .i64 (l1 : Nat)) := by rw [Lib.cell_of_heap hg]; rfl
    have k3 : V.cell? ⟨g, 3, none⟩ = some (.int .i64 (c1 : Nat)) := by rw [Lib.cell_of_heap hg]; rfl
    have k4 : V.cell? ⟨g, 4, none⟩ = some (.int .i64 (i : Nat)) := by rw [Lib.cell_of_heap hg]; rfl
    have k5 : V.cell? ⟨g, 5, none⟩ = some (.int .i64 (l2 : Nat)) := by rw [Lib.cell_of_heap hg]; rfl
    have k6 : V.cell? ⟨g, 6, none⟩ = some (.int .i64 (c2 : Nat)) := by rw [Lib.cell_of_heap hg]; rfl
    have k7 : V.cell? ⟨g, 7, none⟩ = some (.int .i64 (i2 : Nat)) := by rw [Lib.cell_of_heap hg]; rfl
    have k8 : V.cell? ⟨g, 8, none⟩ = some (tv) := by rw [Lib.cell_of_heap hg]; rfl
    have f1 : V.frozen? ⟨g, 1, none⟩ = false := by simp [World.frozen?, hg]
    have f5 : V.frozen? ⟨g, 5, none⟩ = false := by simp [World.frozen?, hg]
    have f6 : V.frozen? ⟨g, 6, none⟩ = false := by simp [World.frozen?, hg]
    have f7 : V.frozen? ⟨g, 7, none⟩ = false := by simp [World.frozen?, hg]
    have f8 : V.frozen? ⟨g, 8, none⟩ = false := by simp [World.frozen?, hg]
    refine (CS.out _ _ _ hg).mono ?_
    rintro e w2 ⟨rfl, hb2⟩
    have hg2 := (hb2.block g hgl).trans hg
    have hR2 := hR.below hb2
    have hW2 := hW.trans (toG hb2)
    have hD2 := Nat.le_trans hD hb2.size
    clear k1 k2 k3 k4 k5 k6 k7 k8 f1 f5 f6 f7 f8 hgl hb2 hg hR hW hD
    have hg := hg2
    have hR := hR2
    have hW := hW2
    have hD := hD2
    clear hg2 hR2 hW2 hD2
    have hgl : g < w2.heap.size := (Array.getElem?_eq_some_iff.1 hg).1
    have k1 : w2.cell? ⟨g, 1, none⟩ = some (.int .i64 2) := by rw [Lib.cell_of_heap hg]; rfl
    have k2 : w2.cell? ⟨g, 2, none⟩ = some (.int .i64 (l1 : Nat)) := by rw [Lib.cell_of_heap hg]; rfl
    have k3 : w2.cell? ⟨g, 3, none⟩ = some (.int .i64 (c1 : Nat)) := by rw [Lib.cell_of_heap hg]; rfl
    have k4 : w2.cell? ⟨g, 4, none⟩ = some (.int .i64 (i : Nat)) := by rw [Lib.cell_of_heap hg]; rfl
    have k5 : w2.cell? ⟨g, 5, none⟩ = some (.int .i64 (l2 : Nat)) := by rw [Lib.cell_of_heap hg]; rfl
    have k6 : w2.cell? ⟨g, 6, none⟩ = some (.int .i64 (c2 : Nat)) := by rw [Lib.cell_of_heap hg]; rfl
    have k7 : w2.cell? ⟨g, 7, none⟩ = some (.int .i64 (i2 : Nat)) := by rw [Lib.cell_of_heap hg]; rfl
    have k8 : w2.cell? ⟨g, 8, none⟩ = some (tv) := by rw [Lib.cell_of_heap hg]; rfl
    have f1 : w2.frozen? ⟨g, 1, none⟩ = false := by simp [World.frozen?, hg]
    have f5 : w2.frozen? ⟨g, 5, none⟩ = false := by simp [World.frozen?, hg]
    have f6 : w2.frozen? ⟨g, 6, none⟩ = false := by simp [World.frozen?, hg]
    have f7 : w2.frozen? ⟨g, 7, none⟩ = false := by simp [World.frozen?, hg]
    have f8 : w2.frozen? ⟨g, 8, none⟩ = false := by simp [World.frozen?, hg]
    go_wp2_with fail
    refine (CI2.out _).mono ?_
    rintro e w' ⟨rfl, rfl⟩
    go_wp2
    refine HQ _ _ _ _ (by intro l h; cases h) ?_
    go_ret
    try rw [hX2]
    exact ⟨hW, rfl, .of hg hDg hR⟩
  have hq2 : isSgn (A.data.toList ++ encL r) = false := by simpa using hq2
  have CI2 : Hid (∀ V, Calls Tryz.prog 50 #[.string (A ++ Utf8.encode r)] V fun e w' => e = .returned (.bool false) ∧ V = w') := Lib.hid fun V => by have h := isSign_any (A ++ Utf8.encode r) V; rw [hL, hq2] at h; exact h
  have hX2 : betweenS s ⟨2, (l1, c1, i), (l2, c2, i2), text, (l3, c3, i3), bh, toks ++ [⟨2, A.data.toList, (l2, c2, i2)⟩]⟩ r = X := by rw [← hX]; unfold signS; rw [hAl, if_neg (by rw [hq2]; decide)]; rfl
  clear hX hq2 hL hAl hA
  have hX := hX2
  clear hX2
  go_enter Tryz.func27, Tryz.ntmps27
  go_wp2
  refine wp_scope_far 4 fun F HQ HJ => ?_
  go_wp2
  refine wp_goto ?_
  refine HJ.out 3 2 _ _ _ (by rfl) ?_
  go_wp2_with fail
  have hk1 := keep_set (g := g) (k := 1) (u := .int .i64 2) (Keep.refl _ w)
  have hg1 := set_1 (z := 2) hg
  have hR1 := hR.keepg hk1
  have hW1 := hW.trans (Rows.belowg hD hDg hk1)
  have hD1 := Nat.le_trans hD hk1.size
  clear k1 k2 k3 k4 k5 k6 k7 k8 f1 f5 f6 f7 f8 hgl hk1 hg hR hW hD
  generalize w.setCell ⟨g, 1, none⟩ (.int .i64 2) = V at *
  have hg := hg1
  have hR := hR1
  have hW := hW1
  have hD := hD1
  clear hg1 hR1 hW1 hD1
  have hgl : g < V.heap.size := (Array.getElem?_eq_some_iff.1 hg).1
  have k1 : V.cell? ⟨g, 1, none⟩ = some (.int .i64 2) := by rw [Lib.cell_of_heap hg]; rfl
  have k2 : V.cell? ⟨g, 2, none⟩ = some (.int .i64 (l1 : Nat)) := by rw [Lib.cell_of_heap hg]; rfl
  have k3 : V.cell? ⟨g, 3, none⟩ = some (.int .i64 (c1 : Nat)) := by rw [Lib.cell_of_heap hg]; rfl
  have k4 : V.cell? ⟨g, 4, none⟩ = some (.int .i64 (i : Nat)) := by rw [Lib.cell_of_heap hg]; rfl
  have k5 : V.cell? ⟨g, 5, none⟩ = some (.int .i64 (l2 : Nat)) := by rw [Lib.cell_of_heap hg]; rfl
  have k6 : V.cell? ⟨g, 6, none⟩ = some (.int .i64 (c2 : Nat)) := by rw [Lib.cell_of_heap hg]; rfl
  have k7 : V.cell? ⟨g, 7, none⟩ = some (.int .i64 (i2 : Nat)) := by rw [Lib.cell_of_heap hg]; rfl
  have k8 : V.cell? ⟨g, 8, none⟩ = some (tv) := by rw [Lib.cell_of_heap hg]; rfl
  have f1 : V.frozen? ⟨g, 1, none⟩ = false := by simp [World.frozen?, hg]
  have f5 : V.frozen? ⟨g, 5, none⟩ = false := by simp [World.frozen?, hg]
  have f6 : V.frozen? ⟨g, 6, none⟩ = false := by simp [World.frozen?, hg]
  have f7 : V.frozen? ⟨g, 7, none⟩ = false := by simp [World.frozen?, hg]
  have f8 : V.frozen? ⟨g, 8, none⟩ = false := by simp [World.frozen?, hg]
  refine (CS.out _ _ _ hg).mono ?_
  rintro e w2 ⟨rfl, hb2⟩
  have hg2 := (hb2.block g hgl).trans hg
  have hR2 := hR.below hb2
  have hW2 := hW.trans (toG hb2)
  have hD2 := Nat.le_trans hD hb2.size
  clear k1 k2 k3 k4 k5 k6 k7 k8 f1 f5 f6 f7 f8 hgl hb2 hg hR hW hD
  have hg := hg2
  have hR := hR2
  have hW := hW2
  have hD := hD2
  clear hg2 hR2 hW2 hD2
  have hgl : g < w2.heap.size := (Array.getElem?_eq_some_iff.1 hg).1
  have k1 : w2.cell? ⟨g, 1, none⟩ = some (.int .i64 2) := by rw [Lib.cell_of_heap hg]; rfl
  have k2 : w2.cell? ⟨g, 2, none⟩ = some (.int .i64 (l1 : Nat)) := by rw [Lib.cell_of_heap hg]; rfl
  have k3 : w2.cell? ⟨g, 3, none⟩ = some (.int .i64 (c1 : Nat)) := by rw [Lib.cell_of_heap hg]; rfl
  have k4 : w2.cell? ⟨g, 4, none⟩ = some (.int .i64 (i : Nat)) := by rw [Lib.cell_of_heap hg]; rfl
  have k5 : w2.cell? ⟨g, 5, none⟩ = some (.int .i64 (l2 : Nat)) := by rw [Lib.cell_of_heap hg]; rfl
  have k6 : w2.cell? ⟨g, 6, none⟩ = some (.int .i64 (c2 : Nat)) := by rw [Lib.cell_of_heap hg]; rfl
  have k7 : w2.cell? ⟨g, 7, none⟩ = some (.int .i64 (i2 : Nat)) := by rw [Lib.cell_of_heap hg]; rfl
  have k8 : w2.cell? ⟨g, 8, none⟩ = some (tv) := by rw [Lib.cell_of_heap hg]; rfl
  have f1 : w2.frozen? ⟨g, 1, none⟩ = false := by simp [World.frozen?, hg]
  have f5 : w2.frozen? ⟨g, 5, none⟩ = false := by simp [World.frozen?, hg]
  have f6 : w2.frozen? ⟨g, 6, none⟩ = false := by simp [World.frozen?, hg]
  have f7 : w2.frozen? ⟨g, 7, none⟩ = false := by simp [World.frozen?, hg]
  have f8 : w2.frozen? ⟨g, 8, none⟩ = false := by simp [World.frozen?, hg]
  go_wp2_with fail
  refine (CI2.out _).mono ?_
  rintro e w' ⟨rfl, rfl⟩
  go_wp2_with fail
  refine (CS.out _ _ _ hg).mono ?_
  rintro e w3 ⟨rfl, hb2⟩
  have hg2 := (hb2.block g hgl).trans hg
  have hR2 := hR.below hb2
  have hW2 := hW.trans (toG hb2)
  have hD2 := Nat.le_trans hD hb2.size
  clear k1 k2 k3 k4 k5 k6 k7 k8 f1 f5 f6 f7 f8 hgl hb2 hg hR hW hD
  have hg := hg2
  have hR := hR2
  have hW := hW2
  have hD := hD2
  clear hg2 hR2 hW2 hD2
  have hgl : g < w3.heap.size := (Array.getElem?_eq_some_iff.1 hg).1
  have k1 : w3.cell? ⟨g, 1, none⟩ = some (.int .i64 2) := by rw [Lib.cell_of_heap hg]; rfl
  have k2 : w3.cell? ⟨g, 2, none⟩ = some (.int .i64 (l1 : Nat)) := by rw [Lib.cell_of_heap hg]; rfl
  have k3 : w3.cell? ⟨g, 3, none⟩ = some (.int .i64 (c1 : Nat)) := by rw [Lib.cell_of_heap hg]; rfl
  have k4 : w3.cell? ⟨g, 4, none⟩ = some (.int .i64 (i : Nat)) := by rw [Lib.cell_of_heap hg]; rfl
  have k5 : w3.cell? ⟨g, 5, none⟩ = some (.int .i64 (l2 : Nat)) := by rw [Lib.cell_of_heap hg]; rfl
  have k6 : w3.cell? ⟨g, 6, none⟩ = some (.int .i64 (c2 : Nat)) := by rw [Lib.cell_of_heap hg]; rfl
  have k7 : w3.cell? ⟨g, 7, none⟩ = some (.int .i64 (i2 : Nat)) := by rw [Lib.cell_of_heap hg]; rfl
  have k8 : w3.cell? ⟨g, 8, none⟩ = some (tv) := by rw [Lib.cell_of_heap hg]; rfl
  have f1 : w3.frozen? ⟨g, 1, none⟩ = false := by simp [World.frozen?, hg]
  have f5 : w3.frozen? ⟨g, 5, none⟩ = false := by simp [World.frozen?, hg]
  have f6 : w3.frozen? ⟨g, 6, none⟩ = false := by simp [World.frozen?, hg]
  have f7 : w3.frozen? ⟨g, 7, none⟩ = false := by simp [World.frozen?, hg]
  have f8 : w3.frozen? ⟨g, 8, none⟩ = false := by simp [World.frozen?, hg]
  have hS3 : ScAt D g s ⟨2, (l1, c1, i), (l2, c2, i2), text, (l3, c3, i3), bh, toks⟩ w3 := .of hg hDg hR
  have CA := Lib.hid (add_any s ⟨2, (l1, c1, i), (l2, c2, i2), text, (l3, c3, i3), bh, toks⟩ 2 A g D w0 w3 hS3 hW hD HX.out.2.2.2.2 (by omega))
  clear hS3
  go_wp2_with fail
  refine CA.out.mono ?_
  rintro e w4 ⟨rfl, hS4, hW4, hD4⟩
  clear CA
  clear k1 k2 k3 k4 k5 k6 k7 k8 f1 f5 f6 f7 f8 hgl hg hR hW hD hDg
  obtain ⟨tv, kv, hg, hDg, hR⟩ := hS4
  have hg : w4.heap[g]? = some (.cells (scC s 2 (l1 : Nat) (c1 : Nat) (i : Nat) (l2 : Nat) (c2 : Nat) (i2 : Nat) tv (l3 : Nat) (c3 : Nat) (i3 : Nat) (bh : Nat) kv) 53 (0, 0)) := hg
  have hR : Rows D g tv kv text (toks ++ [⟨2, A.data.toList, (l2, c2, i2)⟩]) w4 := hR
  have hW := hW4
  have hD := hD4
  clear hW4 hD4
  have hgl : g < w4.heap.size := (Array.getElem?_eq_some_iff.1 hg).1
  have k1 : w4.cell? ⟨g, 1, none⟩ = some (.int .i64 2) := by rw [Lib.cell_of_heap hg]; rfl
  have k2 : w4.cell? ⟨g, 2, none⟩ = some (.int .i64 (l1 : Nat)) := by rw [Lib.cell_of_heap hg]; rfl
  have k3 : w4.cell? ⟨g, 3, none⟩ = some (.int .i64 (c1 : Nat)) := by rw [Lib.cell_of_heap hg]; rfl
  have k4 : w4.cell? ⟨g, 4, none⟩ = some (.int .i64 (i : Nat)) := by rw [Lib.cell_of_heap hg]; rfl
  have k5 : w4.cell? ⟨g, 5, none⟩ = some (.int .i64 (l2 : Nat)) := by rw [Lib.cell_of_heap hg]; rfl
  have k6 : w4.cell? ⟨g, 6, none⟩ = some (.int .i64 (c2 : Nat)) := by rw [Lib.cell_of_heap hg]; rfl
  have k7 : w4.cell? ⟨g, 7, none⟩ = some (.int .i64 (i2 : Nat)) := by rw [Lib.cell_of_heap hg]; rfl
  have k8 : w4.cell? ⟨g, 8, none⟩ = some (tv) := by rw [Lib.cell_of_heap hg]; rfl
  have f1 : w4.frozen? ⟨g, 1, none⟩ = false := by simp [World.frozen?, hg]
  have f5 : w4.frozen? ⟨g, 5, none⟩ = false := by simp [World.frozen?, hg]
  have f6 : w4.frozen? ⟨g, 6, none⟩ = false := by simp [World.frozen?, hg]
  have f7 : w4.frozen? ⟨g, 7, none⟩ = false := by simp [World.frozen?, hg]
  have f8 : w4.frozen? ⟨g, 8, none⟩ = false := by simp [World.frozen?, hg]
  clear hAz hcz
  go_wp2_with fail
  refine wp_goto ?_
  refine HJ.out 2 0 _ _ _ (by rfl) ?_
  by_cases hb : isBlk r = true
  · skip
    have hX2 : X = .ok ⟨0, (l1, c1, i), (l1, c1, i), text, (l3, c3, i3), bh, toks ++ [⟨2, A.data.toList, (l2, c2, i2)⟩]⟩ := by rw [← hX]; unfold betweenS; rw [if_pos hb]
    have CB : Hid (∀ V, Calls Tryz.prog 49 #[.int .i32 r] V fun e w' => e = .returned (.bool true) ∧ V = w') := Lib.hid fun V => by have h := isBlank_any r V; rw [hb] at h; exact h
    clear hX
    go_wp2_with fail
    have hk1 : Keep (fun b => b = g) w4 ((((w4.setCell ⟨g, 1, none⟩ (.int .i64 0)).setCell ⟨g, 5, none⟩ (.int .i64 (l1 : Nat))).setCell ⟨g, 6, none⟩ (.int .i64 (c1 : Nat))).setCell ⟨g, 7, none⟩ (.int .i64 (i : Nat))) := keep_set (g := g) (keep_set (g := g) (keep_set (g := g) (keep_set (g := g) (Keep.refl _ w4))))
    have hg1 := set_f (a := (l1 : Nat)) (b := (c1 : Nat)) (c := (i : Nat)) (set_1 (z := 0) hg)
    have hR1 := hR.keepg hk1
    have hW1 := hW.trans (Rows.belowg hD hDg hk1)
    have hD1 := Nat.le_trans hD hk1.size
    clear k1 k2 k3 k4 k5 k6 k7 k8 f1 f5 f6 f7 f8 hgl hk1 hg hR hW hD
    generalize (((w4.setCell ⟨g, 1, none⟩ (.int .i64 0)).setCell ⟨g, 5, none⟩ (.int .i64 (l1 : Nat))).setCell ⟨g, 6, none⟩ (.int .i64 (c1 : Nat))).setCell ⟨g, 7, none⟩ (.int .i64 (i : Nat)) = V1 at *
    have hg := hg1
    have hgl : g < V1.heap.size := (Array.getElem?_eq_some_iff.1 hg).1
    have k1 : V1.cell? ⟨g, 1, none⟩ = some (.int .i64 0) := by rw [Lib.cell_of_heap hg]; rfl
    have k2 : V1.cell? ⟨g, 2, none⟩ = some (.int .i64 (l1 : Nat)) := by rw [Lib.cell_of_heap hg]; rfl
    have k3 : V1.cell? ⟨g, 3, none⟩ = some (.int .i64 (c1 : Nat)) := by rw [Lib.cell_of_heap hg]; rfl
    have k4 : V1.cell? ⟨g, 4, none⟩ = some (.int .i64 (i : Nat)) := by rw [Lib.cell_of_heap hg]; rfl
    have k5 : V1.cell? ⟨g, 5, none⟩ = some (.int .i64 (l1 : Nat)) := by rw [Lib.cell_of_heap hg]; rfl
    have k6 : V1.cell? ⟨g, 6, none⟩ = some (.int .i64 (c1 : Nat)) := by rw [Lib.cell_of_heap hg]; rfl
    have k7 : V1.cell? ⟨g, 7, none⟩ = some (.int .i64 (i : Nat)) := by rw [Lib.cell_of_heap hg]; rfl
    have k8 : V1.cell? ⟨g, 8, none⟩ = some (tv) := by rw [Lib.cell_of_heap hg]; rfl
    have f1 : V1.frozen? ⟨g, 1, none⟩ = false := by simp [World.frozen?, hg]
    have f5 : V1.frozen? ⟨g, 5, none⟩ = false := by simp [World.frozen?, hg]
    have f6 : V1.frozen? ⟨g, 6, none⟩ = false := by simp [World.frozen?, hg]
    have f7 : V1.frozen? ⟨g, 7, none⟩ = false := by simp [World.frozen?, hg]
    have f8 : V1.frozen? ⟨g, 8, none⟩ = false := by simp [World.frozen?, hg]
    have HG := Lib.hid hg1
    have HR := Lib.hid hR1
    have HD := Lib.hid (And.intro hD1 (And.intro hDg hW1))
    clear hg hg1 hR1 hW1 hD1 hDg
    refine (CB.out _).mono ?_
    rintro e w' ⟨rfl, rfl⟩
    go_wp2
    refine HQ _ _ _ _ (by intro l h; cases h) ?_
    go_ret
    try rw [hX2]
    exact ⟨HD.out.2.2, rfl, .of HG.out HD.out.2.1 HR.out⟩
  have hb : isBlk r = false := by simpa using hb
  have CB : Hid (∀ V, Calls Tryz.prog 49 #[.int .i32 r] V fun e w' => e = .returned (.bool false) ∧ V = w') := Lib.hid fun V => by have h := isBlank_any r V; rw [hb] at h; exact h
  by_cases r35 : r = 35
  · subst r35
    have hX2 : X = .ok ⟨1, (l1, c1, i), (l1, c1, i), text, (l3, c3, i3), bh, toks ++ [⟨2, A.data.toList, (l2, c2, i2)⟩]⟩ := by rw [← hX]; unfold betweenS; rw [if_neg (by rw [hb]; decide)]; rw [if_pos rfl]
    clear hX
    go_wp2_with fail
    have hk1 : Keep (fun b => b = g) w4 ((((w4.setCell ⟨g, 1, none⟩ (.int .i64 0)).setCell ⟨g, 5, none⟩ (.int .i64 (l1 : Nat))).setCell ⟨g, 6, none⟩ (.int .i64 (c1 : Nat))).setCell ⟨g, 7, none⟩ (.int .i64 (i : Nat))) := keep_set (g := g) (keep_set (g := g) (keep_set (g := g) (keep_set (g := g) (Keep.refl _ w4))))
    have hg1 := set_f (a := (l1 : Nat)) (b := (c1 : Nat)) (c := (i : Nat)) (set_1 (z := 0) hg)
    have hR1 := hR.keepg hk1
    have hW1 := hW.trans (Rows.belowg hD hDg hk1)
    have hD1 := Nat.le_trans hD hk1.size
    clear k1 k2 k3 k4 k5 k6 k7 k8 f1 f5 f6 f7 f8 hgl hk1 hg hR hW hD
    generalize (((w4.setCell ⟨g, 1, none⟩ (.int .i64 0)).setCell ⟨g, 5, none⟩ (.int .i64 (l1 : Nat))).setCell ⟨g, 6, none⟩ (.int .i64 (c1 : Nat))).setCell ⟨g, 7, none⟩ (.int .i64 (i : Nat)) = V1 at *
    have hg := hg1
    have hgl : g < V1.heap.size := (Array.getElem?_eq_some_iff.1 hg).1
    have k1 : V1.cell? ⟨g, 1, none⟩ = some (.int .i64 0) := by rw [Lib.cell_of_heap hg]; rfl
    have k2 : V1.cell? ⟨g, 2, none⟩ = some (.int .i64 (l1 : Nat)) := by rw [Lib.cell_of_heap hg]; rfl
    have k3 : V1.cell? ⟨g, 3, none⟩ = some (.int .i64 (c1 : Nat)) := by rw [Lib.cell_of_heap hg]; rfl
    have k4 : V1.cell? ⟨g, 4, none⟩ = some (.int .i64 (i : Nat)) := by rw [Lib.cell_of_heap hg]; rfl
    have k5 : V1.cell? ⟨g, 5, none⟩ = some (.int .i64 (l1 : Nat)) := by rw [Lib.cell_of_heap hg]; rfl
    have k6 : V1.cell? ⟨g, 6, none⟩ = some (.int .i64 (c1 : Nat)) := by rw [Lib.cell_of_heap hg]; rfl
    have k7 : V1.cell? ⟨g, 7, none⟩ = some (.int .i64 (i : Nat)) := by rw [Lib.cell_of_heap hg]; rfl
    have k8 : V1.cell? ⟨g, 8, none⟩ = some (tv) := by rw [Lib.cell_of_heap hg]; rfl
    have f1 : V1.frozen? ⟨g, 1, none⟩ = false := by simp [World.frozen?, hg]
    have f5 : V1.frozen? ⟨g, 5, none⟩ = false := by simp [World.frozen?, hg]
    have f6 : V1.frozen? ⟨g, 6, none⟩ = false := by simp [World.frozen?, hg]
    have f7 : V1.frozen? ⟨g, 7, none⟩ = false := by simp [World.frozen?, hg]
    have f8 : V1.frozen? ⟨g, 8, none⟩ = false := by simp [World.frozen?, hg]
    have HG := Lib.hid hg1
    have HR := Lib.hid hR1
    have HD := Lib.hid (And.intro hD1 (And.intro hDg hW1))
    clear hg hg1 hR1 hW1 hD1 hDg
    refine (CB.out _).mono ?_
    rintro e w' ⟨rfl, rfl⟩
    go_wp2
    refine wp_goto ?_
    refine HJ.out 1 1 _ _ _ (by rfl) ?_
    go_wp2
    refine HQ _ _ _ _ (by intro l h; cases h) ?_
    go_ret
    try rw [hX2]
    have hk := keep_set (g := g) (k := 1) (u := .int .i64 1) (Keep.refl _ V1)
    exact ⟨HD.out.2.2.trans (Rows.belowg HD.out.1 HD.out.2.1 hk), rfl, .of (set_1 (z := 1) HG.out) HD.out.2.1 (HR.out.keepg hk)⟩
  have n35 : (r == 35) = false := by simpa using r35
  by_cases hq : isSgn (encL r) = true
  · skip
    have CI : Hid (∀ V, Calls Tryz.prog 50 #[.string (Utf8.encode r)] V fun e w' => e = .returned (.bool true) ∧ V = w') := Lib.hid fun V => by have h := isSign_any (Utf8.encode r) V; rw [show isSgn (Utf8.encode r).data.toList = true from hq] at h; exact h
    have hX2 : X = .ok ⟨2, (l1, c1, i), (l1, c1, i), text, (l3, c3, i3), bh, toks ++ [⟨2, A.data.toList, (l2, c2, i2)⟩]⟩ := by rw [← hX]; unfold betweenS; rw [if_neg (by rw [hb]; decide)]; rw [if_neg (by first | exact r35 | decide)]; rw [if_pos hq]
    have hcz : ¬ (s.extract i i).size + (Utf8.encode r).size > 9223372036854775807 := by
      have h1 := encode_size r
      have h2 : (s.extract i i).size = 0 := by rw [ext_nil]; rfl
      omega
    have CS : Hid (∀ V tv kv, V.heap[g]? = some (.cells (scC s 2 (l1 : Nat) (c1 : Nat) (i : Nat) (l1 : Nat) (c1 : Nat) (i : Nat) tv (l3 : Nat) (c3 : Nat) (i3 : Nat) (bh : Nat) kv) 53 (0, 0)) → Calls Tryz.prog 52 #[.pointer (some ⟨g, 0, none⟩)] V fun e w' => e = .returned (.string (s.extract i i)) ∧ Below V.heap.size V w') := Lib.hid fun V tv kv h => since_any s _ _ _ _ _ _ _ _ _ i i tv kv g V h (Nat.le_refl _) hi
    clear hX
    go_wp2_with fail
    have hk1 : Keep (fun b => b = g) w4 ((((w4.setCell ⟨g, 1, none⟩ (.int .i64 0)).setCell ⟨g, 5, none⟩ (.int .i64 (l1 : Nat))).setCell ⟨g, 6, none⟩ (.int .i64 (c1 : Nat))).setCell ⟨g, 7, none⟩ (.int .i64 (i : Nat))) := keep_set (g := g) (keep_set (g := g) (keep_set (g := g) (keep_set (g := g) (Keep.refl _ w4))))
    have hg1 := set_f (a := (l1 : Nat)) (b := (c1 : Nat)) (c := (i : Nat)) (set_1 (z := 0) hg)
    have hR1 := hR.keepg hk1
    have hW1 := hW.trans (Rows.belowg hD hDg hk1)
    have hD1 := Nat.le_trans hD hk1.size
    clear k1 k2 k3 k4 k5 k6 k7 k8 f1 f5 f6 f7 f8 hgl hk1 hg hR hW hD
    generalize (((w4.setCell ⟨g, 1, none⟩ (.int .i64 0)).setCell ⟨g, 5, none⟩ (.int .i64 (l1 : Nat))).setCell ⟨g, 6, none⟩ (.int .i64 (c1 : Nat))).setCell ⟨g, 7, none⟩ (.int .i64 (i : Nat)) = V1 at *
    have hg := hg1
    have hgl : g < V1.heap.size := (Array.getElem?_eq_some_iff.1 hg).1
    have k1 : V1.cell? ⟨g, 1, none⟩ = some (.int .i64 0) := by rw [Lib.cell_of_heap hg]; rfl
    have k2 : V1.cell? ⟨g, 2, none⟩ = some (.int .i64 (l1 : Nat)) := by rw [Lib.cell_of_heap hg]; rfl
    have k3 : V1.cell? ⟨g, 3, none⟩ = some (.int .i64 (c1 : Nat)) := by rw [Lib.cell_of_heap hg]; rfl
    have k4 : V1.cell? ⟨g, 4, none⟩ = some (.int .i64 (i : Nat)) := by rw [Lib.cell_of_heap hg]; rfl
    have k5 : V1.cell? ⟨g, 5, none⟩ = some (.int .i64 (l1 : Nat)) := by rw [Lib.cell_of_heap hg]; rfl
    have k6 : V1.cell? ⟨g, 6, none⟩ = some (.int .i64 (c1 : Nat)) := by rw [Lib.cell_of_heap hg]; rfl
    have k7 : V1.cell? ⟨g, 7, none⟩ = some (.int .i64 (i : Nat)) := by rw [Lib.cell_of_heap hg]; rfl
    have k8 : V1.cell? ⟨g, 8, none⟩ = some (tv) := by rw [Lib.cell_of_heap hg]; rfl
    have f1 : V1.frozen? ⟨g, 1, none⟩ = false := by simp [World.frozen?, hg]
    have f5 : V1.frozen? ⟨g, 5, none⟩ = false := by simp [World.frozen?, hg]
    have f6 : V1.frozen? ⟨g, 6, none⟩ = false := by simp [World.frozen?, hg]
    have f7 : V1.frozen? ⟨g, 7, none⟩ = false := by simp [World.frozen?, hg]
    have f8 : V1.frozen? ⟨g, 8, none⟩ = false := by simp [World.frozen?, hg]
    have HG := Lib.hid hg1
    have HR := Lib.hid hR1
    have HD := Lib.hid (And.intro hD1 (And.intro hDg hW1))
    clear hg hg1 hR1 hW1 hD1 hDg
    refine (CB.out _).mono ?_
    rintro e w' ⟨rfl, rfl⟩
    go_wp2_with fail
    refine (CI.out _).mono ?_
    rintro e w' ⟨rfl, rfl⟩
    go_wp2
    refine wp_goto ?_
    refine HJ.out 1 2 _ _ _ (by rfl) ?_
    go_wp2_with fail
    refine (CS.out _ _ _ (set_1 (z := 2) HG.out)).mono ?_
    rintro e w2 ⟨rfl, hb2⟩
    have HB2 := Lib.hid hb2
    clear hb2
    go_wp2_with fail
    refine (CI.out _).mono ?_
    rintro e w' ⟨rfl, rfl⟩
    go_wp2
    refine HQ _ _ _ _ (by intro l h; cases h) ?_
    go_ret
    try rw [hX2]
    have hk := keep_set (g := g) (k := 1) (u := .int .i64 2) (Keep.refl _ V1)
    have hz : (V1.setCell ⟨g, 1, none⟩ (.int .i64 2)).heap.size = V1.heap.size := by simp
    have hD2 : D ≤ (V1.setCell ⟨g, 1, none⟩ (.int .i64 2)).heap.size := by rw [hz]; exact HD.out.1
    exact ⟨(HD.out.2.2.trans (Rows.belowg HD.out.1 HD.out.2.1 hk)).trans (toG HB2.out), rfl, .of ((HB2.out.block g (by rw [hz]; exact hgl)).trans (set_1 (z := 2) HG.out)) HD.out.2.1 ((HR.out.keepg hk).below HB2.out)⟩
  have hq : isSgn (encL r) = false := by simpa using hq
  have CI : Hid (∀ V, Calls Tryz.prog 50 #[.string (Utf8.encode r)] V fun e w' => e = .returned (.bool false) ∧ V = w') := Lib.hid fun V => by have h := isSign_any (Utf8.encode r) V; rw [show isSgn (Utf8.encode r).data.toList = false from hq] at h; exact h
  by_cases r91 : r = 91
  · subst r91
    have hX2 : X = .ok ⟨3, (l1, c1, i), (l1, c1, i), text, (l3, c3, i3), bh, toks ++ [⟨2, A.data.toList, (l2, c2, i2)⟩]⟩ := by rw [← hX]; unfold betweenS; rw [if_neg (by rw [hb]; decide)]; rw [if_neg (by first | exact r35 | decide)]; rw [if_neg (by rw [hq]; decide)]; rw [if_pos rfl]
    clear hX
    go_wp2_with fail
    have hk1 : Keep (fun b => b = g) w4 ((((w4.setCell ⟨g, 1, none⟩ (.int .i64 0)).setCell ⟨g, 5, none⟩ (.int .i64 (l1 : Nat))).setCell ⟨g, 6, none⟩ (.int .i64 (c1 : Nat))).setCell ⟨g, 7, none⟩ (.int .i64 (i : Nat))) := keep_set (g := g) (keep_set (g := g) (keep_set (g := g) (keep_set (g := g) (Keep.refl _ w4))))
    have hg1 := set_f (a := (l1 : Nat)) (b := (c1 : Nat)) (c := (i : Nat)) (set_1 (z := 0) hg)
    have hR1 := hR.keepg hk1
    have hW1 := hW.trans (Rows.belowg hD hDg hk1)
    have hD1 := Nat.le_trans hD hk1.size
    clear k1 k2 k3 k4 k5 k6 k7 k8 f1 f5 f6 f7 f8 hgl hk1 hg hR hW hD
    generalize (((w4.setCell ⟨g, 1, none⟩ (.int .i64 0)).setCell ⟨g, 5, none⟩ (.int .i64 (l1 : Nat))).setCell ⟨g, 6, none⟩ (.int .i64 (c1 : Nat))).setCell ⟨g, 7, none⟩ (.int .i64 (i : Nat)) = V1 at *
    have hg := hg1
    have hgl : g < V1.heap.size := (Array.getElem?_eq_some_iff.1 hg).1
    have k1 : V1.cell? ⟨g, 1, none⟩ = some (.int .i64 0) := by rw [Lib.cell_of_heap hg]; rfl
    have k2 : V1.cell? ⟨g, 2, none⟩ = some (.int .i64 (l1 : Nat)) := by rw [Lib.cell_of_heap hg]; rfl
    have k3 : V1.cell? ⟨g, 3, none⟩ = some (.int .i64 (c1 : Nat)) := by rw [Lib.cell_of_heap hg]; rfl
    have k4 : V1.cell? ⟨g, 4, none⟩ = some (.int .i64 (i : Nat)) := by rw [Lib.cell_of_heap hg]; rfl
    have k5 : V1.cell? ⟨g, 5, none⟩ = some (.int .i64 (l1 : Nat)) := by rw [Lib.cell_of_heap hg]; rfl
    have k6 : V1.cell? ⟨g, 6, none⟩ = some (.int .i64 (c1 : Nat)) := by rw [Lib.cell_of_heap hg]; rfl
    have k7 : V1.cell? ⟨g, 7, none⟩ = some (.int .i64 (i : Nat)) := by rw [Lib.cell_of_heap hg]; rfl
    have k8 : V1.cell? ⟨g, 8, none⟩ = some (tv) := by rw [Lib.cell_of_heap hg]; rfl
    have f1 : V1.frozen? ⟨g, 1, none⟩ = false := by simp [World.frozen?, hg]
    have f5 : V1.frozen? ⟨g, 5, none⟩ = false := by simp [World.frozen?, hg]
    have f6 : V1.frozen? ⟨g, 6, none⟩ = false := by simp [World.frozen?, hg]
    have f7 : V1.frozen? ⟨g, 7, none⟩ = false := by simp [World.frozen?, hg]
    have f8 : V1.frozen? ⟨g, 8, none⟩ = false := by simp [World.frozen?, hg]
    have HG := Lib.hid hg1
    have HR := Lib.hid hR1
    have HD := Lib.hid (And.intro hD1 (And.intro hDg hW1))
    clear hg hg1 hR1 hW1 hD1 hDg
    refine (CB.out _).mono ?_
    rintro e w' ⟨rfl, rfl⟩
    go_wp2_with fail
    refine (CI.out _).mono ?_
    rintro e w' ⟨rfl, rfl⟩
    go_wp2
    refine wp_goto ?_
    refine HJ.out 1 3 _ _ _ (by rfl) ?_
    go_wp2
    refine HQ _ _ _ _ (by intro l h; cases h) ?_
    go_ret
    try rw [hX2]
    have hk := keep_set (g := g) (k := 1) (u := .int .i64 3) (Keep.refl _ V1)
    exact ⟨HD.out.2.2.trans (Rows.belowg HD.out.1 HD.out.2.1 hk), rfl, .of (set_1 (z := 3) HG.out) HD.out.2.1 (HR.out.keepg hk)⟩
  have n91 : (r == 91) = false := by simpa using r91
  by_cases r93 : r = 93
  · subst r93
    have hX2 : X = .bad 25 (l1, c1, i) := by rw [← hX]; unfold betweenS; rw [if_neg (by rw [hb]; decide)]; rw [if_neg (by first | exact r35 | decide)]; rw [if_neg (by rw [hq]; decide)]; rw [if_neg (by first | exact r91 | decide)]; rw [if_pos rfl]
    have CF := Lib.hid (fun V => plFault_any (l1, c1, i) 25 V)
    unfold plV at CF
    clear hX
    go_wp2_with fail
    have hk1 : Keep (fun b => b = g) w4 ((((w4.setCell ⟨g, 1, none⟩ (.int .i64 0)).setCell ⟨g, 5, none⟩ (.int .i64 (l1 : Nat))).setCell ⟨g, 6, none⟩ (.int .i64 (c1 : Nat))).setCell ⟨g, 7, none⟩ (.int .i64 (i : Nat))) := keep_set (g := g) (keep_set (g := g) (keep_set (g := g) (keep_set (g := g) (Keep.refl _ w4))))
    have hg1 := set_f (a := (l1 : Nat)) (b := (c1 : Nat)) (c := (i : Nat)) (set_1 (z := 0) hg)
    have hR1 := hR.keepg hk1
    have hW1 := hW.trans (Rows.belowg hD hDg hk1)
    have hD1 := Nat.le_trans hD hk1.size
    clear k1 k2 k3 k4 k5 k6 k7 k8 f1 f5 f6 f7 f8 hgl hk1 hg hR hW hD
    generalize (((w4.setCell ⟨g, 1, none⟩ (.int .i64 0)).setCell ⟨g, 5, none⟩ (.int .i64 (l1 : Nat))).setCell ⟨g, 6, none⟩ (.int .i64 (c1 : Nat))).setCell ⟨g, 7, none⟩ (.int .i64 (i : Nat)) = V1 at *
    have hg := hg1
    have hgl : g < V1.heap.size := (Array.getElem?_eq_some_iff.1 hg).1
    have k1 : V1.cell? ⟨g, 1, none⟩ = some (.int .i64 0) := by rw [Lib.cell_of_heap hg]; rfl
    have k2 : V1.cell? ⟨g, 2, none⟩ = some (.int .i64 (l1 : Nat)) := by rw [Lib.cell_of_heap hg]; rfl
    have k3 : V1.cell? ⟨g, 3, none⟩ = some (.int .i64 (c1 : Nat)) := by rw [Lib.cell_of_heap hg]; rfl
    have k4 : V1.cell? ⟨g, 4, none⟩ = some (.int .i64 (i : Nat)) := by rw [Lib.cell_of_heap hg]; rfl
    have k5 : V1.cell? ⟨g, 5, none⟩ = some (.int .i64 (l1 : Nat)) := by rw [Lib.cell_of_heap hg]; rfl
    have k6 : V1.cell? ⟨g, 6, none⟩ = some (.int .i64 (c1 : Nat)) := by rw [Lib.cell_of_heap hg]; rfl
    have k7 : V1.cell? ⟨g, 7, none⟩ = some (.int .i64 (i : Nat)) := by rw [Lib.cell_of_heap hg]; rfl
    have k8 : V1.cell? ⟨g, 8, none⟩ = some (tv) := by rw [Lib.cell_of_heap hg]; rfl
    have f1 : V1.frozen? ⟨g, 1, none⟩ = false := by simp [World.frozen?, hg]
    have f5 : V1.frozen? ⟨g, 5, none⟩ = false := by simp [World.frozen?, hg]
    have f6 : V1.frozen? ⟨g, 6, none⟩ = false := by simp [World.frozen?, hg]
    have f7 : V1.frozen? ⟨g, 7, none⟩ = false := by simp [World.frozen?, hg]
    have f8 : V1.frozen? ⟨g, 8, none⟩ = false := by simp [World.frozen?, hg]
    have HG := Lib.hid hg1
    have HR := Lib.hid hR1
    have HD := Lib.hid (And.intro hD1 (And.intro hDg hW1))
    clear hg hg1 hR1 hW1 hD1 hDg
    refine (CB.out _).mono ?_
    rintro e w' ⟨rfl, rfl⟩
    go_wp2_with fail
    refine (CI.out _).mono ?_
    rintro e w' ⟨rfl, rfl⟩
    go_wp2_with fail
    refine (CF.out _).mono ?_
    rintro e w2 ⟨rfl, hb2⟩
    have HB2 := Lib.hid hb2
    clear hb2
    go_wp2
    refine HQ _ _ _ _ (by intro l h; cases h) ?_
    go_ret
    try rw [hX2]
    exact ⟨HD.out.2.2.trans (toG HB2.out), rfl⟩
  have n93 : (r == 93) = false := by simpa using r93
  by_cases r42 : r = 42
  · subst r42
    have hX2 : X = .bad 4 (l1, c1, i) := by rw [← hX]; unfold betweenS; rw [if_neg (by rw [hb]; decide)]; rw [if_neg (by first | exact r35 | decide)]; rw [if_neg (by rw [hq]; decide)]; rw [if_neg (by first | exact r91 | decide)]; rw [if_neg (by first | exact r93 | decide)]; rw [if_pos rfl]
    have CF := Lib.hid (fun V => plFault_any (l1, c1, i) 4 V)
    unfold plV at CF
    clear hX
    go_wp2_with fail
    have hk1 : Keep (fun b => b = g) w4 ((((w4.setCell ⟨g, 1, none⟩ (.int .i64 0)).setCell ⟨g, 5, none⟩ (.int .i64 (l1 : Nat))).setCell ⟨g, 6, none⟩ (.int .i64 (c1 : Nat))).setCell ⟨g, 7, none⟩ (.int .i64 (i : Nat))) := keep_set (g := g) (keep_set (g := g) (keep_set (g := g) (keep_set (g := g) (Keep.refl _ w4))))
    have hg1 := set_f (a := (l1 : Nat)) (b := (c1 : Nat)) (c := (i : Nat)) (set_1 (z := 0) hg)
    have hR1 := hR.keepg hk1
    have hW1 := hW.trans (Rows.belowg hD hDg hk1)
    have hD1 := Nat.le_trans hD hk1.size
    clear k1 k2 k3 k4 k5 k6 k7 k8 f1 f5 f6 f7 f8 hgl hk1 hg hR hW hD
    generalize (((w4.setCell ⟨g, 1, none⟩ (.int .i64 0)).setCell ⟨g, 5, none⟩ (.int .i64 (l1 : Nat))).setCell ⟨g, 6, none⟩ (.int .i64 (c1 : Nat))).setCell ⟨g, 7, none⟩ (.int .i64 (i : Nat)) = V1 at *
    have hg := hg1
    have hgl : g < V1.heap.size := (Array.getElem?_eq_some_iff.1 hg).1
    have k1 : V1.cell? ⟨g, 1, none⟩ = some (.int .i64 0) := by rw [Lib.cell_of_heap hg]; rfl
    have k2 : V1.cell? ⟨g, 2, none⟩ = some (.int .i64 (l1 : Nat)) := by rw [Lib.cell_of_heap hg]; rfl
    have k3 : V1.cell? ⟨g, 3, none⟩ = some (.int .i64 (c1 : Nat)) := by rw [Lib.cell_of_heap hg]; rfl
    have k4 : V1.cell? ⟨g, 4, none⟩ = some (.int .i64 (i : Nat)) := by rw [Lib.cell_of_heap hg]; rfl
    have k5 : V1.cell? ⟨g, 5, none⟩ = some (.int .i64 (l1 : Nat)) := by rw [Lib.cell_of_heap hg]; rfl
    have k6 : V1.cell? ⟨g, 6, none⟩ = some (.int .i64 (c1 : Nat)) := by rw [Lib.cell_of_heap hg]; rfl
    have k7 : V1.cell? ⟨g, 7, none⟩ = some (.int .i64 (i : Nat)) := by rw [Lib.cell_of_heap hg]; rfl
    have k8 : V1.cell? ⟨g, 8, none⟩ = some (tv) := by rw [Lib.cell_of_heap hg]; rfl
    have f1 : V1.frozen? ⟨g, 1, none⟩ = false := by simp [World.frozen?, hg]
    have f5 : V1.frozen? ⟨g, 5, none⟩ = false := by simp [World.frozen?, hg]
    have f6 : V1.frozen? ⟨g, 6, none⟩ = false := by simp [World.frozen?, hg]
    have f7 : V1.frozen? ⟨g, 7, none⟩ = false := by simp [World.frozen?, hg]
    have f8 : V1.frozen? ⟨g, 8, none⟩ = false := by simp [World.frozen?, hg]
    have HG := Lib.hid hg1
    have HR := Lib.hid hR1
    have HD := Lib.hid (And.intro hD1 (And.intro hDg hW1))
    clear hg hg1 hR1 hW1 hD1 hDg
    refine (CB.out _).mono ?_
    rintro e w' ⟨rfl, rfl⟩
    go_wp2_with fail
    refine (CI.out _).mono ?_
    rintro e w' ⟨rfl, rfl⟩
    go_wp2_with fail
    refine (CF.out _).mono ?_
    rintro e w2 ⟨rfl, hb2⟩
    have HB2 := Lib.hid hb2
    clear hb2
    go_wp2
    refine HQ _ _ _ _ (by intro l h; cases h) ?_
    go_ret
    try rw [hX2]
    exact ⟨HD.out.2.2.trans (toG HB2.out), rfl⟩
  have n42 : (r == 42) = false := by simpa using r42
  have hX2 : X = (plainS s ⟨4, (l1, c1, i), (l1, c1, i), [], (l3, c3, i3), bh, toks ++ [⟨2, A.data.toList, (l2, c2, i2)⟩]⟩ r).out := by rw [← hX]; unfold betweenS; rw [if_neg (by rw [hb]; decide)]; rw [if_neg (by first | exact r35 | decide)]; rw [if_neg (by rw [hq]; decide)]; rw [if_neg (by first | exact r91 | decide)]; rw [if_neg (by first | exact r93 | decide)]; rw [if_neg (by first | exact r42 | decide)]
  clear hX
  go_wp2_with fail
  have hk1 : Keep (fun b => b = g) w4 ((((w4.setCell ⟨g, 1, none⟩ (.int .i64 0)).setCell ⟨g, 5, none⟩ (.int .i64 (l1 : Nat))).setCell ⟨g, 6, none⟩ (.int .i64 (c1 : Nat))).setCell ⟨g, 7, none⟩ (.int .i64 (i : Nat))) := keep_set (g := g) (keep_set (g := g) (keep_set (g := g) (keep_set (g := g) (Keep.refl _ w4))))
  have hg1 := set_f (a := (l1 : Nat)) (b := (c1 : Nat)) (c := (i : Nat)) (set_1 (z := 0) hg)
  have hR1 := hR.keepg hk1
  have hW1 := hW.trans (Rows.belowg hD hDg hk1)
  have hD1 := Nat.le_trans hD hk1.size
  clear k1 k2 k3 k4 k5 k6 k7 k8 f1 f5 f6 f7 f8 hgl hk1 hg hR hW hD
  generalize (((w4.setCell ⟨g, 1, none⟩ (.int .i64 0)).setCell ⟨g, 5, none⟩ (.int .i64 (l1 : Nat))).setCell ⟨g, 6, none⟩ (.int .i64 (c1 : Nat))).setCell ⟨g, 7, none⟩ (.int .i64 (i : Nat)) = V1 at *
  have hg := hg1
  have hgl : g < V1.heap.size := (Array.getElem?_eq_some_iff.1 hg).1
  have k1 : V1.cell? ⟨g, 1, none⟩ = some (.int .i64 0) := by rw [Lib.cell_of_heap hg]; rfl
  have k2 : V1.cell? ⟨g, 2, none⟩ = some (.int .i64 (l1 : Nat)) := by rw [Lib.cell_of_heap hg]; rfl
  have k3 : V1.cell? ⟨g, 3, none⟩ = some (.int .i64 (c1 : Nat)) := by rw [Lib.cell_of_heap hg]; rfl
  have k4 : V1.cell? ⟨g, 4, none⟩ = some (.int .i64 (i : Nat)) := by rw [Lib.cell_of_heap hg]; rfl
  have k5 : V1.cell? ⟨g, 5, none⟩ = some (.int .i64 (l1 : Nat)) := by rw [Lib.cell_of_heap hg]; rfl
  have k6 : V1.cell? ⟨g, 6, none⟩ = some (.int .i64 (c1 : Nat)) := by rw [Lib.cell_of_heap hg]; rfl
  have k7 : V1.cell? ⟨g, 7, none⟩ = some (.int .i64 (i : Nat)) := by rw [Lib.cell_of_heap hg]; rfl
  have k8 : V1.cell? ⟨g, 8, none⟩ = some (tv) := by rw [Lib.cell_of_heap hg]; rfl
  have f1 : V1.frozen? ⟨g, 1, none⟩ = false := by simp [World.frozen?, hg]
  have f5 : V1.frozen? ⟨g, 5, none⟩ = false := by simp [World.frozen?, hg]
  have f6 : V1.frozen? ⟨g, 6, none⟩ = false := by simp [World.frozen?, hg]
  have f7 : V1.frozen? ⟨g, 7, none⟩ = false := by simp [World.frozen?, hg]
  have f8 : V1.frozen? ⟨g, 8, none⟩ = false := by simp [World.frozen?, hg]
  have HG := Lib.hid hg1
  have HR := Lib.hid hR1
  have HD := Lib.hid (And.intro hD1 (And.intro hDg hW1))
  clear hg hg1 hR1 hW1 hD1 hDg
  refine (CB.out _).mono ?_
  rintro e w' ⟨rfl, rfl⟩
  go_wp2_with fail
  refine (CI.out _).mono ?_
  rintro e w' ⟨rfl, rfl⟩
  go_wp2
  refine wp_goto ?_
  refine HJ.out 1 4 _ _ _ (by rfl) ?_
  go_wp2_with fail
  have hk2 : Keep (fun b => b = g) V1 ((V1.setCell ⟨g, 1, none⟩ (.int .i64 4)).setCell ⟨g, 8, none⟩ (.slice none 0 0)) := keep_set (g := g) (keep_set (g := g) (Keep.refl _ V1))
  have hS2 : ScAt D g s ⟨4, (l1, c1, i), (l1, c1, i), [], (l3, c3, i3), bh, toks ++ [⟨2, A.data.toList, (l2, c2, i2)⟩]⟩ ((V1.setCell ⟨g, 1, none⟩ (.int .i64 4)).setCell ⟨g, 8, none⟩ (.slice none 0 0)) := .of (set_8 (u := .slice none 0 0) (set_1 (z := 4) HG.out)) HD.out.2.1 (HR.out.keepg hk2).nil
  refine (CP.out _ _ _ _ _ (by simp) hS2 (HD.out.2.2.trans (Rows.belowg HD.out.1 HD.out.2.1 hk2))).mono ?_
  rintro e w3 ⟨hb3, h3⟩
  have hpp : pieceS s ⟨4, (l1, c1, i), (l1, c1, i), [], (l3, c3, i3), bh, toks ++ [⟨2, A.data.toList, (l2, c2, i2)⟩]⟩ r = plainS s ⟨4, (l1, c1, i), (l1, c1, i), [], (l3, c3, i3), bh, toks ++ [⟨2, A.data.toList, (l2, c2, i2)⟩]⟩ r := by simp [pieceS]
  rw [hpp] at h3
  clear hk2 hS2 hpp
  cases hp : plainS s ⟨4, (l1, c1, i), (l1, c1, i), [], (l3, c3, i3), bh, toks ++ [⟨2, A.data.toList, (l2, c2, i2)⟩]⟩ r with
  | took c3 =>
    rw [hp] at h3 hX2
    obtain ⟨rfl, hS3⟩ := h3
    have HF := Lib.hid (And.intro hS3 (And.intro hb3 hX2))
    clear hS3 hb3 hX2 hp
    go_wp2
    refine HQ _ _ _ _ (by intro l h; cases h) ?_
    go_ret
    rw [HF.out.2.2]
    exact ⟨HF.out.2.1, rfl, HF.out.1⟩
  | left c3 => exact (plain_left hp hb hq r35 r91 r93 r42).elim
  | bad no p =>
    rw [hp] at h3 hX2
    subst h3
    have HF := Lib.hid (And.intro hb3 hX2)
    clear hb3 hX2 hp
    go_wp2
    refine HQ _ _ _ _ (by intro l h; cases h) ?_
    go_ret
    rw [HF.out.2]
    exact ⟨HF.out.1, rfl⟩
set_option maxHeartbeats 8000000 in
set_option maxRecDepth 100000 in
theorem token_option (s : ByteArray) (c : Sc) (r : Int) (D g : Nat) (w0 w : World) (hD0 : D ≤ w0.heap.size) (h0 : c.st = 3) (ho : c.from.2.2 < c.here.2.2) (hS : ScAt D g s c w) (hE : ∀ X, KeepG D g w0 X → SEnv X) (hW : KeepG D g w0 w) (hr : 0 ≤ r) (h92 : r = 92 → c.here.2.2 < s.size) (hi : c.here.2.2 ≤ s.size) (hf : c.from.2.2 ≤ c.here.2.2) (hs : s.size ≤ 1048576) (hm : c.text.length ≤ 8388000) (hn : c.toks.length ≤ 2097152) :
    Calls Tryz.prog 27 #[.pointer (some ⟨g, 0, none⟩), .int .i32 r] w (TokOut D g s w0 (optionS s c r)) := by
  have hD : D ≤ w.heap.size := Nat.le_trans hD0 hW.size
  obtain ⟨st, ⟨l1, c1, i⟩, ⟨l2, c2, i2⟩, text, ⟨l3, c3, i3⟩, bh, toks⟩ := c
  simp only at h92 hi hm hf hn
  obtain ⟨X, hX⟩ : ∃ X, optionS s ⟨st, (l1, c1, i), (l2, c2, i2), text, (l3, c3, i3), bh, toks⟩ r = X := ⟨_, rfl⟩
  rw [hX]
  have CP : Hid (∀ (V : World) (k : Nat × Nat × Nat) (st2 : Nat) (x : List UInt8) (l : List Tk), x.length ≤ 8388000 → ScAt D g s ⟨st2, (l1, c1, i), k, x, (l3, c3, i3), bh, l⟩ V → KeepG D g w0 V → Calls Tryz.prog 47 #[.pointer (some ⟨g, 0, none⟩), .int .i32 r] V (PieceOut D g s w0 (pieceS s ⟨st2, (l1, c1, i), k, x, (l3, c3, i3), bh, l⟩ r))) := Lib.hid fun V k st2 x l hx hS hb => spiece_any s _ r D g w0 V hD0 hS hE hb hr h92 hi hs hx
  have HDe := Lib.hid hD0
  have HX := Lib.hid (And.intro hi (And.intro hf (And.intro hs (And.intro hm hn))))
  clear hE hm hn hD0
  simp only at ho
  simp only at h0
  subst h0
  obtain ⟨tv, kv, hg, hDg, hR⟩ := hS
  have hR : Rows D g tv kv _ _ w := hR
  have hgl : g < w.heap.size := (Array.getElem?_eq_some_iff.1 hg).1
  have k1 : w.cell? ⟨g, 1, none⟩ = some (.int .i64 3) := by rw [Lib.cell_of_heap hg]; rfl
  have k2 : w.cell? ⟨g, 2, none⟩ = some (.int .i64 (l1 : Nat)) := by rw [Lib.cell_of_heap hg]; rfl
  have k3 : w.cell? ⟨g, 3, none⟩ = some (.int .i64 (c1 : Nat)) := by rw [Lib.cell_of_heap hg]; rfl
  have k4 : w.cell? ⟨g, 4, none⟩ = some (.int .i64 (i : Nat)) := by rw [Lib.cell_of_heap hg]; rfl
  have k5 : w.cell? ⟨g, 5, none⟩ = some (.int .i64 (l2 : Nat)) := by rw [Lib.cell_of_heap hg]; rfl
  have k6 : w.cell? ⟨g, 6, none⟩ = some (.int .i64 (c2 : Nat)) := by rw [Lib.cell_of_heap hg]; rfl
  have k7 : w.cell? ⟨g, 7, none⟩ = some (.int .i64 (i2 : Nat)) := by rw [Lib.cell_of_heap hg]; rfl
  have k8 : w.cell? ⟨g, 8, none⟩ = some (tv) := by rw [Lib.cell_of_heap hg]; rfl
  have f1 : w.frozen? ⟨g, 1, none⟩ = false := by simp [World.frozen?, hg]
  have f5 : w.frozen? ⟨g, 5, none⟩ = false := by simp [World.frozen?, hg]
  have f6 : w.frozen? ⟨g, 6, none⟩ = false := by simp [World.frozen?, hg]
  have f7 : w.frozen? ⟨g, 7, none⟩ = false := by simp [World.frozen?, hg]
  have f8 : w.frozen? ⟨g, 8, none⟩ = false := by simp [World.frozen?, hg]
  by_cases r93 : r = 93
  case neg =>
    have n93 : (r == 93) = false := by simpa using r93
    have hX2 : X = .ok ⟨3, (l1, c1, i), (l2, c2, i2), text, (l3, c3, i3), bh, toks⟩ := by rw [← hX]; unfold optionS; rw [if_neg r93]
    clear hX
    go_enter Tryz.func27, Tryz.ntmps27
    go_wp2
    refine wp_scope_far 4 fun F HQ HJ => ?_
    go_wp2
    refine wp_goto ?_
    refine HJ.out 3 3 _ _ _ (by rfl) ?_
    go_wp2
    refine HQ _ _ _ _ (by intro l h; cases h) ?_
    go_ret
    try rw [hX2]
    have hk := keep_set (g := g) (k := 1) (u := .int .i64 3) (Keep.refl _ w)
    exact ⟨hW.trans (Rows.belowg hD hDg hk), rfl, .of (set_1 (z := 3) hg) hDg (hR.keepg hk)⟩
  subst r93
  obtain ⟨A, hA⟩ : ∃ A, s.extract i2 i = A := ⟨_, rfl⟩
  have CS : Hid (∀ V tv kv, V.heap[g]? = some (.cells (scC s 3 (l1 : Nat) (c1 : Nat) (i : Nat) (l2 : Nat) (c2 : Nat) (i2 : Nat) tv (l3 : Nat) (c3 : Nat) (i3 : Nat) (bh : Nat) kv) 53 (0, 0)) → Calls Tryz.prog 52 #[.pointer (some ⟨g, 0, none⟩)] V fun e w' => e = .returned (.string A) ∧ Below V.heap.size V w') := Lib.hid fun V tv kv h => by rw [← hA]; exact since_any s _ _ _ _ _ _ _ _ _ i i2 tv kv g V h hf hi
  have hAz : A.size = i - i2 := by rw [← hA, ByteArray.size_extract]; omega
  have hAB : A.extract 1 A.size = s.extract (i2 + 1) i := by
    rw [hAz, ← hA]
    apply ByteArray.ext
    simp only [ByteArray.data_extract, Array.extract_extract]
    congr 1 <;> omega
  obtain ⟨E, hE⟩ : ∃ E, evnV (s.extract (i2 + 1) i) = E := ⟨_, rfl⟩
  have hEz : E.length ≤ 140737488351232 := by rw [← hE]; exact evn_len _ (by rw [ByteArray.size_extract]; omega)
  have CV : Hid (∀ V, Calls Tryz.prog 53 #[.string (A.extract 1 A.size)] V fun e w' => e = .returned (.string ⟨E.toArray⟩) ∧ Below V.heap.size V w') := Lib.hid fun V => by
    have h := evened_any (A.extract 1 A.size) V (by rw [hAB, ByteArray.size_extract]; omega)
    rw [show evnV (A.extract 1 A.size) = E by rw [hAB, hE]] at h
    exact h
  have hX2 : X = .ok ⟨0, (l1, c1, i), (l2, c2, i2), text, (l3, c3, i3), bh, toks ++ [⟨3, E, (l2, c2, i2)⟩]⟩ := by rw [← hX, ← hE]; unfold optionS; rw [if_pos rfl]; rfl
  have h1A : (1 : Int) ≤ A.size := by omega
  clear hX hA hAB hE hAz
  go_enter Tryz.func27, Tryz.ntmps27
  go_wp2
  refine wp_scope_far 4 fun F HQ HJ => ?_
  go_wp2
  refine wp_goto ?_
  refine HJ.out 3 3 _ _ _ (by rfl) ?_
  go_wp2_with fail
  have hk1 := keep_set (g := g) (k := 1) (u := .int .i64 3) (Keep.refl _ w)
  have hg1 := set_1 (z := 3) hg
  have hR1 := hR.keepg hk1
  have hW1 := hW.trans (Rows.belowg hD hDg hk1)
  have hD1 := Nat.le_trans hD hk1.size
  clear k1 k2 k3 k4 k5 k6 k7 k8 f1 f5 f6 f7 f8 hgl hk1 hg hR hW hD
  generalize w.setCell ⟨g, 1, none⟩ (.int .i64 3) = V at *
  have hg := hg1
  have hR := hR1
  have hW := hW1
  have hD := hD1
  clear hg1 hR1 hW1 hD1
  have hgl : g < V.heap.size := (Array.getElem?_eq_some_iff.1 hg).1
  have k1 : V.cell? ⟨g, 1, none⟩ = some (.int .i64 3) := by rw [Lib.cell_of_heap hg]; rfl
  have k2 : V.cell? ⟨g, 2, none⟩ = some (.int .i64 (l1 : Nat)) := by rw [Lib.cell_of_heap hg]; rfl
  have k3 : V.cell? ⟨g, 3, none⟩ = some (.int .i64 (c1 : Nat)) := by rw [Lib.cell_of_heap hg]; rfl
  have k4 : V.cell? ⟨g, 4, none⟩ = some (.int .i64 (i : Nat)) := by rw [Lib.cell_of_heap hg]; rfl
  have k5 : V.cell? ⟨g, 5, none⟩ = some (.int .i64 (l2 : Nat)) := by rw [Lib.cell_of_heap hg]; rfl
  have k6 : V.cell? ⟨g, 6, none⟩ = some (.int .i64 (c2 : Nat)) := by rw [Lib.cell_of_heap hg]; rfl
  have k7 : V.cell? ⟨g, 7, none⟩ = some (.int .i64 (i2 : Nat)) := by rw [Lib.cell_of_heap hg]; rfl
  have k8 : V.cell? ⟨g, 8, none⟩ = some (tv) := by rw [Lib.cell_of_heap hg]; rfl
  have f1 : V.frozen? ⟨g, 1, none⟩ = false := by simp [World.frozen?, hg]
  have f5 : V.frozen? ⟨g, 5, none⟩ = false := by simp [World.frozen?, hg]
  have f6 : V.frozen? ⟨g, 6, none⟩ = false := by simp [World.frozen?, hg]
  have f7 : V.frozen? ⟨g, 7, none⟩ = false := by simp [World.frozen?, hg]
  have f8 : V.frozen? ⟨g, 8, none⟩ = false := by simp [World.frozen?, hg]
  refine (CS.out _ _ _ hg).mono ?_
  rintro e w2 ⟨rfl, hb2⟩
  have hg2 := (hb2.block g hgl).trans hg
  have hR2 := hR.below hb2
  have hW2 := hW.trans (toG hb2)
  have hD2 := Nat.le_trans hD hb2.size
  clear k1 k2 k3 k4 k5 k6 k7 k8 f1 f5 f6 f7 f8 hgl hb2 hg hR hW hD
  have hg := hg2
  have hR := hR2
  have hW := hW2
  have hD := hD2
  clear hg2 hR2 hW2 hD2
  have hgl : g < w2.heap.size := (Array.getElem?_eq_some_iff.1 hg).1
  have k1 : w2.cell? ⟨g, 1, none⟩ = some (.int .i64 3) := by rw [Lib.cell_of_heap hg]; rfl
  have k2 : w2.cell? ⟨g, 2, none⟩ = some (.int .i64 (l1 : Nat)) := by rw [Lib.cell_of_heap hg]; rfl
  have k3 : w2.cell? ⟨g, 3, none⟩ = some (.int .i64 (c1 : Nat)) := by rw [Lib.cell_of_heap hg]; rfl
  have k4 : w2.cell? ⟨g, 4, none⟩ = some (.int .i64 (i : Nat)) := by rw [Lib.cell_of_heap hg]; rfl
  have k5 : w2.cell? ⟨g, 5, none⟩ = some (.int .i64 (l2 : Nat)) := by rw [Lib.cell_of_heap hg]; rfl
  have k6 : w2.cell? ⟨g, 6, none⟩ = some (.int .i64 (c2 : Nat)) := by rw [Lib.cell_of_heap hg]; rfl
  have k7 : w2.cell? ⟨g, 7, none⟩ = some (.int .i64 (i2 : Nat)) := by rw [Lib.cell_of_heap hg]; rfl
  have k8 : w2.cell? ⟨g, 8, none⟩ = some (tv) := by rw [Lib.cell_of_heap hg]; rfl
  have f1 : w2.frozen? ⟨g, 1, none⟩ = false := by simp [World.frozen?, hg]
  have f5 : w2.frozen? ⟨g, 5, none⟩ = false := by simp [World.frozen?, hg]
  have f6 : w2.frozen? ⟨g, 6, none⟩ = false := by simp [World.frozen?, hg]
  have f7 : w2.frozen? ⟨g, 7, none⟩ = false := by simp [World.frozen?, hg]
  have f8 : w2.frozen? ⟨g, 8, none⟩ = false := by simp [World.frozen?, hg]
  go_wp2_with fail
  refine (CV.out _).mono ?_
  rintro e w3 ⟨rfl, hb3⟩
  have hg3 := (hb3.block g hgl).trans hg
  have hR3 := hR.below hb3
  have hW3 := hW.trans (toG hb3)
  have hD3 := Nat.le_trans hD hb3.size
  have hS3 : ScAt D g s ⟨3, (l1, c1, i), (l2, c2, i2), text, (l3, c3, i3), bh, toks⟩ w3 := .of hg3 hDg hR3
  have CA := Lib.hid (add_any s ⟨3, (l1, c1, i), (l2, c2, i2), text, (l3, c3, i3), bh, toks⟩ 3 ⟨E.toArray⟩ g D w0 w3 hS3 hW3 hD3 HX.out.2.2.2.2 (by rw [size_mk]; exact hEz))
  clear hS3 hg3 hR3 hW3 hD3 hb3
  go_wp2_with fail
  refine CA.out.mono ?_
  rintro e w4 ⟨rfl, hS4, hW4, hD4⟩
  clear CA
  clear k1 k2 k3 k4 k5 k6 k7 k8 f1 f5 f6 f7 f8 hgl hg hR hW hD hDg
  obtain ⟨tv, kv, hg, hDg, hR⟩ := hS4
  have hg : w4.heap[g]? = some (.cells (scC s 3 (l1 : Nat) (c1 : Nat) (i : Nat) (l2 : Nat) (c2 : Nat) (i2 : Nat) tv (l3 : Nat) (c3 : Nat) (i3 : Nat) (bh : Nat) kv) 53 (0, 0)) := hg
  have hR : Rows D g tv kv text (toks ++ [⟨3, E, (l2, c2, i2)⟩]) w4 := hR
  have hW := hW4
  have hD := hD4
  clear hW4 hD4
  have hgl : g < w4.heap.size := (Array.getElem?_eq_some_iff.1 hg).1
  have k1 : w4.cell? ⟨g, 1, none⟩ = some (.int .i64 3) := by rw [Lib.cell_of_heap hg]; rfl
  have k2 : w4.cell? ⟨g, 2, none⟩ = some (.int .i64 (l1 : Nat)) := by rw [Lib.cell_of_heap hg]; rfl
  have k3 : w4.cell? ⟨g, 3, none⟩ = some (.int .i64 (c1 : Nat)) := by rw [Lib.cell_of_heap hg]; rfl
  have k4 : w4.cell? ⟨g, 4, none⟩ = some (.int .i64 (i : Nat)) := by rw [Lib.cell_of_heap hg]; rfl
  have k5 : w4.cell? ⟨g, 5, none⟩ = some (.int .i64 (l2 : Nat)) := by rw [Lib.cell_of_heap hg]; rfl
  have k6 : w4.cell? ⟨g, 6, none⟩ = some (.int .i64 (c2 : Nat)) := by rw [Lib.cell_of_heap hg]; rfl
  have k7 : w4.cell? ⟨g, 7, none⟩ = some (.int .i64 (i2 : Nat)) := by rw [Lib.cell_of_heap hg]; rfl
  have k8 : w4.cell? ⟨g, 8, none⟩ = some (tv) := by rw [Lib.cell_of_heap hg]; rfl
  have f1 : w4.frozen? ⟨g, 1, none⟩ = false := by simp [World.frozen?, hg]
  have f5 : w4.frozen? ⟨g, 5, none⟩ = false := by simp [World.frozen?, hg]
  have f6 : w4.frozen? ⟨g, 6, none⟩ = false := by simp [World.frozen?, hg]
  have f7 : w4.frozen? ⟨g, 7, none⟩ = false := by simp [World.frozen?, hg]
  have f8 : w4.frozen? ⟨g, 8, none⟩ = false := by simp [World.frozen?, hg]
  go_wp2
  refine HQ _ _ _ _ (by intro l h; cases h) ?_
  go_ret
  try rw [hX2]
  have hk := keep_set (g := g) (k := 1) (u := .int .i64 0) (Keep.refl _ w4)
  exact ⟨hW.trans (Rows.belowg hD hDg hk), rfl, .of (set_1 (z := 0) hg) hDg (hR.keepg hk)⟩
set_option maxHeartbeats 8000000 in
set_option maxRecDepth 100000 in
theorem token_text (s : ByteArray) (c : Sc) (r : Int) (D g : Nat) (w0 w : World) (hD0 : D ≤ w0.heap.size) (h0 : 4 ≤ c.st) (hS : ScAt D g s c w) (hE : ∀ X, KeepG D g w0 X → SEnv X) (hW : KeepG D g w0 w) (hr : 0 ≤ r) (h92 : r = 92 → c.here.2.2 < s.size) (hi : c.here.2.2 ≤ s.size) (hf : c.from.2.2 ≤ c.here.2.2) (hs : s.size ≤ 1048576) (hm : c.text.length ≤ 8388000) (hn : c.toks.length ≤ 2097152) :
    Calls Tryz.prog 27 #[.pointer (some ⟨g, 0, none⟩), .int .i32 r] w (TokOut D g s w0 (textS s c r)) := by
  have hD : D ≤ w.heap.size := Nat.le_trans hD0 hW.size
  obtain ⟨st, ⟨l1, c1, i⟩, ⟨l2, c2, i2⟩, text, ⟨l3, c3, i3⟩, bh, toks⟩ := c
  simp only at h92 hi hm hf hn
  obtain ⟨X, hX⟩ : ∃ X, textS s ⟨st, (l1, c1, i), (l2, c2, i2), text, (l3, c3, i3), bh, toks⟩ r = X := ⟨_, rfl⟩
  rw [hX]
  have CP : Hid (∀ (V : World) (k : Nat × Nat × Nat) (st2 : Nat) (x : List UInt8) (l : List Tk), x.length ≤ 8388000 → ScAt D g s ⟨st2, (l1, c1, i), k, x, (l3, c3, i3), bh, l⟩ V → KeepG D g w0 V → Calls Tryz.prog 47 #[.pointer (some ⟨g, 0, none⟩), .int .i32 r] V (PieceOut D g s w0 (pieceS s ⟨st2, (l1, c1, i), k, x, (l3, c3, i3), bh, l⟩ r))) := Lib.hid fun V k st2 x l hx hS hb => spiece_any s _ r D g w0 V hD0 hS hE hb hr h92 hi hs hx
  have HDe := Lib.hid hD0
  have HX := Lib.hid (And.intro hi (And.intro hf (And.intro hs (And.intro hm hn))))
  clear hE hm hn hD0
  simp only at h0
  have n0 : (((st : Nat) : Int) == 0) = false := by simp; omega
  have n1 : (((st : Nat) : Int) == 1) = false := by simp; omega
  have n2 : (((st : Nat) : Int) == 2) = false := by simp; omega
  have n3 : (((st : Nat) : Int) == 3) = false := by simp; omega
  clear h0
  have hS0 := hS
  obtain ⟨tv, kv, hg, hDg, hR⟩ := hS
  have hR : Rows D g tv kv _ _ w := hR
  have hgl : g < w.heap.size := (Array.getElem?_eq_some_iff.1 hg).1
  have k1 : w.cell? ⟨g, 1, none⟩ = some (.int .i64 (st : Nat)) := by rw [Lib.cell_of_heap hg]; rfl
  have k2 : w.cell? ⟨g, 2, none⟩ = some (.int .i64 (l1 : Nat)) := by rw [Lib.cell_of_heap hg]; rfl
  have k3 : w.cell? ⟨g, 3, none⟩ = some (.int .i64 (c1 : Nat)) := by rw [Lib.cell_of_heap hg]; rfl
  have k4 : w.cell? ⟨g, 4, none⟩ = some (.int .i64 (i : Nat)) := by rw [Lib.cell_of_heap hg]; rfl
  have k5 : w.cell? ⟨g, 5, none⟩ = some (.int .i64 (l2 : Nat)) := by rw [Lib.cell_of_heap hg]; rfl
  have k6 : w.cell? ⟨g, 6, none⟩ = some (.int .i64 (c2 : Nat)) := by rw [Lib.cell_of_heap hg]; rfl
  have k7 : w.cell? ⟨g, 7, none⟩ = some (.int .i64 (i2 : Nat)) := by rw [Lib.cell_of_heap hg]; rfl
  have k8 : w.cell? ⟨g, 8, none⟩ = some (tv) := by rw [Lib.cell_of_heap hg]; rfl
  have f1 : w.frozen? ⟨g, 1, none⟩ = false := by simp [World.frozen?, hg]
  have f5 : w.frozen? ⟨g, 5, none⟩ = false := by simp [World.frozen?, hg]
  have f6 : w.frozen? ⟨g, 6, none⟩ = false := by simp [World.frozen?, hg]
  have f7 : w.frozen? ⟨g, 7, none⟩ = false := by simp [World.frozen?, hg]
  have f8 : w.frozen? ⟨g, 8, none⟩ = false := by simp [World.frozen?, hg]
  go_enter Tryz.func27, Tryz.ntmps27
  go_wp2
  refine wp_scope_far 4 fun F HQ HJ => ?_
  go_wp2
  refine wp_label ?_
  go_wp2_with fail
  refine (CP.out _ _ _ _ _ HX.out.2.2.2.1 hS0 hW).mono ?_
  rintro e w3 ⟨hb3, h3⟩
  have hX2 : X = match pieceS s ⟨st, (l1, c1, i), (l2, c2, i2), text, (l3, c3, i3), bh, toks⟩ r with
    | .took c => .ok c
    | .bad no p => .bad no p
    | .left c => betweenS s (addT c 1 c.text) r := by rw [← hX]; rfl
  have hD3 : D ≤ w3.heap.size := by have h1 := HDe.out; have h2 := hb3.size; omega
  clear hX
  cases hp : pieceS s ⟨st, (l1, c1, i), (l2, c2, i2), text, (l3, c3, i3), bh, toks⟩ r with
  | took c3 =>
    rw [hp] at h3 hX2
    obtain ⟨rfl, hS3⟩ := h3
    have HF := Lib.hid (And.intro hS3 (And.intro hb3 hX2))
    clear hS3 hb3 hX2 hp
    go_wp2
    refine HQ _ _ _ _ (by intro l h; cases h) ?_
    go_ret
    rw [HF.out.2.2]
    exact ⟨HF.out.2.1, rfl, HF.out.1⟩
  | bad no p =>
    rw [hp] at h3 hX2
    subst h3
    have HF := Lib.hid (And.intro hb3 hX2)
    clear hb3 hX2 hp
    go_wp2
    refine HQ _ _ _ _ (by intro l h; cases h) ?_
    go_ret
    rw [HF.out.2]
    exact ⟨HF.out.1, rfl⟩
  | left c3 =>
    rw [hp] at h3 hX2
    obtain ⟨rfl, hS3⟩ := h3
    have hc3 := pieceS_left hp
    subst hc3
    clear hp
    simp only at hX2 hS3
    have hX : betweenS s ⟨4, (l1, c1, i), (l2, c2, i2), text, (l3, c3, i3), bh, toks ++ [⟨1, text, (l2, c2, i2)⟩]⟩ r = X := by rw [hX2]; rfl
    clear hX2
    have hS3c := hS3
    clear k1 k2 k3 k4 k5 k6 k7 k8 f1 f5 f6 f7 f8 hgl hg hR hW hD hDg
    obtain ⟨tv, kv, hg, hDg, hR⟩ := hS3
    have hg : w3.heap[g]? = some (.cells (scC s 4 (l1 : Nat) (c1 : Nat) (i : Nat) (l2 : Nat) (c2 : Nat) (i2 : Nat) tv (l3 : Nat) (c3 : Nat) (i3 : Nat) (bh : Nat) kv) 53 (0, 0)) := hg
    have hR : Rows D g tv kv text (toks) w3 := hR
    have hW := hb3
    have hD := hD3
    clear hb3 hD3
    have hgl : g < w3.heap.size := (Array.getElem?_eq_some_iff.1 hg).1
    have k1 : w3.cell? ⟨g, 1, none⟩ = some (.int .i64 4) := by rw [Lib.cell_of_heap hg]; rfl
    have k2 : w3.cell? ⟨g, 2, none⟩ = some (.int .i64 (l1 : Nat)) := by rw [Lib.cell_of_heap hg]; rfl
    have k3 : w3.cell? ⟨g, 3, none⟩ = some (.int .i64 (c1 : Nat)) := by rw [Lib.cell_of_heap hg]; rfl
    have k4 : w3.cell? ⟨g, 4, none⟩ = some (.int .i64 (i : Nat)) := by rw [Lib.cell_of_heap hg]; rfl
    have k5 : w3.cell? ⟨g, 5, none⟩ = some (.int .i64 (l2 : Nat)) := by rw [Lib.cell_of_heap hg]; rfl
    have k6 : w3.cell? ⟨g, 6, none⟩ = some (.int .i64 (c2 : Nat)) := by rw [Lib.cell_of_heap hg]; rfl
    have k7 : w3.cell? ⟨g, 7, none⟩ = some (.int .i64 (i2 : Nat)) := by rw [Lib.cell_of_heap hg]; rfl
    have k8 : w3.cell? ⟨g, 8, none⟩ = some (tv) := by rw [Lib.cell_of_heap hg]; rfl
    have f1 : w3.frozen? ⟨g, 1, none⟩ = false := by simp [World.frozen?, hg]
    have f5 : w3.frozen? ⟨g, 5, none⟩ = false := by simp [World.frozen?, hg]
    have f6 : w3.frozen? ⟨g, 6, none⟩ = false := by simp [World.frozen?, hg]
    have f7 : w3.frozen? ⟨g, 7, none⟩ = false := by simp [World.frozen?, hg]
    have f8 : w3.frozen? ⟨g, 8, none⟩ = false := by simp [World.frozen?, hg]
    have hcv := conv_own hR.1
    have CA := Lib.hid (add_any s ⟨4, (l1, c1, i), (l2, c2, i2), text, (l3, c3, i3), bh, toks⟩ 1 ⟨text.toArray⟩ g D w0 w3 hS3c hW hD HX.out.2.2.2.2 (by rw [size_mk]; have := HX.out.2.2.2.1; omega))
    clear hS3c
    go_wp2_with fail
    refine CA.out.mono ?_
    rintro e w4 ⟨rfl, hS4, hW4, hD4⟩
    clear CA hcv
    clear k1 k2 k3 k4 k5 k6 k7 k8 f1 f5 f6 f7 f8 hgl hg hR hW hD hDg
    obtain ⟨tv, kv, hg, hDg, hR⟩ := hS4
    have hg : w4.heap[g]? = some (.cells (scC s 4 (l1 : Nat) (c1 : Nat) (i : Nat) (l2 : Nat) (c2 : Nat) (i2 : Nat) tv (l3 : Nat) (c3 : Nat) (i3 : Nat) (bh : Nat) kv) 53 (0, 0)) := hg
    have hR : Rows D g tv kv text (toks ++ [⟨1, text, (l2, c2, i2)⟩]) w4 := hR
    have hW := hW4
    have hD := hD4
    clear hW4 hD4
    have hgl : g < w4.heap.size := (Array.getElem?_eq_some_iff.1 hg).1
    have k1 : w4.cell? ⟨g, 1, none⟩ = some (.int .i64 4) := by rw [Lib.cell_of_heap hg]; rfl
    have k2 : w4.cell? ⟨g, 2, none⟩ = some (.int .i64 (l1 : Nat)) := by rw [Lib.cell_of_heap hg]; rfl
    have k3 : w4.cell? ⟨g, 3, none⟩ = some (.int .i64 (c1 : Nat)) := by rw [Lib.cell_of_heap hg]; rfl
    have k4 : w4.cell? ⟨g, 4, none⟩ = some (.int .i64 (i : Nat)) := by rw [Lib.cell_of_heap hg]; rfl
    have k5 : w4.cell? ⟨g, 5, none⟩ = some (.int .i64 (l2 : Nat)) := by rw [Lib.cell_of_heap hg]; rfl
    have k6 : w4.cell? ⟨g, 6, none⟩ = some (.int .i64 (c2 : Nat)) := by rw [Lib.cell_of_heap hg]; rfl
    have k7 : w4.cell? ⟨g, 7, none⟩ = some (.int .i64 (i2 : Nat)) := by rw [Lib.cell_of_heap hg]; rfl
    have k8 : w4.cell? ⟨g, 8, none⟩ = some (tv) := by rw [Lib.cell_of_heap hg]; rfl
    have f1 : w4.frozen? ⟨g, 1, none⟩ = false := by simp [World.frozen?, hg]
    have f5 : w4.frozen? ⟨g, 5, none⟩ = false := by simp [World.frozen?, hg]
    have f6 : w4.frozen? ⟨g, 6, none⟩ = false := by simp [World.frozen?, hg]
    have f7 : w4.frozen? ⟨g, 7, none⟩ = false := by simp [World.frozen?, hg]
    have f8 : w4.frozen? ⟨g, 8, none⟩ = false := by simp [World.frozen?, hg]
    go_wp2_with fail
    refine wp_label ?_
    by_cases hb : isBlk r = true
    · skip
      have hX2 : X = .ok ⟨0, (l1, c1, i), (l1, c1, i), text, (l3, c3, i3), bh, toks ++ [⟨1, text, (l2, c2, i2)⟩]⟩ := by rw [← hX]; unfold betweenS; rw [if_pos hb]
      have CB : Hid (∀ V, Calls Tryz.prog 49 #[.int .i32 r] V fun e w' => e = .returned (.bool true) ∧ V = w') := Lib.hid fun V => by have h := isBlank_any r V; rw [hb] at h; exact h
      clear hX
      go_wp2_with fail
      have hk1 : Keep (fun b => b = g) w4 ((((w4.setCell ⟨g, 1, none⟩ (.int .i64 0)).setCell ⟨g, 5, none⟩ (.int .i64 (l1 : Nat))).setCell ⟨g, 6, none⟩ (.int .i64 (c1 : Nat))).setCell ⟨g, 7, none⟩ (.int .i64 (i : Nat))) := keep_set (g := g) (keep_set (g := g) (keep_set (g := g) (keep_set (g := g) (Keep.refl _ w4))))
      have hg1 := set_f (a := (l1 : Nat)) (b := (c1 : Nat)) (c := (i : Nat)) (set_1 (z := 0) hg)
      have hR1 := hR.keepg hk1
      have hW1 := hW.trans (Rows.belowg hD hDg hk1)
      have hD1 := Nat.le_trans hD hk1.size
      clear k1 k2 k3 k4 k5 k6 k7 k8 f1 f5 f6 f7 f8 hgl hk1 hg hR hW hD
      generalize (((w4.setCell ⟨g, 1, none⟩ (.int .i64 0)).setCell ⟨g, 5, none⟩ (.int .i64 (l1 : Nat))).setCell ⟨g, 6, none⟩ (.int .i64 (c1 : Nat))).setCell ⟨g, 7, none⟩ (.int .i64 (i : Nat)) = V1 at *
      have hg := hg1
      have hgl : g < V1.heap.size := (Array.getElem?_eq_some_iff.1 hg).1
      have k1 : V1.cell? ⟨g, 1, none⟩ = some (.int .i64 0) := by rw [Lib.cell_of_heap hg]; rfl
      have k2 : V1.cell? ⟨g, 2, none⟩ = some (.int .i64 (l1 : Nat)) := by rw [Lib.cell_of_heap hg]; rfl
      have k3 : V1.cell? ⟨g, 3, none⟩ = some (.int .i64 (c1 : Nat)) := by rw [Lib.cell_of_heap hg]; rfl
      have k4 : V1.cell? ⟨g, 4, none⟩ = some (.int .i64 (i : Nat)) := by rw [Lib.cell_of_heap hg]; rfl
      have k5 : V1.cell? ⟨g, 5, none⟩ = some (.int .i64 (l1 : Nat)) := by rw [Lib.cell_of_heap hg]; rfl
      have k6 : V1.cell? ⟨g, 6, none⟩ = some (.int .i64 (c1 : Nat)) := by rw [Lib.cell_of_heap hg]; rfl
      have k7 : V1.cell? ⟨g, 7, none⟩ = some (.int .i64 (i : Nat)) := by rw [Lib.cell_of_heap hg]; rfl
      have k8 : V1.cell? ⟨g, 8, none⟩ = some (tv) := by rw [Lib.cell_of_heap hg]; rfl
      have f1 : V1.frozen? ⟨g, 1, none⟩ = false := by simp [World.frozen?, hg]
      have f5 : V1.frozen? ⟨g, 5, none⟩ = false := by simp [World.frozen?, hg]
      have f6 : V1.frozen? ⟨g, 6, none⟩ = false := by simp [World.frozen?, hg]
      have f7 : V1.frozen? ⟨g, 7, none⟩ = false := by simp [World.frozen?, hg]
      have f8 : V1.frozen? ⟨g, 8, none⟩ = false := by simp [World.frozen?, hg]
      have HG := Lib.hid hg1
      have HR := Lib.hid hR1
      have HD := Lib.hid (And.intro hD1 (And.intro hDg hW1))
      clear hg hg1 hR1 hW1 hD1 hDg
      refine (CB.out _).mono ?_
      rintro e w' ⟨rfl, rfl⟩
      go_wp2
      refine HQ _ _ _ _ (by intro l h; cases h) ?_
      go_ret
      try rw [hX2]
      exact ⟨HD.out.2.2, rfl, .of HG.out HD.out.2.1 HR.out⟩
    have hb : isBlk r = false := by simpa using hb
    have CB : Hid (∀ V, Calls Tryz.prog 49 #[.int .i32 r] V fun e w' => e = .returned (.bool false) ∧ V = w') := Lib.hid fun V => by have h := isBlank_any r V; rw [hb] at h; exact h
    by_cases r35 : r = 35
    · subst r35
      have hX2 : X = .ok ⟨1, (l1, c1, i), (l1, c1, i), text, (l3, c3, i3), bh, toks ++ [⟨1, text, (l2, c2, i2)⟩]⟩ := by rw [← hX]; unfold betweenS; rw [if_neg (by rw [hb]; decide)]; rw [if_pos rfl]
      clear hX
      go_wp2_with fail
      have hk1 : Keep (fun b => b = g) w4 ((((w4.setCell ⟨g, 1, none⟩ (.int .i64 0)).setCell ⟨g, 5, none⟩ (.int .i64 (l1 : Nat))).setCell ⟨g, 6, none⟩ (.int .i64 (c1 : Nat))).setCell ⟨g, 7, none⟩ (.int .i64 (i : Nat))) := keep_set (g := g) (keep_set (g := g) (keep_set (g := g) (keep_set (g := g) (Keep.refl _ w4))))
      have hg1 := set_f (a := (l1 : Nat)) (b := (c1 : Nat)) (c := (i : Nat)) (set_1 (z := 0) hg)
      have hR1 := hR.keepg hk1
      have hW1 := hW.trans (Rows.belowg hD hDg hk1)
      have hD1 := Nat.le_trans hD hk1.size
      clear k1 k2 k3 k4 k5 k6 k7 k8 f1 f5 f6 f7 f8 hgl hk1 hg hR hW hD
      generalize (((w4.setCell ⟨g, 1, none⟩ (.int .i64 0)).setCell ⟨g, 5, none⟩ (.int .i64 (l1 : Nat))).setCell ⟨g, 6, none⟩ (.int .i64 (c1 : Nat))).setCell ⟨g, 7, none⟩ (.int .i64 (i : Nat)) = V1 at *
      have hg := hg1
      have hgl : g < V1.heap.size := (Array.getElem?_eq_some_iff.1 hg).1
      have k1 : V1.cell? ⟨g, 1, none⟩ = some (.int .i64 0) := by rw [Lib.cell_of_heap hg]; rfl
      have k2 : V1.cell? ⟨g, 2, none⟩ = some (.int .i64 (l1 : Nat)) := by rw [Lib.cell_of_heap hg]; rfl
      have k3 : V1.cell? ⟨g, 3, none⟩ = some (.int .i64 (c1 : Nat)) := by rw [Lib.cell_of_heap hg]; rfl
      have k4 : V1.cell? ⟨g, 4, none⟩ = some (.int .i64 (i : Nat)) := by rw [Lib.cell_of_heap hg]; rfl
      have k5 : V1.cell? ⟨g, 5, none⟩ = some (.int .i64 (l1 : Nat)) := by rw [Lib.cell_of_heap hg]; rfl
      have k6 : V1.cell? ⟨g, 6, none⟩ = some (.int .i64 (c1 : Nat)) := by rw [Lib.cell_of_heap hg]; rfl
      have k7 : V1.cell? ⟨g, 7, none⟩ = some (.int .i64 (i : Nat)) := by rw [Lib.cell_of_heap hg]; rfl
      have k8 : V1.cell? ⟨g, 8, none⟩ = some (tv) := by rw [Lib.cell_of_heap hg]; rfl
      have f1 : V1.frozen? ⟨g, 1, none⟩ = false := by simp [World.frozen?, hg]
      have f5 : V1.frozen? ⟨g, 5, none⟩ = false := by simp [World.frozen?, hg]
      have f6 : V1.frozen? ⟨g, 6, none⟩ = false := by simp [World.frozen?, hg]
      have f7 : V1.frozen? ⟨g, 7, none⟩ = false := by simp [World.frozen?, hg]
      have f8 : V1.frozen? ⟨g, 8, none⟩ = false := by simp [World.frozen?, hg]
      have HG := Lib.hid hg1
      have HR := Lib.hid hR1
      have HD := Lib.hid (And.intro hD1 (And.intro hDg hW1))
      clear hg hg1 hR1 hW1 hD1 hDg
      refine (CB.out _).mono ?_
      rintro e w' ⟨rfl, rfl⟩
      go_wp2
      refine wp_goto ?_
      refine HJ.out 3 1 _ _ _ (by rfl) ?_
      go_wp2
      refine HQ _ _ _ _ (by intro l h; cases h) ?_
      go_ret
      try rw [hX2]
      have hk := keep_set (g := g) (k := 1) (u := .int .i64 1) (Keep.refl _ V1)
      exact ⟨HD.out.2.2.trans (Rows.belowg HD.out.1 HD.out.2.1 hk), rfl, .of (set_1 (z := 1) HG.out) HD.out.2.1 (HR.out.keepg hk)⟩
    have n35 : (r == 35) = false := by simpa using r35
    by_cases hq : isSgn (encL r) = true
    · skip
      have CI : Hid (∀ V, Calls Tryz.prog 50 #[.string (Utf8.encode r)] V fun e w' => e = .returned (.bool true) ∧ V = w') := Lib.hid fun V => by have h := isSign_any (Utf8.encode r) V; rw [show isSgn (Utf8.encode r).data.toList = true from hq] at h; exact h
      have hX2 : X = .ok ⟨2, (l1, c1, i), (l1, c1, i), text, (l3, c3, i3), bh, toks ++ [⟨1, text, (l2, c2, i2)⟩]⟩ := by rw [← hX]; unfold betweenS; rw [if_neg (by rw [hb]; decide)]; rw [if_neg (by first | exact r35 | decide)]; rw [if_pos hq]
      have hcz : ¬ (s.extract i i).size + (Utf8.encode r).size > 9223372036854775807 := by
        have h1 := encode_size r
        have h2 : (s.extract i i).size = 0 := by rw [ext_nil]; rfl
        omega
      have CS : Hid (∀ V tv kv, V.heap[g]? = some (.cells (scC s 2 (l1 : Nat) (c1 : Nat) (i : Nat) (l1 : Nat) (c1 : Nat) (i : Nat) tv (l3 : Nat) (c3 : Nat) (i3 : Nat) (bh : Nat) kv) 53 (0, 0)) → Calls Tryz.prog 52 #[.pointer (some ⟨g, 0, none⟩)] V fun e w' => e = .returned (.string (s.extract i i)) ∧ Below V.heap.size V w') := Lib.hid fun V tv kv h => since_any s _ _ _ _ _ _ _ _ _ i i tv kv g V h (Nat.le_refl _) hi
      clear hX
      go_wp2_with fail
      have hk1 : Keep (fun b => b = g) w4 ((((w4.setCell ⟨g, 1, none⟩ (.int .i64 0)).setCell ⟨g, 5, none⟩ (.int .i64 (l1 : Nat))).setCell ⟨g, 6, none⟩ (.int .i64 (c1 : Nat))).setCell ⟨g, 7, none⟩ (.int .i64 (i : Nat))) := keep_set (g := g) (keep_set (g := g) (keep_set (g := g) (keep_set (g := g) (Keep.refl _ w4))))
      have hg1 := set_f (a := (l1 : Nat)) (b := (c1 : Nat)) (c := (i : Nat)) (set_1 (z := 0) hg)
      have hR1 := hR.keepg hk1
      have hW1 := hW.trans (Rows.belowg hD hDg hk1)
      have hD1 := Nat.le_trans hD hk1.size
      clear k1 k2 k3 k4 k5 k6 k7 k8 f1 f5 f6 f7 f8 hgl hk1 hg hR hW hD
      generalize (((w4.setCell ⟨g, 1, none⟩ (.int .i64 0)).setCell ⟨g, 5, none⟩ (.int .i64 (l1 : Nat))).setCell ⟨g, 6, none⟩ (.int .i64 (c1 : Nat))).setCell ⟨g, 7, none⟩ (.int .i64 (i : Nat)) = V1 at *
      have hg := hg1
      have hgl : g < V1.heap.size := (Array.getElem?_eq_some_iff.1 hg).1
      have k1 : V1.cell? ⟨g, 1, none⟩ = some (.int .i64 0) := by rw [Lib.cell_of_heap hg]; rfl
      have k2 : V1.cell? ⟨g, 2, none⟩ = some (.int .i64 (l1 : Nat)) := by rw [Lib.cell_of_heap hg]; rfl
      have k3 : V1.cell? ⟨g, 3, none⟩ = some (.int .i64 (c1 : Nat)) := by rw [Lib.cell_of_heap hg]; rfl
      have k4 : V1.cell? ⟨g, 4, none⟩ = some (.int .i64 (i : Nat)) := by rw [Lib.cell_of_heap hg]; rfl
      have k5 : V1.cell? ⟨g, 5, none⟩ = some (.int .i64 (l1 : Nat)) := by rw [Lib.cell_of_heap hg]; rfl
      have k6 : V1.cell? ⟨g, 6, none⟩ = some (.int .i64 (c1 : Nat)) := by rw [Lib.cell_of_heap hg]; rfl
      have k7 : V1.cell? ⟨g, 7, none⟩ = some (.int .i64 (i : Nat)) := by rw [Lib.cell_of_heap hg]; rfl
      have k8 : V1.cell? ⟨g, 8, none⟩ = some (tv) := by rw [Lib.cell_of_heap hg]; rfl
      have f1 : V1.frozen? ⟨g, 1, none⟩ = false := by simp [World.frozen?, hg]
      have f5 : V1.frozen? ⟨g, 5, none⟩ = false := by simp [World.frozen?, hg]
      have f6 : V1.frozen? ⟨g, 6, none⟩ = false := by simp [World.frozen?, hg]
      have f7 : V1.frozen? ⟨g, 7, none⟩ = false := by simp [World.frozen?, hg]
      have f8 : V1.frozen? ⟨g, 8, none⟩ = false := by simp [World.frozen?, hg]
      have HG := Lib.hid hg1
      have HR := Lib.hid hR1
      have HD := Lib.hid (And.intro hD1 (And.intro hDg hW1))
      clear hg hg1 hR1 hW1 hD1 hDg
      refine (CB.out _).mono ?_
      rintro e w' ⟨rfl, rfl⟩
      go_wp2_with fail
      refine (CI.out _).mono ?_
      rintro e w' ⟨rfl, rfl⟩
      go_wp2
      refine wp_goto ?_
      refine HJ.out 3 2 _ _ _ (by rfl) ?_
      go_wp2_with fail
      refine (CS.out _ _ _ (set_1 (z := 2) HG.out)).mono ?_
      rintro e w2 ⟨rfl, hb2⟩
      have HB2 := Lib.hid hb2
      clear hb2
      go_wp2_with fail
      refine (CI.out _).mono ?_
      rintro e w' ⟨rfl, rfl⟩
      go_wp2
      refine HQ _ _ _ _ (by intro l h; cases h) ?_
      go_ret
      try rw [hX2]
      have hk := keep_set (g := g) (k := 1) (u := .int .i64 2) (Keep.refl _ V1)
      have hz : (V1.setCell ⟨g, 1, none⟩ (.int .i64 2)).heap.size = V1.heap.size := by simp
      have hD2 : D ≤ (V1.setCell ⟨g, 1, none⟩ (.int .i64 2)).heap.size := by rw [hz]; exact HD.out.1
      exact ⟨(HD.out.2.2.trans (Rows.belowg HD.out.1 HD.out.2.1 hk)).trans (toG HB2.out), rfl, .of ((HB2.out.block g (by rw [hz]; exact hgl)).trans (set_1 (z := 2) HG.out)) HD.out.2.1 ((HR.out.keepg hk).below HB2.out)⟩
    have hq : isSgn (encL r) = false := by simpa using hq
    have CI : Hid (∀ V, Calls Tryz.prog 50 #[.string (Utf8.encode r)] V fun e w' => e = .returned (.bool false) ∧ V = w') := Lib.hid fun V => by have h := isSign_any (Utf8.encode r) V; rw [show isSgn (Utf8.encode r).data.toList = false from hq] at h; exact h
    by_cases r91 : r = 91
    · subst r91
      have hX2 : X = .ok ⟨3, (l1, c1, i), (l1, c1, i), text, (l3, c3, i3), bh, toks ++ [⟨1, text, (l2, c2, i2)⟩]⟩ := by rw [← hX]; unfold betweenS; rw [if_neg (by rw [hb]; decide)]; rw [if_neg (by first | exact r35 | decide)]; rw [if_neg (by rw [hq]; decide)]; rw [if_pos rfl]
      clear hX
      go_wp2_with fail
      have hk1 : Keep (fun b => b = g) w4 ((((w4.setCell ⟨g, 1, none⟩ (.int .i64 0)).setCell ⟨g, 5, none⟩ (.int .i64 (l1 : Nat))).setCell ⟨g, 6, none⟩ (.int .i64 (c1 : Nat))).setCell ⟨g, 7, none⟩ (.int .i64 (i : Nat))) := keep_set (g := g) (keep_set (g := g) (keep_set (g := g) (keep_set (g := g) (Keep.refl _ w4))))
      have hg1 := set_f (a := (l1 : Nat)) (b := (c1 : Nat)) (c := (i : Nat)) (set_1 (z := 0) hg)
      have hR1 := hR.keepg hk1
      have hW1 := hW.trans (Rows.belowg hD hDg hk1)
      have hD1 := Nat.le_trans hD hk1.size
      clear k1 k2 k3 k4 k5 k6 k7 k8 f1 f5 f6 f7 f8 hgl hk1 hg hR hW hD
      generalize (((w4.setCell ⟨g, 1, none⟩ (.int .i64 0)).setCell ⟨g, 5, none⟩ (.int .i64 (l1 : Nat))).setCell ⟨g, 6, none⟩ (.int .i64 (c1 : Nat))).setCell ⟨g, 7, none⟩ (.int .i64 (i : Nat)) = V1 at *
      have hg := hg1
      have hgl : g < V1.heap.size := (Array.getElem?_eq_some_iff.1 hg).1
      have k1 : V1.cell? ⟨g, 1, none⟩ = some (.int .i64 0) := by rw [Lib.cell_of_heap hg]; rfl
      have k2 : V1.cell? ⟨g, 2, none⟩ = some (.int .i64 (l1 : Nat)) := by rw [Lib.cell_of_heap hg]; rfl
      have k3 : V1.cell? ⟨g, 3, none⟩ = some (.int .i64 (c1 : Nat)) := by rw [Lib.cell_of_heap hg]; rfl
      have k4 : V1.cell? ⟨g, 4, none⟩ = some (.int .i64 (i : Nat)) := by rw [Lib.cell_of_heap hg]; rfl
      have k5 : V1.cell? ⟨g, 5, none⟩ = some (.int .i64 (l1 : Nat)) := by rw [Lib.cell_of_heap hg]; rfl
      have k6 : V1.cell? ⟨g, 6, none⟩ = some (.int .i64 (c1 : Nat)) := by rw [Lib.cell_of_heap hg]; rfl
      have k7 : V1.cell? ⟨g, 7, none⟩ = some (.int .i64 (i : Nat)) := by rw [Lib.cell_of_heap hg]; rfl
      have k8 : V1.cell? ⟨g, 8, none⟩ = some (tv) := by rw [Lib.cell_of_heap hg]; rfl
      have f1 : V1.frozen? ⟨g, 1, none⟩ = false := by simp [World.frozen?, hg]
      have f5 : V1.frozen? ⟨g, 5, none⟩ = false := by simp [World.frozen?, hg]
      have f6 : V1.frozen? ⟨g, 6, none⟩ = false := by simp [World.frozen?, hg]
      have f7 : V1.frozen? ⟨g, 7, none⟩ = false := by simp [World.frozen?, hg]
      have f8 : V1.frozen? ⟨g, 8, none⟩ = false := by simp [World.frozen?, hg]
      have HG := Lib.hid hg1
      have HR := Lib.hid hR1
      have HD := Lib.hid (And.intro hD1 (And.intro hDg hW1))
      clear hg hg1 hR1 hW1 hD1 hDg
      refine (CB.out _).mono ?_
      rintro e w' ⟨rfl, rfl⟩
      go_wp2_with fail
      refine (CI.out _).mono ?_
      rintro e w' ⟨rfl, rfl⟩
      go_wp2
      refine wp_goto ?_
      refine HJ.out 3 3 _ _ _ (by rfl) ?_
      go_wp2
      refine HQ _ _ _ _ (by intro l h; cases h) ?_
      go_ret
      try rw [hX2]
      have hk := keep_set (g := g) (k := 1) (u := .int .i64 3) (Keep.refl _ V1)
      exact ⟨HD.out.2.2.trans (Rows.belowg HD.out.1 HD.out.2.1 hk), rfl, .of (set_1 (z := 3) HG.out) HD.out.2.1 (HR.out.keepg hk)⟩
    have n91 : (r == 91) = false := by simpa using r91
    by_cases r93 : r = 93
    · subst r93
      have hX2 : X = .bad 25 (l1, c1, i) := by rw [← hX]; unfold betweenS; rw [if_neg (by rw [hb]; decide)]; rw [if_neg (by first | exact r35 | decide)]; rw [if_neg (by rw [hq]; decide)]; rw [if_neg (by first | exact r91 | decide)]; rw [if_pos rfl]
      have CF := Lib.hid (fun V => plFault_any (l1, c1, i) 25 V)
      unfold plV at CF
      clear hX
      go_wp2_with fail
      have hk1 : Keep (fun b => b = g) w4 ((((w4.setCell ⟨g, 1, none⟩ (.int .i64 0)).setCell ⟨g, 5, none⟩ (.int .i64 (l1 : Nat))).setCell ⟨g, 6, none⟩ (.int .i64 (c1 : Nat))).setCell ⟨g, 7, none⟩ (.int .i64 (i : Nat))) := keep_set (g := g) (keep_set (g := g) (keep_set (g := g) (keep_set (g := g) (Keep.refl _ w4))))
      have hg1 := set_f (a := (l1 : Nat)) (b := (c1 : Nat)) (c := (i : Nat)) (set_1 (z := 0) hg)
      have hR1 := hR.keepg hk1
      have hW1 := hW.trans (Rows.belowg hD hDg hk1)
      have hD1 := Nat.le_trans hD hk1.size
      clear k1 k2 k3 k4 k5 k6 k7 k8 f1 f5 f6 f7 f8 hgl hk1 hg hR hW hD
      generalize (((w4.setCell ⟨g, 1, none⟩ (.int .i64 0)).setCell ⟨g, 5, none⟩ (.int .i64 (l1 : Nat))).setCell ⟨g, 6, none⟩ (.int .i64 (c1 : Nat))).setCell ⟨g, 7, none⟩ (.int .i64 (i : Nat)) = V1 at *
      have hg := hg1
      have hgl : g < V1.heap.size := (Array.getElem?_eq_some_iff.1 hg).1
      have k1 : V1.cell? ⟨g, 1, none⟩ = some (.int .i64 0) := by rw [Lib.cell_of_heap hg]; rfl
      have k2 : V1.cell? ⟨g, 2, none⟩ = some (.int .i64 (l1 : Nat)) := by rw [Lib.cell_of_heap hg]; rfl
      have k3 : V1.cell? ⟨g, 3, none⟩ = some (.int .i64 (c1 : Nat)) := by rw [Lib.cell_of_heap hg]; rfl
      have k4 : V1.cell? ⟨g, 4, none⟩ = some (.int .i64 (i : Nat)) := by rw [Lib.cell_of_heap hg]; rfl
      have k5 : V1.cell? ⟨g, 5, none⟩ = some (.int .i64 (l1 : Nat)) := by rw [Lib.cell_of_heap hg]; rfl
      have k6 : V1.cell? ⟨g, 6, none⟩ = some (.int .i64 (c1 : Nat)) := by rw [Lib.cell_of_heap hg]; rfl
      have k7 : V1.cell? ⟨g, 7, none⟩ = some (.int .i64 (i : Nat)) := by rw [Lib.cell_of_heap hg]; rfl
      have k8 : V1.cell? ⟨g, 8, none⟩ = some (tv) := by rw [Lib.cell_of_heap hg]; rfl
      have f1 : V1.frozen? ⟨g, 1, none⟩ = false := by simp [World.frozen?, hg]
      have f5 : V1.frozen? ⟨g, 5, none⟩ = false := by simp [World.frozen?, hg]
      have f6 : V1.frozen? ⟨g, 6, none⟩ = false := by simp [World.frozen?, hg]
      have f7 : V1.frozen? ⟨g, 7, none⟩ = false := by simp [World.frozen?, hg]
      have f8 : V1.frozen? ⟨g, 8, none⟩ = false := by simp [World.frozen?, hg]
      have HG := Lib.hid hg1
      have HR := Lib.hid hR1
      have HD := Lib.hid (And.intro hD1 (And.intro hDg hW1))
      clear hg hg1 hR1 hW1 hD1 hDg
      refine (CB.out _).mono ?_
      rintro e w' ⟨rfl, rfl⟩
      go_wp2_with fail
      refine (CI.out _).mono ?_
      rintro e w' ⟨rfl, rfl⟩
      go_wp2_with fail
      refine (CF.out _).mono ?_
      rintro e w2 ⟨rfl, hb2⟩
      have HB2 := Lib.hid hb2
      clear hb2
      go_wp2
      refine HQ _ _ _ _ (by intro l h; cases h) ?_
      go_ret
      try rw [hX2]
      exact ⟨HD.out.2.2.trans (toG HB2.out), rfl⟩
    have n93 : (r == 93) = false := by simpa using r93
    by_cases r42 : r = 42
    · subst r42
      have hX2 : X = .bad 4 (l1, c1, i) := by rw [← hX]; unfold betweenS; rw [if_neg (by rw [hb]; decide)]; rw [if_neg (by first | exact r35 | decide)]; rw [if_neg (by rw [hq]; decide)]; rw [if_neg (by first | exact r91 | decide)]; rw [if_neg (by first | exact r93 | decide)]; rw [if_pos rfl]
      have CF := Lib.hid (fun V => plFault_any (l1, c1, i) 4 V)
      unfold plV at CF
      clear hX
      go_wp2_with fail
      have hk1 : Keep (fun b => b = g) w4 ((((w4.setCell ⟨g, 1, none⟩ (.int .i64 0)).setCell ⟨g, 5, none⟩ (.int .i64 (l1 : Nat))).setCell ⟨g, 6, none⟩ (.int .i64 (c1 : Nat))).setCell ⟨g, 7, none⟩ (.int .i64 (i : Nat))) := keep_set (g := g) (keep_set (g := g) (keep_set (g := g) (keep_set (g := g) (Keep.refl _ w4))))
      have hg1 := set_f (a := (l1 : Nat)) (b := (c1 : Nat)) (c := (i : Nat)) (set_1 (z := 0) hg)
      have hR1 := hR.keepg hk1
      have hW1 := hW.trans (Rows.belowg hD hDg hk1)
      have hD1 := Nat.le_trans hD hk1.size
      clear k1 k2 k3 k4 k5 k6 k7 k8 f1 f5 f6 f7 f8 hgl hk1 hg hR hW hD
      generalize (((w4.setCell ⟨g, 1, none⟩ (.int .i64 0)).setCell ⟨g, 5, none⟩ (.int .i64 (l1 : Nat))).setCell ⟨g, 6, none⟩ (.int .i64 (c1 : Nat))).setCell ⟨g, 7, none⟩ (.int .i64 (i : Nat)) = V1 at *
      have hg := hg1
      have hgl : g < V1.heap.size := (Array.getElem?_eq_some_iff.1 hg).1
      have k1 : V1.cell? ⟨g, 1, none⟩ = some (.int .i64 0) := by rw [Lib.cell_of_heap hg]; rfl
      have k2 : V1.cell? ⟨g, 2, none⟩ = some (.int .i64 (l1 : Nat)) := by rw [Lib.cell_of_heap hg]; rfl
      have k3 : V1.cell? ⟨g, 3, none⟩ = some (.int .i64 (c1 : Nat)) := by rw [Lib.cell_of_heap hg]; rfl
      have k4 : V1.cell? ⟨g, 4, none⟩ = some (.int .i64 (i : Nat)) := by rw [Lib.cell_of_heap hg]; rfl
      have k5 : V1.cell? ⟨g, 5, none⟩ = some (.int .i64 (l1 : Nat)) := by rw [Lib.cell_of_heap hg]; rfl
      have k6 : V1.cell? ⟨g, 6, none⟩ = some (.int .i64 (c1 : Nat)) := by rw [Lib.cell_of_heap hg]; rfl
      have k7 : V1.cell? ⟨g, 7, none⟩ = some (.int .i64 (i : Nat)) := by rw [Lib.cell_of_heap hg]; rfl
      have k8 : V1.cell? ⟨g, 8, none⟩ = some (tv) := by rw [Lib.cell_of_heap hg]; rfl
      have f1 : V1.frozen? ⟨g, 1, none⟩ = false := by simp [World.frozen?, hg]
      have f5 : V1.frozen? ⟨g, 5, none⟩ = false := by simp [World.frozen?, hg]
      have f6 : V1.frozen? ⟨g, 6, none⟩ = false := by simp [World.frozen?, hg]
      have f7 : V1.frozen? ⟨g, 7, none⟩ = false := by simp [World.frozen?, hg]
      have f8 : V1.frozen? ⟨g, 8, none⟩ = false := by simp [World.frozen?, hg]
      have HG := Lib.hid hg1
      have HR := Lib.hid hR1
      have HD := Lib.hid (And.intro hD1 (And.intro hDg hW1))
      clear hg hg1 hR1 hW1 hD1 hDg
      refine (CB.out _).mono ?_
      rintro e w' ⟨rfl, rfl⟩
      go_wp2_with fail
      refine (CI.out _).mono ?_
      rintro e w' ⟨rfl, rfl⟩
      go_wp2_with fail
      refine (CF.out _).mono ?_
      rintro e w2 ⟨rfl, hb2⟩
      have HB2 := Lib.hid hb2
      clear hb2
      go_wp2
      refine HQ _ _ _ _ (by intro l h; cases h) ?_
      go_ret
      try rw [hX2]
      exact ⟨HD.out.2.2.trans (toG HB2.out), rfl⟩
    have n42 : (r == 42) = false := by simpa using r42
    have hX2 : X = (plainS s ⟨4, (l1, c1, i), (l1, c1, i), [], (l3, c3, i3), bh, toks ++ [⟨1, text, (l2, c2, i2)⟩]⟩ r).out := by rw [← hX]; unfold betweenS; rw [if_neg (by rw [hb]; decide)]; rw [if_neg (by first | exact r35 | decide)]; rw [if_neg (by rw [hq]; decide)]; rw [if_neg (by first | exact r91 | decide)]; rw [if_neg (by first | exact r93 | decide)]; rw [if_neg (by first | exact r42 | decide)]
    clear hX
    go_wp2_with fail
    have hk1 : Keep (fun b => b = g) w4 ((((w4.setCell ⟨g, 1, none⟩ (.int .i64 0)).setCell ⟨g, 5, none⟩ (.int .i64 (l1 : Nat))).setCell ⟨g, 6, none⟩ (.int .i64 (c1 : Nat))).setCell ⟨g, 7, none⟩ (.int .i64 (i : Nat))) := keep_set (g := g) (keep_set (g := g) (keep_set (g := g) (keep_set (g := g) (Keep.refl _ w4))))
    have hg1 := set_f (a := (l1 : Nat)) (b := (c1 : Nat)) (c := (i : Nat)) (set_1 (z := 0) hg)
    have hR1 := hR.keepg hk1
    have hW1 := hW.trans (Rows.belowg hD hDg hk1)
    have hD1 := Nat.le_trans hD hk1.size
    clear k1 k2 k3 k4 k5 k6 k7 k8 f1 f5 f6 f7 f8 hgl hk1 hg hR hW hD
    generalize (((w4.setCell ⟨g, 1, none⟩ (.int .i64 0)).setCell ⟨g, 5, none⟩ (.int .i64 (l1 : Nat))).setCell ⟨g, 6, none⟩ (.int .i64 (c1 : Nat))).setCell ⟨g, 7, none⟩ (.int .i64 (i : Nat)) = V1 at *
    have hg := hg1
    have hgl : g < V1.heap.size := (Array.getElem?_eq_some_iff.1 hg).1
    have k1 : V1.cell? ⟨g, 1, none⟩ = some (.int .i64 0) := by rw [Lib.cell_of_heap hg]; rfl
    have k2 : V1.cell? ⟨g, 2, none⟩ = some (.int .i64 (l1 : Nat)) := by rw [Lib.cell_of_heap hg]; rfl
    have k3 : V1.cell? ⟨g, 3, none⟩ = some (.int .i64 (c1 : Nat)) := by rw [Lib.cell_of_heap hg]; rfl
    have k4 : V1.cell? ⟨g, 4, none⟩ = some (.int .i64 (i : Nat)) := by rw [Lib.cell_of_heap hg]; rfl
    have k5 : V1.cell? ⟨g, 5, none⟩ = some (.int .i64 (l1 : Nat)) := by rw [Lib.cell_of_heap hg]; rfl
    have k6 : V1.cell? ⟨g, 6, none⟩ = some (.int .i64 (c1 : Nat)) := by rw [Lib.cell_of_heap hg]; rfl
    have k7 : V1.cell? ⟨g, 7, none⟩ = some (.int .i64 (i : Nat)) := by rw [Lib.cell_of_heap hg]; rfl
    have k8 : V1.cell? ⟨g, 8, none⟩ = some (tv) := by rw [Lib.cell_of_heap hg]; rfl
    have f1 : V1.frozen? ⟨g, 1, none⟩ = false := by simp [World.frozen?, hg]
    have f5 : V1.frozen? ⟨g, 5, none⟩ = false := by simp [World.frozen?, hg]
    have f6 : V1.frozen? ⟨g, 6, none⟩ = false := by simp [World.frozen?, hg]
    have f7 : V1.frozen? ⟨g, 7, none⟩ = false := by simp [World.frozen?, hg]
    have f8 : V1.frozen? ⟨g, 8, none⟩ = false := by simp [World.frozen?, hg]
    have HG := Lib.hid hg1
    have HR := Lib.hid hR1
    have HD := Lib.hid (And.intro hD1 (And.intro hDg hW1))
    clear hg hg1 hR1 hW1 hD1 hDg
    refine (CB.out _).mono ?_
    rintro e w' ⟨rfl, rfl⟩
    go_wp2_with fail
    refine (CI.out _).mono ?_
    rintro e w' ⟨rfl, rfl⟩
    go_wp2
    refine wp_goto ?_
    refine HJ.out 3 4 _ _ _ (by rfl) ?_
    go_wp2_with fail
    have hk2 : Keep (fun b => b = g) V1 ((V1.setCell ⟨g, 1, none⟩ (.int .i64 4)).setCell ⟨g, 8, none⟩ (.slice none 0 0)) := keep_set (g := g) (keep_set (g := g) (Keep.refl _ V1))
    have hS2 : ScAt D g s ⟨4, (l1, c1, i), (l1, c1, i), [], (l3, c3, i3), bh, toks ++ [⟨1, text, (l2, c2, i2)⟩]⟩ ((V1.setCell ⟨g, 1, none⟩ (.int .i64 4)).setCell ⟨g, 8, none⟩ (.slice none 0 0)) := .of (set_8 (u := .slice none 0 0) (set_1 (z := 4) HG.out)) HD.out.2.1 (HR.out.keepg hk2).nil
    refine (CP.out _ _ _ _ _ (by simp) hS2 (HD.out.2.2.trans (Rows.belowg HD.out.1 HD.out.2.1 hk2))).mono ?_
    rintro e w3 ⟨hb3, h3⟩
    have hpp : pieceS s ⟨4, (l1, c1, i), (l1, c1, i), [], (l3, c3, i3), bh, toks ++ [⟨1, text, (l2, c2, i2)⟩]⟩ r = plainS s ⟨4, (l1, c1, i), (l1, c1, i), [], (l3, c3, i3), bh, toks ++ [⟨1, text, (l2, c2, i2)⟩]⟩ r := by simp [pieceS]
    rw [hpp] at h3
    clear hk2 hS2 hpp
    cases hp : plainS s ⟨4, (l1, c1, i), (l1, c1, i), [], (l3, c3, i3), bh, toks ++ [⟨1, text, (l2, c2, i2)⟩]⟩ r with
    | took c3 =>
      rw [hp] at h3 hX2
      obtain ⟨rfl, hS3⟩ := h3
      have HF := Lib.hid (And.intro hS3 (And.intro hb3 hX2))
      clear hS3 hb3 hX2 hp
      go_wp2
      refine HQ _ _ _ _ (by intro l h; cases h) ?_
      go_ret
      rw [HF.out.2.2]
      exact ⟨HF.out.2.1, rfl, HF.out.1⟩
    | left c3 => exact (plain_left hp hb hq r35 r91 r93 r42).elim
    | bad no p =>
      rw [hp] at h3 hX2
      subst h3
      have HF := Lib.hid (And.intro hb3 hX2)
      clear hb3 hX2 hp
      go_wp2
      refine HQ _ _ _ _ (by intro l h; cases h) ?_
      go_ret
      rw [HF.out.2]
      exact ⟨HF.out.1, rfl⟩
end Go.Proofs.YtlfdpdlhppgakaaGreatDoor
/- What the scanner's step leaves as it was; the scanner's token in any state. -/
namespace Go.Proofs.YtlfdpdlhppgakaaGreatDoor
open Go Go.RowKit Go.Kt Go.Shelf Go.Lib

theorem unitL_len (s : ByteArray) (i : Nat) (hi : i ≤ s.size) : (unitL s i).length ≤ 4 := by
  unfold unitL
  rw [← Lib.size_eq, ByteArray.size_extract]
  have := unitW_bd s i hi
  omega
section
variable {s : ByteArray} {c c' : Sc} {r : Int}
theorem plainS_ok (h92 : r = 92 → c.here.2.2 < s.size) (hi : c.here.2.2 ≤ s.size) (h : plainS s c r = .took c') : c'.here = c.here ∧ c'.from = c.from ∧ c'.toks = c.toks ∧ c'.text.length ≤ c.text.length + 4 := by
  unfold plainS at h
  split at h
  · cases h; exact ⟨rfl, rfl, rfl, by simp⟩
  · split at h
    · rename_i h39 h92'
      split at h
      · cases h
      · rename_i t k hu
        cases h
        have hz : (s.extract c.here.2.2 s.size).size = s.size - c.here.2.2 := by rw [ByteArray.size_extract]; omega
        have := unesc_bd (by have := h92 h92'; omega) hu
        exact ⟨rfl, rfl, rfl, by simp only [List.length_append]; omega⟩
    · split at h
      · cases h
      · split at h
        · cases h
        · cases h
          have := unitL_len s c.here.2.2 hi
          exact ⟨rfl, rfl, rfl, by simp only [List.length_append]; omega⟩
theorem pieceS_ok (h92 : r = 92 → c.here.2.2 < s.size) (hi : c.here.2.2 ≤ s.size) (h : pieceS s c r = .took c') : c'.here = c.here ∧ c'.from = c.from ∧ c'.toks = c.toks ∧ c'.text.length ≤ c.text.length + 4 := by
  unfold pieceS at h
  split at h
  · unfold quotedS at h
    split at h
    · cases h; exact ⟨rfl, rfl, rfl, by simp⟩
    · cases h
      have := unitL_len s c.here.2.2 hi
      exact ⟨rfl, rfl, rfl, by simp only [List.length_append]; omega⟩
  · split at h
    · unfold closingS at h
      split at h
      · cases h; exact ⟨rfl, rfl, rfl, by simp⟩
      · exact plainS_ok h92 hi h
    · split at h
      · unfold escapeS at h
        split at h
        · exact plainS_ok h92 hi h
        · cases h; exact ⟨rfl, rfl, rfl, by simp⟩
      · exact plainS_ok h92 hi h
theorem betweenS_ok (h92 : r = 92 → c.here.2.2 < s.size) (hi : c.here.2.2 ≤ s.size) (h : betweenS s c r = .ok c') : c'.here = c.here ∧ c'.from = c.here ∧ c'.toks = c.toks ∧ c'.text.length ≤ c.text.length + 4 := by
  unfold betweenS at h
  repeat' split at h
  all_goals first | (cases h; done) | (cases h; exact ⟨rfl, rfl, rfl, by simp⟩) | skip
  cases hp : plainS s { c with st := 4, «from» := c.here, text := [] } r with
  | took c2 =>
    rw [hp] at h
    cases h
    obtain ⟨a1, a2, a3, a4⟩ := plainS_ok (c := { c with st := 4, «from» := c.here, text := [] }) h92 hi hp
    exact ⟨a1, a2, a3, by simp only [List.length_nil] at a4; omega⟩
  | left c2 =>
    rw [hp] at h
    cases h
    have hl : pieceS s { c with st := 4, «from» := c.here, text := [] } r = plainS s { c with st := 4, «from» := c.here, text := [] } r := by simp [pieceS]
    have := pieceS_left (hl.trans hp)
    subst this
    exact ⟨rfl, rfl, rfl, by simp⟩
  | bad no p => rw [hp] at h; cases h
theorem tokenS_ok (h92 : r = 92 → c.here.2.2 < s.size) (hi : c.here.2.2 ≤ s.size) (h : tokenS s c r = .ok c') : c'.here = c.here ∧ (c'.from = c.here ∨ c'.from = c.from) ∧ c'.toks.length ≤ c.toks.length + 1 ∧ c'.text.length ≤ c.text.length + 4 := by
  unfold tokenS at h
  split at h
  · obtain ⟨a1, a2, a3, a4⟩ := betweenS_ok h92 hi h
    exact ⟨a1, .inl a2, by rw [a3]; omega, a4⟩
  split at h
  · unfold remarkS at h
    split at h
    · obtain ⟨a1, a2, a3, a4⟩ := betweenS_ok (c := { c with st := 1 }) h92 hi h
      exact ⟨a1, .inl a2, by rw [a3]; simp only; omega, a4⟩
    · cases h; exact ⟨rfl, .inr rfl, by simp, by simp⟩
  split at h
  · unfold signS at h
    split at h
    · cases h; exact ⟨rfl, .inr rfl, by simp, by simp⟩
    · obtain ⟨a1, a2, a3, a4⟩ := betweenS_ok (c := addT { c with st := 2 } 2 (sinceL s c)) h92 hi h
      exact ⟨a1, .inl a2, by rw [a3]; simp [addT], a4⟩
  split at h
  · unfold optionS at h
    split at h
    · cases h; exact ⟨rfl, .inr rfl, by simp [addT], by simp [addT]⟩
    · cases h; exact ⟨rfl, .inr rfl, by simp, by simp⟩
  · unfold textS at h
    cases hp : pieceS s c r with
    | took c2 =>
      rw [hp] at h
      cases h
      obtain ⟨a1, a2, a3, a4⟩ := pieceS_ok h92 hi hp
      exact ⟨a1, .inr a2, by rw [a3]; omega, a4⟩
    | bad no p => rw [hp] at h; cases h
    | left c2 =>
      rw [hp] at h
      have := pieceS_left hp
      subst this
      obtain ⟨a1, a2, a3, a4⟩ := betweenS_ok (c := addT { c with st := 4 } 1 c.text) h92 hi h
      exact ⟨a1, .inl a2, by rw [a3]; simp [addT], a4⟩
end

theorem token_any (s : ByteArray) (c : Sc) (r : Int) (D g : Nat) (w0 w : World) (hD0 : D ≤ w0.heap.size) (hS : ScAt D g s c w) (hE : ∀ X, KeepG D g w0 X → SEnv X) (hW : KeepG D g w0 w) (hr : 0 ≤ r) (h92 : r = 92 → c.here.2.2 < s.size) (hi : c.here.2.2 ≤ s.size) (hf : c.from.2.2 ≤ c.here.2.2) (ho : c.st = 3 → c.from.2.2 < c.here.2.2) (hs : s.size ≤ 1048576) (hm : c.text.length ≤ 8388000) (hn : c.toks.length ≤ 2097152) :
    Calls Tryz.prog 27 #[.pointer (some ⟨g, 0, none⟩), .int .i32 r] w (TokOut D g s w0 (tokenS s c r)) := by
  unfold tokenS
  by_cases h0 : c.st = 0
  · rw [if_pos h0]; exact token_between s c r D g w0 w hD0 h0 hS hE hW hr h92 hi hf hs hm hn
  rw [if_neg h0]
  by_cases h1 : c.st = 1
  · rw [if_pos h1]; exact token_remark s c r D g w0 w hD0 h1 hS hE hW hr h92 hi hf hs hm hn
  rw [if_neg h1]
  by_cases h2 : c.st = 2
  · rw [if_pos h2]; exact token_sign s c r D g w0 w hD0 h2 hS hE hW hr h92 hi hf hs hm hn
  rw [if_neg h2]
  by_cases h3 : c.st = 3
  · rw [if_pos h3]; exact token_option s c r D g w0 w hD0 h3 (ho h3) hS hE hW hr h92 hi hf hs hm hn
  rw [if_neg h3]
  exact token_text s c r D g w0 w hD0 (by omega) hS hE hW hr h92 hi hf hs hm hn
theorem plNext_ix (s : ByteArray) (p : Pl) (i : Nat) : (plNext s p i).2.2 = i ∧ (plNext s p i).1 ≤ p.1 + 1 ∧ (plNext s p i).2.1 ≤ p.2.1 + 1 := by
  unfold plNext
  split
  · exact ⟨rfl, Nat.le_refl _, by simp⟩
  · exact ⟨rfl, Nat.le_succ _, Nat.le_refl _⟩
end Go.Proofs.YtlfdpdlhppgakaaGreatDoor
/- The program's Scan, whole. -/
namespace Go.Proofs.YtlfdpdlhppgakaaGreatDoor
open Go Go.RowKit Go.Kt Go.Shelf Go.Lib
attribute [local go_sem] Oper.semAt_some

def finS : TR → SR
  | .ok c => endS c
  | .bad no p => .bad no p.1 p.2.1
/-- What Scan answers. -/
def ScanOut (D : Nat) (o : SR) (e : Ending) (w' : World) : Prop := match o with
  | .bad no l c => e = .returned (.tuple #[.slice none 0 0, fltV no (l : Nat) (c : Nat)])
  | .ok l => ∃ g cap, e = .returned (.tuple #[.slice (some ⟨g, 0, none⟩) l.length cap, .nilIface]) ∧ OwnS (fun b => D ≤ b) 39 5 (.slice (some ⟨g, 0, none⟩) l.length cap) l.length (tksC l) w'

theorem ScAt.keep {D g : Nat} {s : ByteArray} {c : Sc} {A B : World} {X : Nat → Prop} (h : ScAt D g s c A) (hk : Keep X A B) (hg : ¬ X g) (hX : ∀ b, X b → b < D) : ScAt D g s c B := by
  obtain ⟨tv, kv, h1, h2, h3, h4⟩ := h
  exact ⟨tv, kv, hk.heap h1 hg, h2, h3.keep hk (fun b hx hy => by have := hX b hx; omega), h4.keep hk (fun b hx hy => by have := hX b hx; omega)⟩
theorem dec_nl (s : ByteArray) (pos : Nat) (h : pos ≤ s.size) (h92 : (((Utf8.decode (s ++ nlB) pos).1 : Nat) : Int) = 92) : pos < s.size := by
  by_cases he : pos = s.size
  · subst he
    rw [decode_end] at h92
    exact absurd h92 (by decide)
  · omega
set_option maxHeartbeats 4000000 in
set_option maxRecDepth 100000 in
theorem scan_any (s : ByteArray) (w : World) (hE : SEnv w) (hs : s.size ≤ 140737488351232) :
    Calls Tryz.prog 12 #[.string s] w fun e w' => ScanOut w.heap.size (scanS s) e w' ∧ Below w.heap.size w w' := by
  have CT := Lib.hid (tooMany_any s w hs)
  by_cases h1 : 1048576 < s.size
  · have e1 : scanS s = .bad 5 0 0 := by unfold scanS; rw [if_pos h1]
    rw [e1]
    have e2 : tmV s = fltV 5 0 0 := by unfold tmV; rw [if_pos h1]
    rw [e2] at CT
    clear e1 e2 h1 hE hs
    go_enter Tryz.func12, Tryz.ntmps12
    go_wp2_with fail
    refine CT.out.mono ?_
    rintro e w1 ⟨rfl, hb⟩
    have HB := Lib.hid hb
    clear hb
    go_wp2
    go_ret2
    exact ⟨rfl, HB.out⟩
  by_cases h2 : 65536 ≤ nlN s
  · have e1 : scanS s = .bad 5 65537 1 := by unfold scanS; rw [if_neg h1, if_pos h2]
    rw [e1]
    have e2 : tmV s = fltV 5 65537 1 := by unfold tmV; rw [if_neg h1, if_pos h2]
    rw [e2] at CT
    clear e1 e2 h1 h2 hE hs
    go_enter Tryz.func12, Tryz.ntmps12
    go_wp2_with fail
    refine CT.out.mono ?_
    rintro e w1 ⟨rfl, hb⟩
    have HB := Lib.hid hb
    clear hb
    go_wp2
    go_ret2
    exact ⟨rfl, HB.out⟩
  obtain ⟨R, hR⟩ : ∃ R, runS s (s.size + 1) 0 c0S = R := ⟨_, rfl⟩
  have e1 : scanS s = finS R := by unfold scanS; rw [if_neg h1, if_neg h2, hR]; cases R <;> rfl
  have e2 : tmV s = .nilIface := by unfold tmV; rw [if_neg h1, if_neg h2]
  obtain ⟨Y, hY⟩ : ∃ Y, scanS s = Y := ⟨_, rfl⟩
  rw [hY] at e1 ⊢
  rw [e2] at CT
  have HY := Lib.hid e1
  have HR := Lib.hid hR
  have HE := Lib.hid hE
  have hs1 : s.size ≤ 1048576 := by omega
  have hcz : ¬ s.size + 1 > 9223372036854775807 := by omega
  clear e1 e2 h2 hE hs hR hY h1
  go_enter Tryz.func12, Tryz.ntmps12
  go_wp2_with fail
  refine CT.out.mono ?_
  rintro e w1 ⟨rfl, hb⟩
  have HB := Lib.hid hb
  clear hb
  go_wp2_with fail
  obtain ⟨N, hN⟩ : ∃ N, w1.heap.size = N := ⟨_, rfl⟩
  rw [hN]
  have HN := Lib.hid hN
  clear CT
  go_loopw [] (fun wr => ∃ (pos f : Nat) (c : Sc), runS s f pos c = R ∧ s.size + 1 ≤ pos + f ∧ pos ≤ s.size + 1 ∧ (c.here.2.2 < pos ∨ c.st = 0) ∧ c.from.2.2 ≤ c.here.2.2 ∧ c.here.2.2 ≤ pos ∧ c.here.1 ≤ pos + 1 ∧ c.here.2.1 ≤ pos + 1 ∧ c.text.length ≤ 4 * pos ∧ c.toks.length ≤ pos ∧ Below w.heap.size w wr ∧ wr.heap[N + 1]? = some (.stringIter (s ++ nlB) pos) ∧ ScAt (N + 2) N s c wr)
    (fun wr => s.size + 1 - iterPos wr (N + 1))
  case atStart =>
    subst hN
    have b0 : ∀ l, (w1.alloc (.cells l 53 (0, 0))).heap[w1.heap.size]? = some (.cells l 53 (0, 0)) := fun l => World.alloc_heap_new w1 _
    have hz := HB.out.size
    have hbb := HB.out.trans ((((Below.refl _ w1).alloc (Nat.le_refl _) (.cells #[.string s, .int .i64 0, .int .i64 1, .int .i64 0, .int .i64 0, .int .i64 0, .int .i64 0, .int .i64 0, .slice none 0 0, .int .i64 0, .int .i64 0, .int .i64 0, .int .i64 0, .slice none 0 0] 53)).alloc (by simp) (.stringIter (s ++ nlB) 0)).mono hz)
    exact ⟨0, s.size + 1, c0S, HR.out, by omega, by omega, .inr rfl, Nat.le_refl _, Nat.le_refl _, Nat.le_refl _, by decide, by decide, by decide, hbb, alloc_at (by simp), ⟨_, _, alloc_old (b0 _), trivial, own_nil _ _ _ _, own_nil _ _ _ _⟩⟩
  case round =>
    obtain ⟨pos, f, c, hrun, hf, hps, hst, hfr, hhp, hl1, hl2, htx, htk, hb, hit, hS⟩ := hrel
    have hlt : N + 1 < wr.heap.size := (Array.getElem?_eq_some_iff.1 hit).1
    have hSz : (s ++ nlB).size = s.size + 1 := nl_size s
    by_cases hpos : pos < s.size + 1
    · obtain ⟨f', rfl⟩ : ∃ f', f = f' + 1 := ⟨f - 1, by omega⟩
      obtain ⟨v, hv⟩ : ∃ v, (Utf8.decode (s ++ nlB) pos).2 = v := ⟨_, rfl⟩
      obtain ⟨rn, hrn⟩ : ∃ rn, (Utf8.decode (s ++ nlB) pos).1 = rn := ⟨_, rfl⟩
      have hvb := dec_width (s ++ nlB) pos (by omega)
      rw [hv, hSz] at hvb
      obtain ⟨p2, hp2⟩ : ∃ p2, plNext s c.here pos = p2 := ⟨_, rfl⟩
      obtain ⟨x1, x2, x3⟩ := plNext_ix s c.here pos
      rw [hp2] at x1 x2 x3
      obtain ⟨pl, pc, pi⟩ := p2
      simp only at x1 x2 x3
      have hun : runS s (f' + 1) pos c = match tokenS s { c with here := (pl, pc, pi) } (rn : Nat) with
          | .ok c' => runS s f' (pos + v) c'
          | .bad no p => .bad no p := by rw [runS, if_pos hpos, hp2, hrn, hv]; rfl
      rw [hun] at hrun
      obtain ⟨o, ho⟩ : ∃ o, tokenS s { c with here := (pl, pc, pi) } (rn : Nat) = o := ⟨_, rfl⟩
      rw [ho] at hrun
      have h92 : ((rn : Nat) : Int) = 92 → pos < s.size := fun h => dec_nl s pos (by omega) (by rw [hrn]; exact h)
      obtain ⟨W1, hW1⟩ : ∃ W1, wr.putObj (N + 1) (.stringIter (s ++ nlB) (pos + v)) = W1 := ⟨_, rfl⟩
      have hnx : ∀ ty, (Instr.next (.pointer (some ⟨N + 1, 0, none⟩)) true ty).run Tryz.prog wr = .ok (.tuple #[.bool true, .int .i64 pos, .int .i32 rn]) W1 := fun ty => by
        rw [← hW1, ← hv, ← hrn]; exact run_next_str wr (N + 1) (s ++ nlB) pos ty hit (by omega)
      have hNw : w.heap.size ≤ N + 1 := by have h1 := HN.out; have h2 := HB.out.size; omega
      have hb1 : Below w.heap.size w W1 := by rw [← hW1]; exact hb.trans (below_putObj hNw _)
      have hit1 : W1.heap[N + 1]? = some (.stringIter (s ++ nlB) (pos + v)) := by rw [← hW1]; exact World.putObj_heap_same hlt
      have hk1 : Keep (fun b => b = N + 1) wr W1 := by rw [← hW1]; exact Keep.putObj (X := fun b => b = N + 1) (Keep.refl _ wr) (.inl rfl) _
      have hS1 : ScAt (N + 2) N s c W1 := hS.keep hk1 (by omega) (fun b h => by omega)
      obtain ⟨⟨st, ⟨l1, c1, i1⟩, fr, text, quote, bh, toks⟩⟩ : Nonempty Sc := ⟨c⟩
      clear st l1 c1 i1 fr text quote bh toks
      obtain ⟨st, ⟨l1, c1, i1⟩, ⟨l2, c2, i2⟩, text, ⟨l3, c3, i3⟩, bh, toks⟩ := c
      simp only at hst hfr hhp hl1 hl2 htx htk hp2 ho x2 x3
      obtain ⟨tv, kv, hg, _, hR⟩ := hS1
      have hR : Rows (N + 2) N tv kv text toks W1 := hR
      have hgl : N < W1.heap.size := (Array.getElem?_eq_some_iff.1 hg).1
      have k2 : W1.cell? ⟨N, 2, none⟩ = some (.int .i64 (l1 : Nat)) := by rw [Lib.cell_of_heap hg]; rfl
      have k3 : W1.cell? ⟨N, 3, none⟩ = some (.int .i64 (c1 : Nat)) := by rw [Lib.cell_of_heap hg]; rfl
      have k4 : W1.cell? ⟨N, 4, none⟩ = some (.int .i64 (i1 : Nat)) := by rw [Lib.cell_of_heap hg]; rfl
      have CN := Lib.hid (plNext_any s (l1, c1, i1) pos W1 (by omega) (by simp only; omega) (by simp only; omega) (by omega))
      rw [hp2] at CN
      unfold plV at CN
      simp only at CN
      have HD := Lib.hid (And.intro hrun (And.intro hf (And.intro hit (And.intro hit1 (And.intro hb1 (And.intro hg hR))))))
      have HA := Lib.hid (And.intro hst (And.intro hfr (And.intro hhp (And.intro hl1 (And.intro hl2 (And.intro htx (And.intro htk (And.intro x1 (And.intro x2 (And.intro x3 (And.intro h92 (And.intro ho (And.intro hvb (And.intro hlt hpos))))))))))))))
      clear hrun hf hit hit1 hb1 hg hR hst hfr hhp hl1 hl2 htx htk x1 x2 x3 h92 ho hvb hlt hun hW1 hk1 hS hb hp2 hrn hv hSz hNw hcz hpos hps
      go_wp2_with fail
      refine CN.out.mono ?_
      rintro e w2 ⟨rfl, hb2⟩
      obtain ⟨hrun, hf, hit, hit1, hb1, hg, hR⟩ := HD.out
      have hg2 := (hb2.block N hgl).trans hg
      have hR2 := hR.below hb2
      have hB2 := hb1.trans (hb2.mono hb1.size)
      have hi2 := (hb2.block (N + 1) (Array.getElem?_eq_some_iff.1 hit1).1).trans hit1
      have q2 : w2.cell? ⟨N, 2, none⟩ = some (.int .i64 (l1 : Nat)) := by rw [Lib.cell_of_heap hg2]; rfl
      have q3 : w2.cell? ⟨N, 3, none⟩ = some (.int .i64 (c1 : Nat)) := by rw [Lib.cell_of_heap hg2]; rfl
      have q4 : w2.cell? ⟨N, 4, none⟩ = some (.int .i64 (i1 : Nat)) := by rw [Lib.cell_of_heap hg2]; rfl
      have f2 : w2.frozen? ⟨N, 2, none⟩ = false := by simp [World.frozen?, hg2]
      have f3 : w2.frozen? ⟨N, 3, none⟩ = false := by simp [World.frozen?, hg2]
      have f4 : w2.frozen? ⟨N, 4, none⟩ = false := by simp [World.frozen?, hg2]
      have HD2 := Lib.hid (And.intro hg2 (And.intro hR2 (And.intro hB2 (And.intro hi2 (And.intro hrun (And.intro hf hit))))))
      clear hg2 hR2 hB2 hi2 hrun hf hit hit1 hb1 hg hR hb2 HD k2 k3 k4 hgl
      go_wp2_with fail
      obtain ⟨hg2, hR2, hB2, hi2, hrun, hf, hit⟩ := HD2.out
      obtain ⟨hst, hfr, hhp, hl1, hl2, htx, htk, x1, x2, x3, h92, ho, hvb, hlt, hpos⟩ := HA.out
      have hg3 := set_h (a := (pl : Nat)) (b := (pc : Nat)) (c := (pi : Nat)) hg2
      have hk3 : Keep (fun b => b = N) w2 (((w2.setCell ⟨N, 2, none⟩ (.int .i64 (pl : Nat))).setCell ⟨N, 3, none⟩ (.int .i64 (pc : Nat))).setCell ⟨N, 4, none⟩ (.int .i64 (pi : Nat))) := keep_set (g := N) (keep_set (g := N) (keep_set (g := N) (Keep.refl _ w2)))
      have hR3 := hR2.keepg hk3
      have hNw : w.heap.size ≤ N := by have h1 := HN.out; have h2 := HB.out.size; omega
      have hB3 : Below w.heap.size w (((w2.setCell ⟨N, 2, none⟩ (.int .i64 (pl : Nat))).setCell ⟨N, 3, none⟩ (.int .i64 (pc : Nat))).setCell ⟨N, 4, none⟩ (.int .i64 (pi : Nat))) := hB2.trans ⟨hk3.os, hk3.tape, hk3.output, hk3.size, fun k hk => hk3.same k (by have := hB2.size; omega) (by omega)⟩
      have hi3 := hk3.heap hi2 (by omega)
      clear q2 q3 q4 f2 f3 f4 hg2 hR2 hB2 hi2 hk3
      generalize ((w2.setCell ⟨N, 2, none⟩ (.int .i64 (pl : Nat))).setCell ⟨N, 3, none⟩ (.int .i64 (pc : Nat))).setCell ⟨N, 4, none⟩ (.int .i64 (pi : Nat)) = W3 at *
      have hn3 : N + 2 ≤ W3.heap.size := by have := (Array.getElem?_eq_some_iff.1 hi3).1; omega
      have hS3 : ScAt (N + 2) N s ⟨st, (pl, pc, pi), (l2, c2, i2), text, (l3, c3, i3), bh, toks⟩ W3 := .of hg3 trivial hR3
      have hBX : ∀ X, KeepG (N + 2) N W3 X → Below w.heap.size w X := fun X hk => hB3.trans ⟨hk.os, hk.tape, hk.output, hk.size, fun k hk2 => hk.same k (by have := hB3.size; omega) (by omega)⟩
      have CT := token_any s ⟨st, (pl, pc, pi), (l2, c2, i2), text, (l3, c3, i3), bh, toks⟩ (rn : Nat) (N + 2) N W3 W3 hn3 hS3 (fun X hk => HE.out.below (hBX X hk)) (Keep.refl _ _) (by omega) (by simp only; rw [x1]; exact h92) (by simp only; omega) (by simp only; omega) (by simp only; intro h; rcases hst with h2 | h2 <;> omega) hs1 (by simp only; omega) (by simp only; omega)
      rw [ho] at CT
      refine CT.mono ?_
      rintro e w4 ⟨hk4, h4⟩
      have hB4 := hBX _ hk4
      have hi4 := hk4.heap hi3 (by omega)
      clear CT hg3 hR3 hB3 hi3 hS3 hBX hn3
      cases o with
      | bad no p =>
        subst h4
        have HF := Lib.hid (And.intro hB4 hrun)
        clear hB4 hrun hk4 hi4 ho hit hst hfr hhp hl1 hl2 htx htk x1 x2 x3 h92 hvb hlt hf hpos HA HD2
        go_wp2
        go_ret2
        have hY := HY.out
        rw [← HF.out.2] at hY
        rw [hY]
        exact ⟨rfl, HF.out.1⟩
      | ok c4 =>
        obtain ⟨rfl, hS4⟩ := h4
        obtain ⟨y1, y2, y3, y4⟩ := tokenS_ok (c := ⟨st, (pl, pc, pi), (l2, c2, i2), text, (l3, c3, i3), bh, toks⟩) (by simp only; rw [x1]; exact h92) (by simp only; omega) ho
        simp only at y1 y2 y3 y4 hrun
        have HF := Lib.hid (And.intro hB4 (And.intro hrun (And.intro hS4 (And.intro hi4 (And.intro y1 (And.intro y2 (And.intro y3 (And.intro y4 hit))))))))
        clear hB4 hrun hk4 hi4 ho hit hst hfr hhp hl1 hl2 htx htk x1 x2 x3 h92 hvb hlt hf hS4 y1 y2 y3 y4 hpos
        go_wp2
        go_roundw
        case rel =>
          obtain ⟨hB4, hrun, hS4, hi4, y1, y2, y3, y4, hit⟩ := HF.out
          obtain ⟨hst, hfr, hhp, hl1, hl2, htx, htk, x1, x2, x3, h92, ho, hvb, hlt, hpos⟩ := HA.out
          obtain ⟨hg2, hR2, hB2, hi2, hrun0, hf, _⟩ := HD2.out
          refine ⟨pos + v, f', c4, hrun, by omega, by omega, .inl (by rw [y1]; simp only; omega), ?_, by rw [y1]; simp only; omega, by rw [y1]; simp only; omega, by rw [y1]; simp only; omega, by omega, by omega, hB4, hi4, hS4⟩
          rcases y2 with y2 | y2 <;> rw [y2, y1] <;> simp only <;> omega
        case measure =>
          obtain ⟨hB4, hrun, hS4, hi4, y1, y2, y3, y4, hit⟩ := HF.out
          obtain ⟨hst, hfr, hhp, hl1, hl2, htx, htk, x1, x2, x3, h92, ho, hvb, hlt, hpos⟩ := HA.out
          rw [iterPos_eq hi4, iterPos_eq hit]; omega
    · have hnx : ∀ ty, (Instr.next (.pointer (some ⟨N + 1, 0, none⟩)) true ty).run Tryz.prog wr = .ok (.tuple #[.bool false]) wr := fun ty => run_next_str_end wr (N + 1) (s ++ nlB) pos ty hit (by omega)
      have hrc : R = .ok c := by
        rw [← hrun]
        cases f with
        | zero => rfl
        | succ f => rw [runS, if_neg hpos]
      have hY := HY.out
      rw [hrc] at hY
      have hY2 : Y = endS c := hY
      obtain ⟨st, ⟨l1, c1, i1⟩, ⟨l2, c2, i2⟩, text, ⟨l3, c3, i3⟩, bh, toks⟩ := c
      obtain ⟨tv, kv, hg, _, hR⟩ := hS
      have hR : Rows (N + 2) N tv kv text toks wr := hR
      simp only at htk
      have hNw : w.heap.size ≤ N := by have h1 := HN.out; have h2 := HB.out.size; omega
      by_cases hbad : st = 3 ∨ st = 5
      · have CE := Lib.hid (end_bad s (l1 : Nat) (c1 : Nat) (i1 : Nat) (bh : Nat) st l2 c2 i2 l3 c3 i3 tv kv N wr hg hbad)
        have hY3 : ∀ w', ScanOut w.heap.size Y (.returned (.tuple #[.slice none 0 0, if st = 3 then fltV 25 (l2 : Nat) (c2 : Nat) else fltV 10 (l3 : Nat) (c3 : Nat)])) w' := fun w' => by
          rw [hY2]
          unfold endS
          simp only
          rcases hbad with rfl | rfl
          · rw [if_pos rfl, if_pos rfl]; rfl
          · rw [if_neg (by decide), if_pos rfl, if_neg (by decide)]; rfl
        have HF := Lib.hid (And.intro hb hY3)
        clear hrun hrc hY hY2 hY3 hR hg hst hfr hhp hl1 hl2 htx htk hf hb hit hlt hSz hcz hbad HY
        go_wp2_with fail
        refine CE.out.mono ?_
        rintro e w5 ⟨rfl, hb5⟩
        have HB5 := Lib.hid (HF.out.1.trans (hb5.mono HF.out.1.size))
        clear hb5
        generalize (if st = 3 then fltV 25 (l2 : Nat) (c2 : Nat) else fltV 10 (l3 : Nat) (c3 : Nat)) = FV at *
        go_wp2
        go_ret2
        exact ⟨HF.out.2 _, HB5.out⟩
      · have CE := Lib.hid (end_good s (l1 : Nat) (c1 : Nat) (i1 : Nat) (l2 : Nat) (c2 : Nat) (i2 : Nat) (l3 : Nat) (c3 : Nat) (i3 : Nat) (bh : Nat) st tv kv N wr toks.length (tksC toks) hg (hR.2.weaken fun _ h => h.2.1) (by omega) (fun h => hbad (.inl h)) (fun h => hbad (.inr h)))
        have hY3 : Y = .ok (toks ++ [⟨0, [], (l2, c2, i2)⟩]) := by
          rw [hY2]
          unfold endS
          rw [if_neg (fun h => hbad (.inl h)), if_neg (fun h => hbad (.inr h))]
        have HF := Lib.hid (And.intro hb (And.intro hY3 hR))
        clear hrun hrc hY hY2 hY3 hR hg hst hfr hhp hl1 hl2 htx htk hf hb hit hlt hSz hcz hbad HY
        go_wp2_with fail
        refine CE.out.mono ?_
        rintro e w5 ⟨g2, cap, rfl, ho, hk⟩
        have HO := Lib.hid (And.intro ho hk)
        clear ho hk
        go_wp2
        go_ret2
        obtain ⟨hb, hY3, hR⟩ := HF.out
        obtain ⟨ho, hk⟩ := HO.out
        rw [hY3]
        have e1 : toks.length + 1 = (toks ++ [⟨0, [], (l2, c2, i2)⟩] : List Tk).length := by simp
        have e2 : tksC toks ++ [.int .i64 0, .string ⟨#[]⟩, .int .i64 (l2 : Nat), .int .i64 (c2 : Nat), .int .i64 (i2 : Nat)] = tksC (toks ++ [⟨0, [], (l2, c2, i2)⟩]) := by rw [tksC_add]; rfl
        rw [e2] at ho
        refine ⟨⟨g2, cap, by rw [e1]; rfl, ?_⟩, hb.trans ⟨hk.os, hk.tape, hk.output, hk.size, fun k hk2 => hk.same k (by have := hb.size; omega) ?_⟩⟩
        · rw [← e1]
          exact ho.weaken fun b hb2 => by
            rcases hb2.1 with h | h
            · have := (hR.2.2 b h).1; omega
            · have := hb.size; omega
        · rintro (h | h)
          · omega
          · have := (hR.2.2 k h).1; omega
end Go.Proofs.YtlfdpdlhppgakaaGreatDoor
/- What the listed variables of scan's rows give the walks, and the world that their witnesses start in. -/
namespace Go.Proofs.YtlfdpdlhppgakaaGreatDoor
open Go.Lib Go.Shelf Go.Kt.Bits
set_option maxRecDepth 100000

/-- The rows' lists: with the handle of an error's type, and without. -/
noncomputable def theLaid8 : List (String × DataW Unit) := [("math/bits.deBruijn32tab", Rows.laid_math_bits_deBruijn32tab), ("math/bits.deBruijn64tab", Rows.laid_math_bits_deBruijn64tab), ("internal/strconv.uint64pow10", Rows.laid_internal_strconv_uint64pow10), ("unicode/utf8.acceptRanges", Rows.laid_unicode_utf8_acceptRanges), ("errors.errorType", Rows.laid_errors_errorType), ("strconv.ErrRange", Rows.laid_strconv_ErrRange), ("strconv.ErrSyntax", Rows.laid_strconv_ErrSyntax), ("unicode/utf8.first", Rows.laid_unicode_utf8_first)]
noncomputable def theLaid7 : List (String × DataW Unit) := [("math/bits.deBruijn32tab", Rows.laid_math_bits_deBruijn32tab), ("math/bits.deBruijn64tab", Rows.laid_math_bits_deBruijn64tab), ("internal/strconv.uint64pow10", Rows.laid_internal_strconv_uint64pow10), ("unicode/utf8.acceptRanges", Rows.laid_unicode_utf8_acceptRanges), ("strconv.ErrRange", Rows.laid_strconv_ErrRange), ("strconv.ErrSyntax", Rows.laid_strconv_ErrSyntax), ("unicode/utf8.first", Rows.laid_unicode_utf8_first)]

theorem errIx8 : Tryz.prog.globalNamed "errors.errorType" = some 0 := by kernel_rfl
theorem rtypeIx8 : (Tryz.prog.cutTypes.find? (·.1 == "internal/reflectlite.rtype")).map (·.2) = some 121 := by kernel_rfl
theorem typesN8 : Tryz.prog.types.size = 214 := by kernel_rfl
theorem errRow8 : ((List.range 214).filter fun t => Tryz.prog.rowNamed t [101, 114, 114, 111, 114]) = [28] := by kernel_rfl
theorem errT_of_handles8 {W : World} (h : handlesMet Tryz.prog [("errors.errorType", Rows.laid_errors_errorType)] W) : ErrT W := by
  obtain ⟨name, u, ty, e1, e2, e3, e4, e5⟩ := h _ (List.mem_singleton.2 rfl)
  have en : name = [101, 114, 114, 111, 114] := (Option.some.inj e1).symm
  subst en
  obtain rfl := Option.some.inj (rtypeIx8.symm.trans e2)
  have hm : ty ∈ (List.range 214).filter fun t => Tryz.prog.rowNamed t [101, 114, 114, 111, 114] := List.mem_filter.2 ⟨List.mem_range.2 (by rw [← typesN8]; exact e3), e4⟩
  rw [errRow8] at hm
  obtain rfl := List.mem_singleton.1 hm
  have hh : typeHandle Tryz.prog 28 = tyH 28 := by kernel_rfl
  rw [hh] at e5
  simpa using World.var?_cell errIx8 e5 0

theorem bruijn_eq8 : (Rows.laid_math_bits_deBruijn64tab : DataW Unit) = tabData .u8 (bruijnTab.map fun x : Nat => (x : Int)) := by kernel_rfl
theorem btab_of_reads8 {W : World} (h3 : VarReads Tryz.prog W "math/bits.deBruijn64tab" (tabData .u8 (bruijnTab.map fun x : Nat => (x : Int)))) : BTab W := by
  have c5 : Tryz.prog.cellsOf 5 = 1 := by kernel_rfl
  have c64 : Tryz.prog.cellsOf 176 = 64 := by kernel_rfl
  intro k hk
  obtain ⟨g, t, cs, fuel, p, hg, hty, hvar, hd⟩ := h3
  obtain rfl := Option.some.inj ((show Tryz.prog.globalNamed "math/bits.deBruijn64tab" = some 6 by kernel_rfl).symm.trans hg)
  obtain rfl := Option.some.inj ((show (Tryz.prog.globals[6]?).map (·.type) = some 176 by kernel_rfl).symm.trans hty)
  have hcs := cells_of_tab Tryz.underlying176 Tryz.underlying5 c5 c64 hd
  have := World.var?_cell hg hvar k
  rw [this, ← Array.getElem?_toList, hcs]
  have hl : bruijnTab.length = 64 := rfl
  simp [List.getD_eq_getElem?_getD, hl, hk]

theorem trod_iface8 {H : Type} {enc : TypeId × Value → H} {P : Program} {w : World} {base : Nat} {sp : Nat → Bool} {held : Bool} {fuel : Nat} {t : TypeId} {cs : List Value} {T : String} {D : DataW H} {q : List MemPlace} {ms : Array (String × TypeId)}
    (ht : P.underlying t = some (.interface ms)) (h : DataW.trod enc P w base sp held fuel t cs = some (.iface T D, q)) : ∃ u v, cs = [.iface u v] := by
  cases fuel with
  | zero => simp [DataW.trod] at h
  | succ n =>
    unfold DataW.trod at h
    rw [ht] at h
    split at h <;> simp_all
theorem iface_of_reads8 {W : World} {nm : String} {g : Nat} {T : String} {D : DataW Unit} (hn : Tryz.prog.globalNamed nm = some g) (ht : (Tryz.prog.globals[g]?).map (·.type) = some 28) (h : VarReads Tryz.prog W nm (.iface T D)) : ∃ t p, W.cell? ⟨g, 0, none⟩ = some (.iface t p) := by
  obtain ⟨g', t, cs, fuel, p, hg, hty, hvar, hd⟩ := h
  obtain rfl := Option.some.inj (hn.symm.trans hg)
  obtain rfl := Option.some.inj (ht.symm.trans hty)
  obtain ⟨u, v, e⟩ := trod_iface8 Tryz.underlying28 hd
  refine ⟨u, v, ?_⟩
  rw [World.var?_cell hg hvar 0, ← Array.getElem?_toList, e]
  rfl

/-- What a walk of scan's laws asks of the world. -/
def QEnv (W : World) : Prop := SEnv W ∧ BTab W ∧ 6 < W.heap.size
theorem of_laid8 {W : World} (h : laidMetH Tryz.prog theLaid8 W) : QEnv W := by
  have h' : laidMet Tryz.prog theLaid7 W ∧ handlesMet Tryz.prog [("errors.errorType", Rows.laid_errors_errorType)] W := h
  have hb := btab_of_reads8 (bruijn_eq8 ▸ laidMet.reads h'.1 (.tail _ (.head _)))
  have ht := tabs_of_reads (accept_eq ▸ laidMet.reads h'.1 (.tail _ (.tail _ (.tail _ (.head _))))) (Pinned.utf8First_eq ▸ laidMet.reads h'.1 (.tail _ (.tail _ (.tail _ (.tail _ (.tail _ (.tail _ (.head _))))))))
  have e1 := laidMet.reads h'.1 (.tail _ (.tail _ (.tail _ (.tail _ (.head _)))))
  have e2 := laidMet.reads h'.1 (.tail _ (.tail _ (.tail _ (.tail _ (.tail _ (.head _))))))
  exact ⟨⟨ht, errT_of_handles8 h'.2, iface_of_reads8 (by kernel_rfl) (by kernel_rfl) e2, iface_of_reads8 (by kernel_rfl) (by kernel_rfl) e1⟩, hb, Go.Kt.lt_of_cell (hb 0 (by decide))⟩

/-- The settled world, errors.errorType laid. -/
noncomputable def errWorld8 (os : Os) : World :=
  let w0 := World.holding Tryz.prog os ⟨#[], #[], []⟩
  { w0 with heap := w0.heap.modify 0 fun
      | .cells _ t frozen => .cells #[.iface 121 (.agg #[tyH 28])] t frozen
      | o => o }
theorem laidMet_on8 {P : Program} {w0 : World} {laid : List (String × DataW Unit)} (args : Array Value) (hf : w0.layFits P laid [] = true) (hi : w0.layIfaces P laid (w0.layVars P laid) = true) :
    laidMet P laid ((w0.layVars P laid).forCall (fun _ _ => 0) ⟨#[], args, []⟩).memory := by
  have e1 : (laid.filter fun x => (laid.map (·.1)).contains x.1) = laid := List.filter_eq_self.2 fun x hx => List.contains_iff_mem.2 (List.mem_map.2 ⟨x, hx, rfl⟩)
  have e2 : (laid.filter fun x => !(laid.map (·.1)).contains x.1) = [] := List.filter_eq_nil_iff.2 fun x hx => by rw [List.contains_iff_mem.2 (List.mem_map.2 ⟨x, hx, rfl⟩)]; simp
  have h : laidMet P laid (w0.layVars P laid) := laidMet_layVars (w0 := w0) (laid.map (·.1)) [] (by rw [e1]) (by rw [e1]; exact hf) (by rw [e1]; exact hi) (by rw [e2]; exact LaidIn.none)
  exact h.of_heap (by simp [World.memory, World.forCall, Input.heap])

/-- The witnesses' world. -/
noncomputable def world8 (os : Os) : World := (errWorld8 os).layVars Tryz.prog theLaid7
theorem world8_os (os : Os) : (world8 os).os = os := World.layVars_os _ _ _
theorem laid_met8 (os : Os) (args : Array Value) : laidMetH Tryz.prog theLaid8 ((world8 os).forCall (fun _ _ => 0) ⟨#[], args, []⟩).memory :=
  laidMetH_of_parts (show laidMet Tryz.prog theLaid7 _ from laidMet_on8 args (by kernel_rfl) (by kernel_rfl)) (by kernel_rfl)
end Go.Proofs.YtlfdpdlhppgakaaGreatDoor
