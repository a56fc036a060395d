/- Parts of the proof of what the last text says. -/
import Derived.Test.YtbnnhbmnddaafaaGreatDoorGz10
/- The scanner's token (written by wip/tools/gen_token.py). -/
namespace Go.Proofs.YtbnnhbmnddaafaaGreatDoor
open Go Go.RowKit Go.Kt Go.Shelf Go.Lib
attribute [local go_sem] Oper.semAt_some

def TokOut (D g : Nat) (s : ByteArray) (w : World) (o : TR) (e : Ending) (w' : World) : Prop := KeepG D g w w' ∧ match o with
  | .ok c => e = .returned .nilIface ∧ ScAt D g s c w'
  | .bad no p => e = .returned (fltV no (p.1 : Nat) (p.2.1 : Nat))
theorem ext_nil (s : ByteArray) (i : Nat) : s.extract i i = ⟨#[]⟩ := by
  apply ByteArray.ext
  rw [ByteArray.data_extract]
  simp
  omega
theorem app_list (a b : ByteArray) : (a ++ b).data.toList = a.data.toList ++ b.data.toList := by
  rw [ByteArray.data_append, Array.toList_append]
theorem pieceS_left {s : ByteArray} {c c' : Sc} {r : Int} (h : pieceS s c r = .left c') : c' = { c with st := 4 } := by
  have hp : ∀ {c'}, plainS s c r = .left c' → c' = { c with st := 4 } := by
    intro c' h
    unfold plainS at h
    split at h
    · cases h
    · split at h
      · split at h <;> cases h
      · split at h
        · cases h; rfl
        · split at h
          · cases h; rfl
          · cases h
  unfold pieceS quotedS closingS escapeS at h
  split at h
  · split at h <;> cases h
  · split at h
    · split at h
      · cases h
      · exact hp h
    · split at h
      · split at h
        · exact hp h
        · cases h
      · exact hp h

set_option maxHeartbeats 8000000 in
set_option maxRecDepth 100000 in
theorem token_between (s : ByteArray) (c : Sc) (r : Int) (D g : Nat) (w0 w : World) (hD0 : D ≤ w0.heap.size) (h0 : c.st = 0) (hS : ScAt D g s c w) (hE : ∀ X, KeepG D g w0 X → SEnv X) (hW : KeepG D g w0 w) (hr : 0 ≤ r) (h92 : r = 92 → c.here.2.2 < s.size) (hi : c.here.2.2 ≤ s.size) (hf : c.from.2.2 ≤ c.here.2.2) (hs : s.size ≤ 1048576) (hm : c.text.length ≤ 8388000) (hn : c.toks.length ≤ 2097152) :
    Calls Tryz.prog 19 #[.pointer (some ⟨g, 0, none⟩), .int .i32 r] w (TokOut D g s w0 (betweenS s c r)) := by
  have hD : D ≤ w.heap.size := Nat.le_trans hD0 hW.size
  obtain ⟨st, ⟨l1, c1, i⟩, ⟨l2, c2, i2⟩, text, ⟨l3, c3, i3⟩, bh, toks⟩ := c
  simp only at h92 hi hm hf hn
  obtain ⟨X, hX⟩ : ∃ X, betweenS s ⟨st, (l1, c1, i), (l2, c2, i2), text, (l3, c3, i3), bh, toks⟩ r = X := ⟨_, rfl⟩
  rw [hX]
  have CP : Hid (∀ (V : World) (k : Nat × Nat × Nat) (st2 : Nat) (x : List UInt8) (l : List Tk), x.length ≤ 8388000 → ScAt D g s ⟨st2, (l1, c1, i), k, x, (l3, c3, i3), bh, l⟩ V → KeepG D g w0 V → Calls Tryz.prog 38 #[.pointer (some ⟨g, 0, none⟩), .int .i32 r] V (PieceOut D g s w0 (pieceS s ⟨st2, (l1, c1, i), k, x, (l3, c3, i3), bh, l⟩ r))) := Lib.hid fun V k st2 x l hx hS hb => spiece_any s _ r D g w0 V hD0 hS hE hb hr h92 hi hs hx
  have HDe := Lib.hid hD0
  have HX := Lib.hid (And.intro hi (And.intro hf (And.intro hs (And.intro hm hn))))
  clear hE hm hn hD0
  simp only at h0
  subst h0
  obtain ⟨tv, kv, hg, hDg, hR⟩ := hS
  have hR : Rows D g tv kv _ _ w := hR
  have hgl : g < w.heap.size := (Array.getElem?_eq_some_iff.1 hg).1
  have k1 : w.cell? ⟨g, 1, none⟩ = some (.int .i64 0) := by rw [Lib.cell_of_heap hg]; rfl
  have k2 : w.cell? ⟨g, 2, none⟩ = some (.int .i64 (l1 : Nat)) := by rw [Lib.cell_of_heap hg]; rfl
  have k3 : w.cell? ⟨g, 3, none⟩ = some (.int .i64 (c1 : Nat)) := by rw [Lib.cell_of_heap hg]; rfl
  have k4 : w.cell? ⟨g, 4, none⟩ = some (.int .i64 (i : Nat)) := by rw [Lib.cell_of_heap hg]; rfl
  have k5 : w.cell? ⟨g, 5, none⟩ = some (.int .i64 (l2 : Nat)) := by rw [Lib.cell_of_heap hg]; rfl
  have k6 : w.cell? ⟨g, 6, none⟩ = some (.int .i64 (c2 : Nat)) := by rw [Lib.cell_of_heap hg]; rfl
  have k7 : w.cell? ⟨g, 7, none⟩ = some (.int .i64 (i2 : Nat)) := by rw [Lib.cell_of_heap hg]; rfl
  have k8 : w.cell? ⟨g, 8, none⟩ = some (tv) := by rw [Lib.cell_of_heap hg]; rfl
  have f1 : w.frozen? ⟨g, 1, none⟩ = false := by simp [World.frozen?, hg]
  have f5 : w.frozen? ⟨g, 5, none⟩ = false := by simp [World.frozen?, hg]
  have f6 : w.frozen? ⟨g, 6, none⟩ = false := by simp [World.frozen?, hg]
  have f7 : w.frozen? ⟨g, 7, none⟩ = false := by simp [World.frozen?, hg]
  have f8 : w.frozen? ⟨g, 8, none⟩ = false := by simp [World.frozen?, hg]
  go_enter Tryz.func19, Tryz.ntmps19
  go_wp2
  refine wp_scope_far 4 fun F HQ HJ => ?_
  go_wp2
  refine wp_goto ?_
  refine HJ.out 3 0 _ _ _ (by rfl) ?_
  by_cases hb : isBlk r = true
  · skip
    have hX2 : X = .ok ⟨0, (l1, c1, i), (l1, c1, i), text, (l3, c3, i3), bh, toks⟩ := by rw [← hX]; unfold betweenS; rw [if_pos hb]
    have CB : Hid (∀ V, Calls Tryz.prog 40 #[.int .i32 r] V fun e w' => e = .returned (.bool true) ∧ V = w') := Lib.hid fun V => by have h := isBlank_any r V; rw [hb] at h; exact h
    clear hX
    go_wp2_with fail
    have hk1 : Keep (fun b => b = g) w ((((w.setCell ⟨g, 1, none⟩ (.int .i64 0)).setCell ⟨g, 5, none⟩ (.int .i64 (l1 : Nat))).setCell ⟨g, 6, none⟩ (.int .i64 (c1 : Nat))).setCell ⟨g, 7, none⟩ (.int .i64 (i : Nat))) := keep_set (g := g) (keep_set (g := g) (keep_set (g := g) (keep_set (g := g) (Keep.refl _ w))))
    have hg1 := set_f (a := (l1 : Nat)) (b := (c1 : Nat)) (c := (i : Nat)) (set_1 (z := 0) hg)
    have hR1 := hR.keepg hk1
    have hW1 := hW.trans (Rows.belowg hD hDg hk1)
    have hD1 := Nat.le_trans hD hk1.size
    clear k1 k2 k3 k4 k5 k6 k7 k8 f1 f5 f6 f7 f8 hgl hk1 hg hR hW hD
    generalize (((w.setCell ⟨g, 1, none⟩ (.int .i64 0)).setCell ⟨g, 5, none⟩ (.int .i64 (l1 : Nat))).setCell ⟨g, 6, none⟩ (.int .i64 (c1 : Nat))).setCell ⟨g, 7, none⟩ (.int .i64 (i : Nat)) = V1 at *
    have hg := hg1
    have hgl : g < V1.heap.size := (Array.getElem?_eq_some_iff.1 hg).1
    have k1 : V1.cell? ⟨g, 1, none⟩ = some (.int .i64 0) := by rw [Lib.cell_of_heap hg]; rfl
    have k2 : V1.cell? ⟨g, 2, none⟩ = some (.int .i64 (l1 : Nat)) := by rw [Lib.cell_of_heap hg]; rfl
    have k3 : V1.cell? ⟨g, 3, none⟩ = some (.int .i64 (c1 : Nat)) := by rw [Lib.cell_of_heap hg]; rfl
    have k4 : V1.cell? ⟨g, 4, none⟩ = some (.int .i64 (i : Nat)) := by rw [Lib.cell_of_heap hg]; rfl
    have k5 : V1.cell? ⟨g, 5, none⟩ = some (.int .i64 (l1 : Nat)) := by rw [Lib.cell_of_heap hg]; rfl
    have k6 : V1.cell? ⟨g, 6, none⟩ = some (.int .i64 (c1 : Nat)) := by rw [Lib.cell_of_heap hg]; rfl
    have k7 : V1.cell? ⟨g, 7, none⟩ = some (.int .i64 (i : Nat)) := by rw [Lib.cell_of_heap hg]; rfl
    have k8 : V1.cell? ⟨g, 8, none⟩ = some (tv) := by rw [Lib.cell_of_heap hg]; rfl
    have f1 : V1.frozen? ⟨g, 1, none⟩ = false := by simp [World.frozen?, hg]
    have f5 : V1.frozen? ⟨g, 5, none⟩ = false := by simp [World.frozen?, hg]
    have f6 : V1.frozen? ⟨g, 6, none⟩ = false := by simp [World.frozen?, hg]
    have f7 : V1.frozen? ⟨g, 7, none⟩ = false := by simp [World.frozen?, hg]
    have f8 : V1.frozen? ⟨g, 8, none⟩ = false := by simp [World.frozen?, hg]
    have HG := Lib.hid hg1
    have HR := Lib.hid hR1
    have HD := Lib.hid (And.intro hD1 (And.intro hDg hW1))
    clear hg hg1 hR1 hW1 hD1 hDg
    refine (CB.out _).mono ?_
    rintro e w' ⟨rfl, rfl⟩
    go_wp2
    refine HQ _ _ _ _ (by intro l h; cases h) ?_
    go_ret
    try rw [hX2]
    exact ⟨HD.out.2.2, rfl, .of HG.out HD.out.2.1 HR.out⟩
  have hb : isBlk r = false := by simpa using hb
  have CB : Hid (∀ V, Calls Tryz.prog 40 #[.int .i32 r] V fun e w' => e = .returned (.bool false) ∧ V = w') := Lib.hid fun V => by have h := isBlank_any r V; rw [hb] at h; exact h
  by_cases r35 : r = 35
  · subst r35
    have hX2 : X = .ok ⟨1, (l1, c1, i), (l1, c1, i), text, (l3, c3, i3), bh, toks⟩ := by rw [← hX]; unfold betweenS; rw [if_neg (by rw [hb]; decide)]; rw [if_pos rfl]
    clear hX
    go_wp2_with fail
    have hk1 : Keep (fun b => b = g) w ((((w.setCell ⟨g, 1, none⟩ (.int .i64 0)).setCell ⟨g, 5, none⟩ (.int .i64 (l1 : Nat))).setCell ⟨g, 6, none⟩ (.int .i64 (c1 : Nat))).setCell ⟨g, 7, none⟩ (.int .i64 (i : Nat))) := keep_set (g := g) (keep_set (g := g) (keep_set (g := g) (keep_set (g := g) (Keep.refl _ w))))
    have hg1 := set_f (a := (l1 : Nat)) (b := (c1 : Nat)) (c := (i : Nat)) (set_1 (z := 0) hg)
    have hR1 := hR.keepg hk1
    have hW1 := hW.trans (Rows.belowg hD hDg hk1)
    have hD1 := Nat.le_trans hD hk1.size
    clear k1 k2 k3 k4 k5 k6 k7 k8 f1 f5 f6 f7 f8 hgl hk1 hg hR hW hD
    generalize (((w.setCell ⟨g, 1, none⟩ (.int .i64 0)).setCell ⟨g, 5, none⟩ (.int .i64 (l1 : Nat))).setCell ⟨g, 6, none⟩ (.int .i64 (c1 : Nat))).setCell ⟨g, 7, none⟩ (.int .i64 (i : Nat)) = V1 at *
    have hg := hg1
    have hgl : g < V1.heap.size := (Array.getElem?_eq_some_iff.1 hg).1
    have k1 : V1.cell? ⟨g, 1, none⟩ = some (.int .i64 0) := by rw [Lib.cell_of_heap hg]; rfl
    have k2 : V1.cell? ⟨g, 2, none⟩ = some (.int .i64 (l1 : Nat)) := by rw [Lib.cell_of_heap hg]; rfl
    have k3 : V1.cell? ⟨g, 3, none⟩ = some (.int .i64 (c1 : Nat)) := by rw [Lib.cell_of_heap hg]; rfl
    have k4 : V1.cell? ⟨g, 4, none⟩ = some (.int .i64 (i : Nat)) := by rw [Lib.cell_of_heap hg]; rfl
    have k5 : V1.cell? ⟨g, 5, none⟩ = some (.int .i64 (l1 : Nat)) := by rw [Lib.cell_of_heap hg]; rfl
    have k6 : V1.cell? ⟨g, 6, none⟩ = some (.int .i64 (c1 : Nat)) := by rw [Lib.cell_of_heap hg]; rfl
    have k7 : V1.cell? ⟨g, 7, none⟩ = some (.int .i64 (i : Nat)) := by rw [Lib.cell_of_heap hg]; rfl
    have k8 : V1.cell? ⟨g, 8, none⟩ = some (tv) := by rw [Lib.cell_of_heap hg]; rfl
    have f1 : V1.frozen? ⟨g, 1, none⟩ = false := by simp [World.frozen?, hg]
    have f5 : V1.frozen? ⟨g, 5, none⟩ = false := by simp [World.frozen?, hg]
    have f6 : V1.frozen? ⟨g, 6, none⟩ = false := by simp [World.frozen?, hg]
    have f7 : V1.frozen? ⟨g, 7, none⟩ = false := by simp [World.frozen?, hg]
    have f8 : V1.frozen? ⟨g, 8, none⟩ = false := by simp [World.frozen?, hg]
    have HG := Lib.hid hg1
    have HR := Lib.hid hR1
    have HD := Lib.hid (And.intro hD1 (And.intro hDg hW1))
    clear hg hg1 hR1 hW1 hD1 hDg
    refine (CB.out _).mono ?_
    rintro e w' ⟨rfl, rfl⟩
    go_wp2
    refine wp_goto ?_
    refine HJ.out 2 1 _ _ _ (by rfl) ?_
    go_wp2
    refine HQ _ _ _ _ (by intro l h; cases h) ?_
    go_ret
    try rw [hX2]
    have hk := keep_set (g := g) (k := 1) (u := .int .i64 1) (Keep.refl _ V1)
    exact ⟨HD.out.2.2.trans (Rows.belowg HD.out.1 HD.out.2.1 hk), rfl, .of (set_1 (z := 1) HG.out) HD.out.2.1 (HR.out.keepg hk)⟩
  have n35 : (r == 35) = false := by simpa using r35
  by_cases hq : isSgn (encL r) = true
  · skip
    have CI : Hid (∀ V, Calls Tryz.prog 41 #[.string (Utf8.encode r)] V fun e w' => e = .returned (.bool true) ∧ V = w') := Lib.hid fun V => by have h := isSign_any (Utf8.encode r) V; rw [show isSgn (Utf8.encode r).data.toList = true from hq] at h; exact h
    have hX2 : X = .ok ⟨2, (l1, c1, i), (l1, c1, i), text, (l3, c3, i3), bh, toks⟩ := by rw [← hX]; unfold betweenS; rw [if_neg (by rw [hb]; decide)]; rw [if_neg (by first | exact r35 | decide)]; rw [if_pos hq]
    have hcz : ¬ (s.extract i i).size + (Utf8.encode r).size > 9223372036854775807 := by
      have h1 := encode_size r
      have h2 : (s.extract i i).size = 0 := by rw [ext_nil]; rfl
      omega
    have CS : Hid (∀ V tv kv, V.heap[g]? = some (.cells (scC s 2 (l1 : Nat) (c1 : Nat) (i : Nat) (l1 : Nat) (c1 : Nat) (i : Nat) tv (l3 : Nat) (c3 : Nat) (i3 : Nat) (bh : Nat) kv) 43 (0, 0)) → Calls Tryz.prog 43 #[.pointer (some ⟨g, 0, none⟩)] V fun e w' => e = .returned (.string (s.extract i i)) ∧ Below V.heap.size V w') := Lib.hid fun V tv kv h => since_any s _ _ _ _ _ _ _ _ _ i i tv kv g V h (Nat.le_refl _) hi
    clear hX
    go_wp2_with fail
    have hk1 : Keep (fun b => b = g) w ((((w.setCell ⟨g, 1, none⟩ (.int .i64 0)).setCell ⟨g, 5, none⟩ (.int .i64 (l1 : Nat))).setCell ⟨g, 6, none⟩ (.int .i64 (c1 : Nat))).setCell ⟨g, 7, none⟩ (.int .i64 (i : Nat))) := keep_set (g := g) (keep_set (g := g) (keep_set (g := g) (keep_set (g := g) (Keep.refl _ w))))
    have hg1 := set_f (a := (l1 : Nat)) (b := (c1 : Nat)) (c := (i : Nat)) (set_1 (z := 0) hg)
    have hR1 := hR.keepg hk1
    have hW1 := hW.trans (Rows.belowg hD hDg hk1)
    have hD1 := Nat.le_trans hD hk1.size
    clear k1 k2 k3 k4 k5 k6 k7 k8 f1 f5 f6 f7 f8 hgl hk1 hg hR hW hD
    generalize (((w.setCell ⟨g, 1, none⟩ (.int .i64 0)).setCell ⟨g, 5, none⟩ (.int .i64 (l1 : Nat))).setCell ⟨g, 6, none⟩ (.int .i64 (c1 : Nat))).setCell ⟨g, 7, none⟩ (.int .i64 (i : Nat)) = V1 at *
    have hg := hg1
    have hgl : g < V1.heap.size := (Array.getElem?_eq_some_iff.1 hg).1
    have k1 : V1.cell? ⟨g, 1, none⟩ = some (.int .i64 0) := by rw [Lib.cell_of_heap hg]; rfl
    have k2 : V1.cell? ⟨g, 2, none⟩ = some (.int .i64 (l1 : Nat)) := by rw [Lib.cell_of_heap hg]; rfl
    have k3 : V1.cell? ⟨g, 3, none⟩ = some (.int .i64 (c1 : Nat)) := by rw [Lib.cell_of_heap hg]; rfl
    have k4 : V1.cell? ⟨g, 4, none⟩ = some (.int .i64 (i : Nat)) := by rw [Lib.cell_of_heap hg]; rfl
    have k5 : V1.cell? ⟨g, 5, none⟩ = some (.int .i64 (l1 : Nat)) := by rw [Lib.cell_of_heap hg]; rfl
    have k6 : V1.cell? ⟨g, 6, none⟩ = some (.int .i64 (c1 : Nat)) := by rw [Lib.cell_of_heap hg]; rfl
    have k7 : V1.cell? ⟨g, 7, none⟩ = some (.int .i64 (i : Nat)) := by rw [Lib.cell_of_heap hg]; rfl
    have k8 : V1.cell? ⟨g, 8, none⟩ = some (tv) := by rw [Lib.cell_of_heap hg]; rfl
    have f1 : V1.frozen? ⟨g, 1, none⟩ = false := by simp [World.frozen?, hg]
    have f5 : V1.frozen? ⟨g, 5, none⟩ = false := by simp [World.frozen?, hg]
    have f6 : V1.frozen? ⟨g, 6, none⟩ = false := by simp [World.frozen?, hg]
    have f7 : V1.frozen? ⟨g, 7, none⟩ = false := by simp [World.frozen?, hg]
    have f8 : V1.frozen? ⟨g, 8, none⟩ = false := by simp [World.frozen?, hg]
    have HG := Lib.hid hg1
    have HR := Lib.hid hR1
    have HD := Lib.hid (And.intro hD1 (And.intro hDg hW1))
    clear hg hg1 hR1 hW1 hD1 hDg
    refine (CB.out _).mono ?_
    rintro e w' ⟨rfl, rfl⟩
    go_wp2_with fail
    refine (CI.out _).mono ?_
    rintro e w' ⟨rfl, rfl⟩
    go_wp2
    refine wp_goto ?_
    refine HJ.out 2 2 _ _ _ (by rfl) ?_
    go_wp2_with fail
    refine (CS.out _ _ _ (set_1 (z := 2) HG.out)).mono ?_
    rintro e w2 ⟨rfl, hb2⟩
    have HB2 := Lib.hid hb2
    clear hb2
    go_wp2_with fail
    refine (CI.out _).mono ?_
    rintro e w' ⟨rfl, rfl⟩
    go_wp2
    refine HQ _ _ _ _ (by intro l h; cases h) ?_
    go_ret
    try rw [hX2]
    have hk := keep_set (g := g) (k := 1) (u := .int .i64 2) (Keep.refl _ V1)
    have hz : (V1.setCell ⟨g, 1, none⟩ (.int .i64 2)).heap.size = V1.heap.size := by simp
    have hD2 : D ≤ (V1.setCell ⟨g, 1, none⟩ (.int .i64 2)).heap.size := by rw [hz]; exact HD.out.1
    exact ⟨(HD.out.2.2.trans (Rows.belowg HD.out.1 HD.out.2.1 hk)).trans (toG HB2.out), rfl, .of ((HB2.out.block g (by rw [hz]; exact hgl)).trans (set_1 (z := 2) HG.out)) HD.out.2.1 ((HR.out.keepg hk).below HB2.out)⟩
  have hq : isSgn (encL r) = false := by simpa using hq
  have CI : Hid (∀ V, Calls Tryz.prog 41 #[.string (Utf8.encode r)] V fun e w' => e = .returned (.bool false) ∧ V = w') := Lib.hid fun V => by have h := isSign_any (Utf8.encode r) V; rw [show isSgn (Utf8.encode r).data.toList = false from hq] at h; exact h
  by_cases r91 : r = 91
  · subst r91
    have hX2 : X = .ok ⟨3, (l1, c1, i), (l1, c1, i), text, (l3, c3, i3), bh, toks⟩ := by rw [← hX]; unfold betweenS; rw [if_neg (by rw [hb]; decide)]; rw [if_neg (by first | exact r35 | decide)]; rw [if_neg (by rw [hq]; decide)]; rw [if_pos rfl]
    clear hX
    go_wp2_with fail
    have hk1 : Keep (fun b => b = g) w ((((w.setCell ⟨g, 1, none⟩ (.int .i64 0)).setCell ⟨g, 5, none⟩ (.int .i64 (l1 : Nat))).setCell ⟨g, 6, none⟩ (.int .i64 (c1 : Nat))).setCell ⟨g, 7, none⟩ (.int .i64 (i : Nat))) := keep_set (g := g) (keep_set (g := g) (keep_set (g := g) (keep_set (g := g) (Keep.refl _ w))))
    have hg1 := set_f (a := (l1 : Nat)) (b := (c1 : Nat)) (c := (i : Nat)) (set_1 (z := 0) hg)
    have hR1 := hR.keepg hk1
    have hW1 := hW.trans (Rows.belowg hD hDg hk1)
    have hD1 := Nat.le_trans hD hk1.size
    clear k1 k2 k3 k4 k5 k6 k7 k8 f1 f5 f6 f7 f8 hgl hk1 hg hR hW hD
    generalize (((w.setCell ⟨g, 1, none⟩ (.int .i64 0)).setCell ⟨g, 5, none⟩ (.int .i64 (l1 : Nat))).setCell ⟨g, 6, none⟩ (.int .i64 (c1 : Nat))).setCell ⟨g, 7, none⟩ (.int .i64 (i : Nat)) = V1 at *
    have hg := hg1
    have hgl : g < V1.heap.size := (Array.getElem?_eq_some_iff.1 hg).1
    have k1 : V1.cell? ⟨g, 1, none⟩ = some (.int .i64 0) := by rw [Lib.cell_of_heap hg]; rfl
    have k2 : V1.cell? ⟨g, 2, none⟩ = some (.int .i64 (l1 : Nat)) := by rw [Lib.cell_of_heap hg]; rfl
    have k3 : V1.cell? ⟨g, 3, none⟩ = some (.int .i64 (c1 : Nat)) := by rw [Lib.cell_of_heap hg]; rfl
    have k4 : V1.cell? ⟨g, 4, none⟩ = some (.int .i64 (i : Nat)) := by rw [Lib.cell_of_heap hg]; rfl
    have k5 : V1.cell? ⟨g, 5, none⟩ = some (.int .i64 (l1 : Nat)) := by rw [Lib.cell_of_heap hg]; rfl
    have k6 : V1.cell? ⟨g, 6, none⟩ = some (.int .i64 (c1 : Nat)) := by rw [Lib.cell_of_heap hg]; rfl
    have k7 : V1.cell? ⟨g, 7, none⟩ = some (.int .i64 (i : Nat)) := by rw [Lib.cell_of_heap hg]; rfl
    have k8 : V1.cell? ⟨g, 8, none⟩ = some (tv) := by rw [Lib.cell_of_heap hg]; rfl
    have f1 : V1.frozen? ⟨g, 1, none⟩ = false := by simp [World.frozen?, hg]
    have f5 : V1.frozen? ⟨g, 5, none⟩ = false := by simp [World.frozen?, hg]
    have f6 : V1.frozen? ⟨g, 6, none⟩ = false := by simp [World.frozen?, hg]
    have f7 : V1.frozen? ⟨g, 7, none⟩ = false := by simp [World.frozen?, hg]
    have f8 : V1.frozen? ⟨g, 8, none⟩ = false := by simp [World.frozen?, hg]
    have HG := Lib.hid hg1
    have HR := Lib.hid hR1
    have HD := Lib.hid (And.intro hD1 (And.intro hDg hW1))
    clear hg hg1 hR1 hW1 hD1 hDg
    refine (CB.out _).mono ?_
    rintro e w' ⟨rfl, rfl⟩
    go_wp2_with fail
    refine (CI.out _).mono ?_
    rintro e w' ⟨rfl, rfl⟩
    go_wp2
    refine wp_goto ?_
    refine HJ.out 2 3 _ _ _ (by rfl) ?_
    go_wp2
    refine HQ _ _ _ _ (by intro l h; cases h) ?_
    go_ret
    try rw [hX2]
    have hk := keep_set (g := g) (k := 1) (u := .int .i64 3) (Keep.refl _ V1)
    exact ⟨HD.out.2.2.trans (Rows.belowg HD.out.1 HD.out.2.1 hk), rfl, .of (set_1 (z := 3) HG.out) HD.out.2.1 (HR.out.keepg hk)⟩
  have n91 : (r == 91) = false := by simpa using r91
  by_cases r93 : r = 93
  · subst r93
    have hX2 : X = .bad 25 (l1, c1, i) := by rw [← hX]; unfold betweenS; rw [if_neg (by rw [hb]; decide)]; rw [if_neg (by first | exact r35 | decide)]; rw [if_neg (by rw [hq]; decide)]; rw [if_neg (by first | exact r91 | decide)]; rw [if_pos rfl]
    have CF := Lib.hid (fun V => plFault_any (l1, c1, i) 25 V)
    unfold plV at CF
    clear hX
    go_wp2_with fail
    have hk1 : Keep (fun b => b = g) w ((((w.setCell ⟨g, 1, none⟩ (.int .i64 0)).setCell ⟨g, 5, none⟩ (.int .i64 (l1 : Nat))).setCell ⟨g, 6, none⟩ (.int .i64 (c1 : Nat))).setCell ⟨g, 7, none⟩ (.int .i64 (i : Nat))) := keep_set (g := g) (keep_set (g := g) (keep_set (g := g) (keep_set (g := g) (Keep.refl _ w))))
    have hg1 := set_f (a := (l1 : Nat)) (b := (c1 : Nat)) (c := (i : Nat)) (set_1 (z := 0) hg)
    have hR1 := hR.keepg hk1
    have hW1 := hW.trans (Rows.belowg hD hDg hk1)
    have hD1 := Nat.le_trans hD hk1.size
    clear k1 k2 k3 k4 k5 k6 k7 k8 f1 f5 f6 f7 f8 hgl hk1 hg hR hW hD
    generalize (((w.setCell ⟨g, 1, none⟩ (.int .i64 0)).setCell ⟨g, 5, none⟩ (.int .i64 (l1 : Nat))).setCell ⟨g, 6, none⟩ (.int .i64 (c1 : Nat))).setCell ⟨g, 7, none⟩ (.int .i64 (i : Nat)) = V1 at *
    have hg := hg1
    have hgl : g < V1.heap.size := (Array.getElem?_eq_some_iff.1 hg).1
    have k1 : V1.cell? ⟨g, 1, none⟩ = some (.int .i64 0) := by rw [Lib.cell_of_heap hg]; rfl
    have k2 : V1.cell? ⟨g, 2, none⟩ = some (.int .i64 (l1 : Nat)) := by rw [Lib.cell_of_heap hg]; rfl
    have k3 : V1.cell? ⟨g, 3, none⟩ = some (.int .i64 (c1 : Nat)) := by rw [Lib.cell_of_heap hg]; rfl
    have k4 : V1.cell? ⟨g, 4, none⟩ = some (.int .i64 (i : Nat)) := by rw [Lib.cell_of_heap hg]; rfl
    have k5 : V1.cell? ⟨g, 5, none⟩ = some (.int .i64 (l1 : Nat)) := by rw [Lib.cell_of_heap hg]; rfl
    have k6 : V1.cell? ⟨g, 6, none⟩ = some (.int .i64 (c1 : Nat)) := by rw [Lib.cell_of_heap hg]; rfl
    have k7 : V1.cell? ⟨g, 7, none⟩ = some (.int .i64 (i : Nat)) := by rw [Lib.cell_of_heap hg]; rfl
    have k8 : V1.cell? ⟨g, 8, none⟩ = some (tv) := by rw [Lib.cell_of_heap hg]; rfl
    have f1 : V1.frozen? ⟨g, 1, none⟩ = false := by simp [World.frozen?, hg]
    have f5 : V1.frozen? ⟨g, 5, none⟩ = false := by simp [World.frozen?, hg]
    have f6 : V1.frozen? ⟨g, 6, none⟩ = false := by simp [World.frozen?, hg]
    have f7 : V1.frozen? ⟨g, 7, none⟩ = false := by simp [World.frozen?, hg]
    have f8 : V1.frozen? ⟨g, 8, none⟩ = false := by simp [World.frozen?, hg]
    have HG := Lib.hid hg1
    have HR := Lib.hid hR1
    have HD := Lib.hid (And.intro hD1 (And.intro hDg hW1))
    clear hg hg1 hR1 hW1 hD1 hDg
    refine (CB.out _).mono ?_
    rintro e w' ⟨rfl, rfl⟩
    go_wp2_with fail
    refine (CI.out _).mono ?_
    rintro e w' ⟨rfl, rfl⟩
    go_wp2_with fail
    refine (CF.out _).mono ?_
    rintro e w2 ⟨rfl, hb2⟩
    have HB2 := Lib.hid hb2
    clear hb2
    go_wp2
    refine HQ _ _ _ _ (by intro l h; cases h) ?_
    go_ret
    try rw [hX2]
    exact ⟨HD.out.2.2.trans (toG HB2.out), rfl⟩
  have n93 : (r == 93) = false := by simpa using r93
  by_cases r42 : r = 42
  · subst r42
    have hX2 : X = .bad 4 (l1, c1, i) := by rw [← hX]; unfold betweenS; rw [if_neg (by rw [hb]; decide)]; rw [if_neg (by first | exact r35 | decide)]; rw [if_neg (by rw [hq]; decide)]; rw [if_neg (by first | exact r91 | decide)]; rw [if_neg (by first | exact r93 | decide)]; rw [if_pos rfl]
    have CF := Lib.hid (fun V => plFault_any (l1, c1, i) 4 V)
    unfold plV at CF
    clear hX
    go_wp2_with fail
    have hk1 : Keep (fun b => b = g) w ((((w.setCell ⟨g, 1, none⟩ (.int .i64 0)).setCell ⟨g, 5, none⟩ (.int .i64 (l1 : Nat))).setCell ⟨g, 6, none⟩ (.int .i64 (c1 : Nat))).setCell ⟨g, 7, none⟩ (.int .i64 (i : Nat))) := keep_set (g := g) (keep_set (g := g) (keep_set (g := g) (keep_set (g := g) (Keep.refl _ w))))
    have hg1 := set_f (a := (l1 : Nat)) (b := (c1 : Nat)) (c := (i : Nat)) (set_1 (z := 0) hg)
    have hR1 := hR.keepg hk1
    have hW1 := hW.trans (Rows.belowg hD hDg hk1)
    have hD1 := Nat.le_trans hD hk1.size
    clear k1 k2 k3 k4 k5 k6 k7 k8 f1 f5 f6 f7 f8 hgl hk1 hg hR hW hD
    generalize (((w.setCell ⟨g, 1, none⟩ (.int .i64 0)).setCell ⟨g, 5, none⟩ (.int .i64 (l1 : Nat))).setCell ⟨g, 6, none⟩ (.int .i64 (c1 : Nat))).setCell ⟨g, 7, none⟩ (.int .i64 (i : Nat)) = V1 at *
    have hg := hg1
    have hgl : g < V1.heap.size := (Array.getElem?_eq_some_iff.1 hg).1
    have k1 : V1.cell? ⟨g, 1, none⟩ = some (.int .i64 0) := by rw [Lib.cell_of_heap hg]; rfl
    have k2 : V1.cell? ⟨g, 2, none⟩ = some (.int .i64 (l1 : Nat)) := by rw [Lib.cell_of_heap hg]; rfl
    have k3 : V1.cell? ⟨g, 3, none⟩ = some (.int .i64 (c1 : Nat)) := by rw [Lib.cell_of_heap hg]; rfl
    have k4 : V1.cell? ⟨g, 4, none⟩ = some (.int .i64 (i : Nat)) := by rw [Lib.cell_of_heap hg]; rfl
    have k5 : V1.cell? ⟨g, 5, none⟩ = some (.int .i64 (l1 : Nat)) := by rw [Lib.cell_of_heap hg]; rfl
    have k6 : V1.cell? ⟨g, 6, none⟩ = some (.int .i64 (c1 : Nat)) := by rw [Lib.cell_of_heap hg]; rfl
    have k7 : V1.cell? ⟨g, 7, none⟩ = some (.int .i64 (i : Nat)) := by rw [Lib.cell_of_heap hg]; rfl
    have k8 : V1.cell? ⟨g, 8, none⟩ = some (tv) := by rw [Lib.cell_of_heap hg]; rfl
    have f1 : V1.frozen? ⟨g, 1, none⟩ = false := by simp [World.frozen?, hg]
    have f5 : V1.frozen? ⟨g, 5, none⟩ = false := by simp [World.frozen?, hg]
    have f6 : V1.frozen? ⟨g, 6, none⟩ = false := by simp [World.frozen?, hg]
    have f7 : V1.frozen? ⟨g, 7, none⟩ = false := by simp [World.frozen?, hg]
    have f8 : V1.frozen? ⟨g, 8, none⟩ = false := by simp [World.frozen?, hg]
    have HG := Lib.hid hg1
    have HR := Lib.hid hR1
    have HD := Lib.hid (And.intro hD1 (And.intro hDg hW1))
    clear hg hg1 hR1 hW1 hD1 hDg
    refine (CB.out _).mono ?_
    rintro e w' ⟨rfl, rfl⟩
    go_wp2_with fail
    refine (CI.out _).mono ?_
    rintro e w' ⟨rfl, rfl⟩
    go_wp2_with fail
    refine (CF.out _).mono ?_
    rintro e w2 ⟨rfl, hb2⟩
    have HB2 := Lib.hid hb2
    clear hb2
    go_wp2
    refine HQ _ _ _ _ (by intro l h; cases h) ?_
    go_ret
    try rw [hX2]
    exact ⟨HD.out.2.2.trans (toG HB2.out), rfl⟩
  have n42 : (r == 42) = false := by simpa using r42
  have hX2 : X = (plainS s ⟨4, (l1, c1, i), (l1, c1, i), [], (l3, c3, i3), bh, toks⟩ r).out := by rw [← hX]; unfold betweenS; rw [if_neg (by rw [hb]; decide)]; rw [if_neg (by first | exact r35 | decide)]; rw [if_neg (by rw [hq]; decide)]; rw [if_neg (by first | exact r91 | decide)]; rw [if_neg (by first | exact r93 | decide)]; rw [if_neg (by first | exact r42 | decide)]
  clear hX
  go_wp2_with fail
  have hk1 : Keep (fun b => b = g) w ((((w.setCell ⟨g, 1, none⟩ (.int .i64 0)).setCell ⟨g, 5, none⟩ (.int .i64 (l1 : Nat))).setCell ⟨g, 6, none⟩ (.int .i64 (c1 : Nat))).setCell ⟨g, 7, none⟩ (.int .i64 (i : Nat))) := keep_set (g := g) (keep_set (g := g) (keep_set (g := g) (keep_set (g := g) (Keep.refl _ w))))
  have hg1 := set_f (a := (l1 : Nat)) (b := (c1 : Nat)) (c := (i : Nat)) (set_1 (z := 0) hg)
  have hR1 := hR.keepg hk1
  have hW1 := hW.trans (Rows.belowg hD hDg hk1)
  have hD1 := Nat.le_trans hD hk1.size
  clear k1 k2 k3 k4 k5 k6 k7 k8 f1 f5 f6 f7 f8 hgl hk1 hg hR hW hD
  generalize (((w.setCell ⟨g, 1, none⟩ (.int .i64 0)).setCell ⟨g, 5, none⟩ (.int .i64 (l1 : Nat))).setCell ⟨g, 6, none⟩ (.int .i64 (c1 : Nat))).setCell ⟨g, 7, none⟩ (.int .i64 (i : Nat)) = V1 at *
  have hg := hg1
  have hgl : g < V1.heap.size := (Array.getElem?_eq_some_iff.1 hg).1
  have k1 : V1.cell? ⟨g, 1, none⟩ = some (.int .i64 0) := by rw [Lib.cell_of_heap hg]; rfl
  have k2 : V1.cell? ⟨g, 2, none⟩ = some (.int .i64 (l1 : Nat)) := by rw [Lib.cell_of_heap hg]; rfl
  have k3 : V1.cell? ⟨g, 3, none⟩ = some (.int .i64 (c1 : Nat)) := by rw [Lib.cell_of_heap hg]; rfl
  have k4 : V1.cell? ⟨g, 4, none⟩ = some (.int .i64 (i : Nat)) := by rw [Lib.cell_of_heap hg]; rfl
  have k5 : V1.cell? ⟨g, 5, none⟩ = some (.int .i64 (l1 : Nat)) := by rw [Lib.cell_of_heap hg]; rfl
  have k6 : V1.cell? ⟨g, 6, none⟩ = some (.int .i64 (c1 : Nat)) := by rw [Lib.cell_of_heap hg]; rfl
  have k7 : V1.cell? ⟨g, 7, none⟩ = some (.int .i64 (i : Nat)) := by rw [Lib.cell_of_heap hg]; rfl
  have k8 : V1.cell? ⟨g, 8, none⟩ = some (tv) := by rw [Lib.cell_of_heap hg]; rfl
  have f1 : V1.frozen? ⟨g, 1, none⟩ = false := by simp [World.frozen?, hg]
  have f5 : V1.frozen? ⟨g, 5, none⟩ = false := by simp [World.frozen?, hg]
  have f6 : V1.frozen? ⟨g, 6, none⟩ = false := by simp [World.frozen?, hg]
  have f7 : V1.frozen? ⟨g, 7, none⟩ = false := by simp [World.frozen?, hg]
  have f8 : V1.frozen? ⟨g, 8, none⟩ = false := by simp [World.frozen?, hg]
  have HG := Lib.hid hg1
  have HR := Lib.hid hR1
  have HD := Lib.hid (And.intro hD1 (And.intro hDg hW1))
  clear hg hg1 hR1 hW1 hD1 hDg
  refine (CB.out _).mono ?_
  rintro e w' ⟨rfl, rfl⟩
  go_wp2_with fail
  refine (CI.out _).mono ?_
  rintro e w' ⟨rfl, rfl⟩
  go_wp2
  refine wp_goto ?_
  refine HJ.out 2 4 _ _ _ (by rfl) ?_
  go_wp2_with fail
  have hk2 : Keep (fun b => b = g) V1 ((V1.setCell ⟨g, 1, none⟩ (.int .i64 4)).setCell ⟨g, 8, none⟩ (.slice none 0 0)) := keep_set (g := g) (keep_set (g := g) (Keep.refl _ V1))
  have hS2 : ScAt D g s ⟨4, (l1, c1, i), (l1, c1, i), [], (l3, c3, i3), bh, toks⟩ ((V1.setCell ⟨g, 1, none⟩ (.int .i64 4)).setCell ⟨g, 8, none⟩ (.slice none 0 0)) := .of (set_8 (u := .slice none 0 0) (set_1 (z := 4) HG.out)) HD.out.2.1 (HR.out.keepg hk2).nil
  refine (CP.out _ _ _ _ _ (by simp) hS2 (HD.out.2.2.trans (Rows.belowg HD.out.1 HD.out.2.1 hk2))).mono ?_
  rintro e w3 ⟨hb3, h3⟩
  have hpp : pieceS s ⟨4, (l1, c1, i), (l1, c1, i), [], (l3, c3, i3), bh, toks⟩ r = plainS s ⟨4, (l1, c1, i), (l1, c1, i), [], (l3, c3, i3), bh, toks⟩ r := by simp [pieceS]
  rw [hpp] at h3
  clear hk2 hS2 hpp
  cases hp : plainS s ⟨4, (l1, c1, i), (l1, c1, i), [], (l3, c3, i3), bh, toks⟩ r with
  | took c3 =>
    rw [hp] at h3 hX2
    obtain ⟨rfl, hS3⟩ := h3
    have HF := Lib.hid (And.intro hS3 (And.intro hb3 hX2))
    clear hS3 hb3 hX2 hp
    go_wp2
    refine HQ _ _ _ _ (by intro l h; cases h) ?_
    go_ret
    rw [HF.out.2.2]
    exact ⟨HF.out.2.1, rfl, HF.out.1⟩
  | left c3 => exact (plain_left hp hb hq r35 r91 r93 r42).elim
  | bad no p =>
    rw [hp] at h3 hX2
    subst h3
    have HF := Lib.hid (And.intro hb3 hX2)
    clear hb3 hX2 hp
    go_wp2
    refine HQ _ _ _ _ (by intro l h; cases h) ?_
    go_ret
    rw [HF.out.2]
    exact ⟨HF.out.1, rfl⟩
set_option maxHeartbeats 8000000 in
set_option maxRecDepth 100000 in
theorem token_remark (s : ByteArray) (c : Sc) (r : Int) (D g : Nat) (w0 w : World) (hD0 : D ≤ w0.heap.size) (h0 : c.st = 1) (hS : ScAt D g s c w) (hE : ∀ X, KeepG D g w0 X → SEnv X) (hW : KeepG D g w0 w) (hr : 0 ≤ r) (h92 : r = 92 → c.here.2.2 < s.size) (hi : c.here.2.2 ≤ s.size) (hf : c.from.2.2 ≤ c.here.2.2) (hs : s.size ≤ 1048576) (hm : c.text.length ≤ 8388000) (hn : c.toks.length ≤ 2097152) :
    Calls Tryz.prog 19 #[.pointer (some ⟨g, 0, none⟩), .int .i32 r] w (TokOut D g s w0 (remarkS s c r)) := by
  have hD : D ≤ w.heap.size := Nat.le_trans hD0 hW.size
  obtain ⟨st, ⟨l1, c1, i⟩, ⟨l2, c2, i2⟩, text, ⟨l3, c3, i3⟩, bh, toks⟩ := c
  simp only at h92 hi hm hf hn
  obtain ⟨X, hX⟩ : ∃ X, remarkS s ⟨st, (l1, c1, i), (l2, c2, i2), text, (l3, c3, i3), bh, toks⟩ r = X := ⟨_, rfl⟩
  rw [hX]
  have CP : Hid (∀ (V : World) (k : Nat × Nat × Nat) (st2 : Nat) (x : List UInt8) (l : List Tk), x.length ≤ 8388000 → ScAt D g s ⟨st2, (l1, c1, i), k, x, (l3, c3, i3), bh, l⟩ V → KeepG D g w0 V → Calls Tryz.prog 38 #[.pointer (some ⟨g, 0, none⟩), .int .i32 r] V (PieceOut D g s w0 (pieceS s ⟨st2, (l1, c1, i), k, x, (l3, c3, i3), bh, l⟩ r))) := Lib.hid fun V k st2 x l hx hS hb => spiece_any s _ r D g w0 V hD0 hS hE hb hr h92 hi hs hx
  have HDe := Lib.hid hD0
  have HX := Lib.hid (And.intro hi (And.intro hf (And.intro hs (And.intro hm hn))))
  clear hE hm hn hD0
  simp only at h0
  subst h0
  obtain ⟨tv, kv, hg, hDg, hR⟩ := hS
  have hR : Rows D g tv kv _ _ w := hR
  have hgl : g < w.heap.size := (Array.getElem?_eq_some_iff.1 hg).1
  have k1 : w.cell? ⟨g, 1, none⟩ = some (.int .i64 1) := by rw [Lib.cell_of_heap hg]; rfl
  have k2 : w.cell? ⟨g, 2, none⟩ = some (.int .i64 (l1 : Nat)) := by rw [Lib.cell_of_heap hg]; rfl
  have k3 : w.cell? ⟨g, 3, none⟩ = some (.int .i64 (c1 : Nat)) := by rw [Lib.cell_of_heap hg]; rfl
  have k4 : w.cell? ⟨g, 4, none⟩ = some (.int .i64 (i : Nat)) := by rw [Lib.cell_of_heap hg]; rfl
  have k5 : w.cell? ⟨g, 5, none⟩ = some (.int .i64 (l2 : Nat)) := by rw [Lib.cell_of_heap hg]; rfl
  have k6 : w.cell? ⟨g, 6, none⟩ = some (.int .i64 (c2 : Nat)) := by rw [Lib.cell_of_heap hg]; rfl
  have k7 : w.cell? ⟨g, 7, none⟩ = some (.int .i64 (i2 : Nat)) := by rw [Lib.cell_of_heap hg]; rfl
  have k8 : w.cell? ⟨g, 8, none⟩ = some (tv) := by rw [Lib.cell_of_heap hg]; rfl
  have f1 : w.frozen? ⟨g, 1, none⟩ = false := by simp [World.frozen?, hg]
  have f5 : w.frozen? ⟨g, 5, none⟩ = false := by simp [World.frozen?, hg]
  have f6 : w.frozen? ⟨g, 6, none⟩ = false := by simp [World.frozen?, hg]
  have f7 : w.frozen? ⟨g, 7, none⟩ = false := by simp [World.frozen?, hg]
  have f8 : w.frozen? ⟨g, 8, none⟩ = false := by simp [World.frozen?, hg]
  by_cases r10 : r = 10
  · subst r10
    have hX2 : betweenS s ⟨1, (l1, c1, i), (l2, c2, i2), text, (l3, c3, i3), bh, toks⟩ 10 = X := by rw [← hX]; unfold remarkS; rw [if_pos rfl]
    clear hX
    have hX := hX2
    clear hX2
    go_enter Tryz.func19, Tryz.ntmps19
    go_wp2
    refine wp_scope_far 4 fun F HQ HJ => ?_
    go_wp2
    refine wp_goto ?_
    refine HJ.out 3 1 _ _ _ (by rfl) ?_
    go_wp2
    have hk1 := keep_set (g := g) (k := 1) (u := .int .i64 1) (Keep.refl _ w)
    have hg1 := set_1 (z := 1) hg
    have hR1 := hR.keepg hk1
    have hW1 := hW.trans (Rows.belowg hD hDg hk1)
    have hD1 := Nat.le_trans hD hk1.size
    clear k1 k2 k3 k4 k5 k6 k7 k8 f1 f5 f6 f7 f8 hgl hk1 hg hR hW hD
    generalize w.setCell ⟨g, 1, none⟩ (.int .i64 1) = V at *
    have hg := hg1
    have hR := hR1
    have hW := hW1
    have hD := hD1
    clear hg1 hR1 hW1 hD1
    have hgl : g < V.heap.size := (Array.getElem?_eq_some_iff.1 hg).1
    have k1 : V.cell? ⟨g, 1, none⟩ = some (.int .i64 1) := by rw [Lib.cell_of_heap hg]; rfl
    have k2 : V.cell? ⟨g, 2, none⟩ = some (.int .i64 (l1 : Nat)) := by rw [Lib.cell_of_heap hg]; rfl
    have k3 : V.cell? ⟨g, 3, none⟩ = some (.int .i64 (c1 : Nat)) := by rw [Lib.cell_of_heap hg]; rfl
    have k4 : V.cell? ⟨g, 4, none⟩ = some (.int .i64 (i : Nat)) := by rw [Lib.cell_of_heap hg]; rfl
    have k5 : V.cell? ⟨g, 5, none⟩ = some (.int .i64 (l2 : Nat)) := by rw [Lib.cell_of_heap hg]; rfl
    have k6 : V.cell? ⟨g, 6, none⟩ = some (.int .i64 (c2 : Nat)) := by rw [Lib.cell_of_heap hg]; rfl
    have k7 : V.cell? ⟨g, 7, none⟩ = some (.int .i64 (i2 : Nat)) := by rw [Lib.cell_of_heap hg]; rfl
    have k8 : V.cell? ⟨g, 8, none⟩ = some (tv) := by rw [Lib.cell_of_heap hg]; rfl
    have f1 : V.frozen? ⟨g, 1, none⟩ = false := by simp [World.frozen?, hg]
    have f5 : V.frozen? ⟨g, 5, none⟩ = false := by simp [World.frozen?, hg]
    have f6 : V.frozen? ⟨g, 6, none⟩ = false := by simp [World.frozen?, hg]
    have f7 : V.frozen? ⟨g, 7, none⟩ = false := by simp [World.frozen?, hg]
    have f8 : V.frozen? ⟨g, 8, none⟩ = false := by simp [World.frozen?, hg]
    refine wp_goto ?_
    refine HJ.out 2 0 _ _ _ (by rfl) ?_
    have hb : isBlk 10 = true := by decide
    have hX2 : X = .ok ⟨0, (l1, c1, i), (l1, c1, i), text, (l3, c3, i3), bh, toks⟩ := by rw [← hX]; unfold betweenS; rw [if_pos hb]
    have CB : Hid (∀ V, Calls Tryz.prog 40 #[.int .i32 10] V fun e w' => e = .returned (.bool true) ∧ V = w') := Lib.hid fun V => by have h := isBlank_any 10 V; rw [hb] at h; exact h
    clear hX
    go_wp2_with fail
    have hk1 : Keep (fun b => b = g) V ((((V.setCell ⟨g, 1, none⟩ (.int .i64 0)).setCell ⟨g, 5, none⟩ (.int .i64 (l1 : Nat))).setCell ⟨g, 6, none⟩ (.int .i64 (c1 : Nat))).setCell ⟨g, 7, none⟩ (.int .i64 (i : Nat))) := keep_set (g := g) (keep_set (g := g) (keep_set (g := g) (keep_set (g := g) (Keep.refl _ V))))
    have hg1 := set_f (a := (l1 : Nat)) (b := (c1 : Nat)) (c := (i : Nat)) (set_1 (z := 0) hg)
    have hR1 := hR.keepg hk1
    have hW1 := hW.trans (Rows.belowg hD hDg hk1)
    have hD1 := Nat.le_trans hD hk1.size
    clear k1 k2 k3 k4 k5 k6 k7 k8 f1 f5 f6 f7 f8 hgl hk1 hg hR hW hD
    generalize (((V.setCell ⟨g, 1, none⟩ (.int .i64 0)).setCell ⟨g, 5, none⟩ (.int .i64 (l1 : Nat))).setCell ⟨g, 6, none⟩ (.int .i64 (c1 : Nat))).setCell ⟨g, 7, none⟩ (.int .i64 (i : Nat)) = V1 at *
    have hg := hg1
    have hgl : g < V1.heap.size := (Array.getElem?_eq_some_iff.1 hg).1
    have k1 : V1.cell? ⟨g, 1, none⟩ = some (.int .i64 0) := by rw [Lib.cell_of_heap hg]; rfl
    have k2 : V1.cell? ⟨g, 2, none⟩ = some (.int .i64 (l1 : Nat)) := by rw [Lib.cell_of_heap hg]; rfl
    have k3 : V1.cell? ⟨g, 3, none⟩ = some (.int .i64 (c1 : Nat)) := by rw [Lib.cell_of_heap hg]; rfl
    have k4 : V1.cell? ⟨g, 4, none⟩ = some (.int .i64 (i : Nat)) := by rw [Lib.cell_of_heap hg]; rfl
    have k5 : V1.cell? ⟨g, 5, none⟩ = some (.int .i64 (l1 : Nat)) := by rw [Lib.cell_of_heap hg]; rfl
    have k6 : V1.cell? ⟨g, 6, none⟩ = some (.int .i64 (c1 : Nat)) := by rw [Lib.cell_of_heap hg]; rfl
    have k7 : V1.cell? ⟨g, 7, none⟩ = some (.int .i64 (i : Nat)) := by rw [Lib.cell_of_heap hg]; rfl
    have k8 : V1.cell? ⟨g, 8, none⟩ = some (tv) := by rw [Lib.cell_of_heap hg]; rfl
    have f1 : V1.frozen? ⟨g, 1, none⟩ = false := by simp [World.frozen?, hg]
    have f5 : V1.frozen? ⟨g, 5, none⟩ = false := by simp [World.frozen?, hg]
    have f6 : V1.frozen? ⟨g, 6, none⟩ = false := by simp [World.frozen?, hg]
    have f7 : V1.frozen? ⟨g, 7, none⟩ = false := by simp [World.frozen?, hg]
    have f8 : V1.frozen? ⟨g, 8, none⟩ = false := by simp [World.frozen?, hg]
    have HG := Lib.hid hg1
    have HR := Lib.hid hR1
    have HD := Lib.hid (And.intro hD1 (And.intro hDg hW1))
    clear hg hg1 hR1 hW1 hD1 hDg
    refine (CB.out _).mono ?_
    rintro e w' ⟨rfl, rfl⟩
    go_wp2
    refine HQ _ _ _ _ (by intro l h; cases h) ?_
    go_ret
    try rw [hX2]
    exact ⟨HD.out.2.2, rfl, .of HG.out HD.out.2.1 HR.out⟩
  have n10 : (r == 10) = false := by simpa using r10
  have hX2 : X = .ok ⟨1, (l1, c1, i), (l2, c2, i2), text, (l3, c3, i3), bh, toks⟩ := by rw [← hX]; unfold remarkS; rw [if_neg r10]
  clear hX
  go_enter Tryz.func19, Tryz.ntmps19
  go_wp2
  refine wp_scope_far 4 fun F HQ HJ => ?_
  go_wp2
  refine wp_goto ?_
  refine HJ.out 3 1 _ _ _ (by rfl) ?_
  go_wp2
  refine HQ _ _ _ _ (by intro l h; cases h) ?_
  go_ret
  try rw [hX2]
  have hk := keep_set (g := g) (k := 1) (u := .int .i64 1) (Keep.refl _ w)
  exact ⟨hW.trans (Rows.belowg hD hDg hk), rfl, .of (set_1 (z := 1) hg) hDg (hR.keepg hk)⟩
set_option maxHeartbeats 8000000 in
set_option maxRecDepth 100000 in
theorem token_sign (s : ByteArray) (c : Sc) (r : Int) (D g : Nat) (w0 w : World) (hD0 : D ≤ w0.heap.size) (h0 : c.st = 2) (hS : ScAt D g s c w) (hE : ∀ X, KeepG D g w0 X → SEnv X) (hW : KeepG D g w0 w) (hr : 0 ≤ r) (h92 : r = 92 → c.here.2.2 < s.size) (hi : c.here.2.2 ≤ s.size) (hf : c.from.2.2 ≤ c.here.2.2) (hs : s.size ≤ 1048576) (hm : c.text.length ≤ 8388000) (hn : c.toks.length ≤ 2097152) :
    Calls Tryz.prog 19 #[.pointer (some ⟨g, 0, none⟩), .int .i32 r] w (TokOut D g s w0 (signS s c r)) := by
  have hD : D ≤ w.heap.size := Nat.le_trans hD0 hW.size
  obtain ⟨st, ⟨l1, c1, i⟩, ⟨l2, c2, i2⟩, text, ⟨l3, c3, i3⟩, bh, toks⟩ := c
  simp only at h92 hi hm hf hn
  obtain ⟨X, hX⟩ : ∃ X, signS s ⟨st, (l1, c1, i), (l2, c2, i2), text, (l3, c3, i3), bh, toks⟩ r = X := ⟨_, rfl⟩
  rw [hX]
  have CP : Hid (∀ (V : World) (k : Nat × Nat × Nat) (st2 : Nat) (x : List UInt8) (l : List Tk), x.length ≤ 8388000 → ScAt D g s ⟨st2, (l1, c1, i), k, x, (l3, c3, i3), bh, l⟩ V → KeepG D g w0 V → Calls Tryz.prog 38 #[.pointer (some ⟨g, 0, none⟩), .int .i32 r] V (PieceOut D g s w0 (pieceS s ⟨st2, (l1, c1, i), k, x, (l3, c3, i3), bh, l⟩ r))) := Lib.hid fun V k st2 x l hx hS hb => spiece_any s _ r D g w0 V hD0 hS hE hb hr h92 hi hs hx
  have HDe := Lib.hid hD0
  have HX := Lib.hid (And.intro hi (And.intro hf (And.intro hs (And.intro hm hn))))
  clear hE hm hn hD0
  simp only at h0
  subst h0
  obtain ⟨tv, kv, hg, hDg, hR⟩ := hS
  have hR : Rows D g tv kv _ _ w := hR
  have hgl : g < w.heap.size := (Array.getElem?_eq_some_iff.1 hg).1
  have k1 : w.cell? ⟨g, 1, none⟩ = some (.int .i64 2) := by rw [Lib.cell_of_heap hg]; rfl
  have k2 : w.cell? ⟨g, 2, none⟩ = some (.int .i64 (l1 : Nat)) := by rw [Lib.cell_of_heap hg]; rfl
  have k3 : w.cell? ⟨g, 3, none⟩ = some (.int .i64 (c1 : Nat)) := by rw [Lib.cell_of_heap hg]; rfl
  have k4 : w.cell? ⟨g, 4, none⟩ = some (.int .i64 (i : Nat)) := by rw [Lib.cell_of_heap hg]; rfl
  have k5 : w.cell? ⟨g, 5, none⟩ = some (.int .i64 (l2 : Nat)) := by rw [Lib.cell_of_heap hg]; rfl
  have k6 : w.cell? ⟨g, 6, none⟩ = some (.int .i64 (c2 : Nat)) := by rw [Lib.cell_of_heap hg]; rfl
  have k7 : w.cell? ⟨g, 7, none⟩ = some (.int .i64 (i2 : Nat)) := by rw [Lib.cell_of_heap hg]; rfl
  have k8 : w.cell? ⟨g, 8, none⟩ = some (tv) := by rw [Lib.cell_of_heap hg]; rfl
  have f1 : w.frozen? ⟨g, 1, none⟩ = false := by simp [World.frozen?, hg]
  have f5 : w.frozen? ⟨g, 5, none⟩ = false := by simp [World.frozen?, hg]
  have f6 : w.frozen? ⟨g, 6, none⟩ = false := by simp [World.frozen?, hg]
  have f7 : w.frozen? ⟨g, 7, none⟩ = false := by simp [World.frozen?, hg]
  have f8 : w.frozen? ⟨g, 8, none⟩ = false := by simp [World.frozen?, hg]
  obtain ⟨A, hA⟩ : ∃ A, s.extract i2 i = A := ⟨_, rfl⟩
  have CS : Hid (∀ V tv kv, V.heap[g]? = some (.cells (scC s 2 (l1 : Nat) (c1 : Nat) (i : Nat) (l2 : Nat) (c2 : Nat) (i2 : Nat) tv (l3 : Nat) (c3 : Nat) (i3 : Nat) (bh : Nat) kv) 43 (0, 0)) → Calls Tryz.prog 43 #[.pointer (some ⟨g, 0, none⟩)] V fun e w' => e = .returned (.string A) ∧ Below V.heap.size V w') := Lib.hid fun V tv kv h => by rw [← hA]; exact since_any s _ _ _ _ _ _ _ _ _ i i2 tv kv g V h hf hi
  have hAz : A.size ≤ 1048576 := by rw [← hA, ByteArray.size_extract]; omega
  have hcz : ¬ A.size + (Utf8.encode r).size > 9223372036854775807 := by have h1 := encode_size r; omega
  have hAl : sinceL s ⟨2, (l1, c1, i), (l2, c2, i2), text, (l3, c3, i3), bh, toks⟩ = A.data.toList := by unfold sinceL; rw [hA]
  have hL : (A ++ Utf8.encode r).data.toList = A.data.toList ++ encL r := app_list _ _
  by_cases hq2 : isSgn (A.data.toList ++ encL r) = true
  · have CI2 : Hid (∀ V, Calls Tryz.prog 41 #[.string (A ++ Utf8.encode r)] V fun e w' => e = .returned (.bool true) ∧ V = w') := Lib.hid fun V => by have h := isSign_any (A ++ Utf8.encode r) V; rw [hL, hq2] at h; exact h
    have hX2 : X = .ok ⟨2, (l1, c1, i), (l2, c2, i2), text, (l3, c3, i3), bh, toks⟩ := by rw [← hX]; unfold signS; rw [hAl, if_pos hq2]
    clear hX hq2 hL hAl hA
    go_enter Tryz.func19, Tryz.ntmps19
    go_wp2
    refine wp_scope_far 4 fun F HQ HJ => ?_
    go_wp2
    refine wp_goto ?_
    refine HJ.out 3 2 _ _ _ (by rfl) ?_
    go_wp2_with fail
    have hk1 := keep_set (g := g) (k := 1) (u := .int .i64 2) (Keep.refl _ w)
    have hg1 := set_1 (z := 2) hg
    have hR1 := hR.keepg hk1
    have hW1 := hW.trans (Rows.belowg hD hDg hk1)
    have hD1 := Nat.le_trans hD hk1.size
    clear k1 k2 k3 k4 k5 k6 k7 k8 f1 f5 f6 f7 f8 hgl hk1 hg hR hW hD
    generalize w.setCell ⟨g, 1, none⟩ (.int .i64 2) = V at *
    have hg := hg1
    have hR := hR1
    have hW := hW1
    have hD := hD1
    clear hg1 hR1 hW1 hD1
    have hgl : g < V.heap.size := (Array.getElem?_eq_some_iff.1 hg).1
    have k1 : V.cell? ⟨g, 1, none⟩ = some (.int .i64 2) := by rw [Lib.cell_of_heap hg]; rfl
    have k2 : V.cell? ⟨g, 2, none⟩ = some (.int .i64 (l1 : Nat)) := by rw [Lib.cell_of_heap hg]; rfl
    have k3 : V.cell? ⟨g, 3, none⟩ = some (.int .i64 (c1 : Nat)) := by rw [Lib.cell_of_heap hg]; rfl
    have k4 : V.cell? ⟨g, 4, none⟩ = some (.int .i64 (i : Nat)) := by rw [Lib.cell_of_heap hg]; rfl
    have k5 : V.cell? ⟨g, 5, none⟩ = some (.int .i64 (l2 : Nat)) := by rw [Lib.cell_of_heap hg]; rfl
    have k6 : V.cell? ⟨g, 6, none⟩ = some (.int .i64 (c2 : Nat)) := by rw [Lib.cell_of_heap hg]; rfl
    have k7 : V.cell? ⟨g, 7, none⟩ = some (.int .i64 (i2 : Nat)) := by rw [Lib.cell_of_heap hg]; rfl
    have k8 : V.cell? ⟨g, 8, none⟩ = some (tv) := by rw [Lib.cell_of_heap hg]; rfl
    have f1 : V.frozen? ⟨g, 1, none⟩ = false := by simp [World.frozen?, hg]
    have f5 : V.frozen? ⟨g, 5, none⟩ = false := by simp [World.frozen?, hg]
    have f6 : V.frozen? ⟨g, 6, none⟩ = false := by simp [World.frozen?, hg]
    have f7 : V.frozen? ⟨g, 7, none⟩ = false := by simp [World.frozen?, hg]
    have f8 : V.frozen? ⟨g, 8, none⟩ = false := by simp [World.frozen?, hg]
    refine (CS.out _ _ _ hg).mono ?_
    rintro e w2 ⟨rfl, hb2⟩
    have hg2 := (hb2.block g hgl).trans hg
    have hR2 := hR.below hb2
    have hW2 := hW.trans (toG hb2)
    have hD2 := Nat.le_trans hD hb2.size
    clear k1 k2 k3 k4 k5 k6 k7 k8 f1 f5 f6 f7 f8 hgl hb2 hg hR hW hD
    have hg := hg2
    have hR := hR2
    have hW := hW2
    have hD := hD2
    clear hg2 hR2 hW2 hD2
    have hgl : g < w2.heap.size := (Array.getElem?_eq_some_iff.1 hg).1
    have k1 : w2.cell? ⟨g, 1, none⟩ = some (.int .i64 2) := by rw [Lib.cell_of_heap hg]; rfl
    have k2 : w2.cell? ⟨g, 2, none⟩ = some (.int .i64 (l1 : Nat)) := by rw [Lib.cell_of_heap hg]; rfl
    have k3 : w2.cell? ⟨g, 3, none⟩ = some (.int .i64 (c1 : Nat)) := by rw [Lib.cell_of_heap hg]; rfl
    have k4 : w2.cell? ⟨g, 4, none⟩ = some (.int .i64 (i : Nat)) := by rw [Lib.cell_of_heap hg]; rfl
    have k5 : w2.cell? ⟨g, 5, none⟩ = some (.int .i64 (l2 : Nat)) := by rw [Lib.cell_of_heap hg]; rfl
    have k6 : w2.cell? ⟨g, 6, none⟩ = some (.int .i64 (c2 : Nat)) := by rw [Lib.cell_of_heap hg]; rfl
    have k7 : w2.cell? ⟨g, 7, none⟩ = some (.int .i64 (i2 : Nat)) := by rw [Lib.cell_of_heap hg]; rfl
    have k8 : w2.cell? ⟨g, 8, none⟩ = some (tv) := by rw [Lib.cell_of_heap hg]; rfl
    have f1 : w2.frozen? ⟨g, 1, none⟩ = false := by simp [World.frozen?, hg]
    have f5 : w2.frozen? ⟨g, 5, none⟩ = false := by simp [World.frozen?, hg]
    have f6 : w2.frozen? ⟨g, 6, none⟩ = false := by simp [World.frozen?, hg]
    have f7 : w2.frozen? ⟨g, 7, none⟩ = false := by simp [World.frozen?, hg]
    have f8 : w2.frozen? ⟨g, 8, none⟩ = false := by simp [World.frozen?, hg]
    go_wp2_with fail
    refine (CI2.out _).mono ?_
    rintro e w' ⟨rfl, rfl⟩
    go_wp2
    refine HQ _ _ _ _ (by intro l h; cases h) ?_
    go_ret
    try rw [hX2]
    exact ⟨hW, rfl, .of hg hDg hR⟩
  have hq2 : isSgn (A.data.toList ++ encL r) = false := by simpa using hq2
  have CI2 : Hid (∀ V, Calls Tryz.prog 41 #[.string (A ++ Utf8.encode r)] V fun e w' => e = .returned (.bool false) ∧ V = w') := Lib.hid fun V => by have h := isSign_any (A ++ Utf8.encode r) V; rw [hL, hq2] at h; exact h
  have hX2 : betweenS s ⟨2, (l1, c1, i), (l2, c2, i2), text, (l3, c3, i3), bh, toks ++ [⟨2, A.data.toList, (l2, c2, i2)⟩]⟩ r = X := by rw [← hX]; unfold signS; rw [hAl, if_neg (by rw [hq2]; decide)]; rfl
  clear hX hq2 hL hAl hA
  have hX := hX2
  clear hX2
  go_enter Tryz.func19, Tryz.ntmps19
  go_wp2
  refine wp_scope_far 4 fun F HQ HJ => ?_
  go_wp2
  refine wp_goto ?_
  refine HJ.out 3 2 _ _ _ (by rfl) ?_
  go_wp2_with fail
  have hk1 := keep_set (g := g) (k := 1) (u := .int .i64 2) (Keep.refl _ w)
  have hg1 := set_1 (z := 2) hg
  have hR1 := hR.keepg hk1
  have hW1 := hW.trans (Rows.belowg hD hDg hk1)
  have hD1 := Nat.le_trans hD hk1.size
  clear k1 k2 k3 k4 k5 k6 k7 k8 f1 f5 f6 f7 f8 hgl hk1 hg hR hW hD
  generalize w.setCell ⟨g, 1, none⟩ (.int .i64 2) = V at *
  have hg := hg1
  have hR := hR1
  have hW := hW1
  have hD := hD1
  clear hg1 hR1 hW1 hD1
  have hgl : g < V.heap.size := (Array.getElem?_eq_some_iff.1 hg).1
  have k1 : V.cell? ⟨g, 1, none⟩ = some (.int .i64 2) := by rw [Lib.cell_of_heap hg]; rfl
  have k2 : V.cell? ⟨g, 2, none⟩ = some (.int .i64 (l1 : Nat)) := by rw [Lib.cell_of_heap hg]; rfl
  have k3 : V.cell? ⟨g, 3, none⟩ = some (.int .i64 (c1 : Nat)) := by rw [Lib.cell_of_heap hg]; rfl
  have k4 : V.cell? ⟨g, 4, none⟩ = some (.int .i64 (i : Nat)) := by rw [Lib.cell_of_heap hg]; rfl
  have k5 : V.cell? ⟨g, 5, none⟩ = some (.int .i64 (l2 : Nat)) := by rw [Lib.cell_of_heap hg]; rfl
  have k6 : V.cell? ⟨g, 6, none⟩ = some (.int .i64 (c2 : Nat)) := by rw [Lib.cell_of_heap hg]; rfl
  have k7 : V.cell? ⟨g, 7, none⟩ = some (.int .i64 (i2 : Nat)) := by rw [Lib.cell_of_heap hg]; rfl
  have k8 : V.cell? ⟨g, 8, none⟩ = some (tv) := by rw [Lib.cell_of_heap hg]; rfl
  have f1 : V.frozen? ⟨g, 1, none⟩ = false := by simp [World.frozen?, hg]
  have f5 : V.frozen? ⟨g, 5, none⟩ = false := by simp [World.frozen?, hg]
  have f6 : V.frozen? ⟨g, 6, none⟩ = false := by simp [World.frozen?, hg]
  have f7 : V.frozen? ⟨g, 7, none⟩ = false := by simp [World.frozen?, hg]
  have f8 : V.frozen? ⟨g, 8, none⟩ = false := by simp [World.frozen?, hg]
  refine (CS.out _ _ _ hg).mono ?_
  rintro e w2 ⟨rfl, hb2⟩
  have hg2 := (hb2.block g hgl).trans hg
  have hR2 := hR.below hb2
  have hW2 := hW.trans (toG hb2)
  have hD2 := Nat.le_trans hD hb2.size
  clear k1 k2 k3 k4 k5 k6 k7 k8 f1 f5 f6 f7 f8 hgl hb2 hg hR hW hD
  have hg := hg2
  have hR := hR2
  have hW := hW2
  have hD := hD2
  clear hg2 hR2 hW2 hD2
  have hgl : g < w2.heap.size := (Array.getElem?_eq_some_iff.1 hg).1
  have k1 : w2.cell? ⟨g, 1, none⟩ = some (.int .i64 2) := by rw [Lib.cell_of_heap hg]; rfl
  have k2 : w2.cell? ⟨g, 2, none⟩ = some (.int .i64 (l1 : Nat)) := by rw [Lib.cell_of_heap hg]; rfl
  have k3 : w2.cell? ⟨g, 3, none⟩ = some (.int .i64 (c1 : Nat)) := by rw [Lib.cell_of_heap hg]; rfl
  have k4 : w2.cell? ⟨g, 4, none⟩ = some (.int .i64 (i : Nat)) := by rw [Lib.cell_of_heap hg]; rfl
  have k5 : w2.cell? ⟨g, 5, none⟩ = some (.int .i64 (l2 : Nat)) := by rw [Lib.cell_of_heap hg]; rfl
  have k6 : w2.cell? ⟨g, 6, none⟩ = some (.int .i64 (c2 : Nat)) := by rw [Lib.cell_of_heap hg]; rfl
  have k7 : w2.cell? ⟨g, 7, none⟩ = some (.int .i64 (i2 : Nat)) := by rw [Lib.cell_of_heap hg]; rfl
  have k8 : w2.cell? ⟨g, 8, none⟩ = some (tv) := by rw [Lib.cell_of_heap hg]; rfl
  have f1 : w2.frozen? ⟨g, 1, none⟩ = false := by simp [World.frozen?, hg]
  have f5 : w2.frozen? ⟨g, 5, none⟩ = false := by simp [World.frozen?, hg]
  have f6 : w2.frozen? ⟨g, 6, none⟩ = false := by simp [World.frozen?, hg]
  have f7 : w2.frozen? ⟨g, 7, none⟩ = false := by simp [World.frozen?, hg]
  have f8 : w2.frozen? ⟨g, 8, none⟩ = false := by simp [World.frozen?, hg]
  go_wp2_with fail
  refine (CI2.out _).mono ?_
  rintro e w' ⟨rfl, rfl⟩
  go_wp2_with fail
  refine (CS.out _ _ _ hg).mono ?_
  rintro e w3 ⟨rfl, hb2⟩
  have hg2 := (hb2.block g hgl).trans hg
  have hR2 := hR.below hb2
  have hW2 := hW.trans (toG hb2)
  have hD2 := Nat.le_trans hD hb2.size
  clear k1 k2 k3 k4 k5 k6 k7 k8 f1 f5 f6 f7 f8 hgl hb2 hg hR hW hD
  have hg := hg2
  have hR := hR2
  have hW := hW2
  have hD := hD2
  clear hg2 hR2 hW2 hD2
  have hgl : g < w3.heap.size := (Array.getElem?_eq_some_iff.1 hg).1
  have k1 : w3.cell? ⟨g, 1, none⟩ = some (.int .i64 2) := by rw [Lib.cell_of_heap hg]; rfl
  have k2 : w3.cell? ⟨g, 2, none⟩ = some (.int .i64 (l1 : Nat)) := by rw [Lib.cell_of_heap hg]; rfl
  have k3 : w3.cell? ⟨g, 3, none⟩ = some (.int .i64 (c1 : Nat)) := by rw [Lib.cell_of_heap hg]; rfl
  have k4 : w3.cell? ⟨g, 4, none⟩ = some (.int .i64 (i : Nat)) := by rw [Lib.cell_of_heap hg]; rfl
  have k5 : w3.cell? ⟨g, 5, none⟩ = some (.int .i64 (l2 : Nat)) := by rw [Lib.cell_of_heap hg]; rfl
  have k6 : w3.cell? ⟨g, 6, none⟩ = some (.int .i64 (c2 : Nat)) := by rw [Lib.cell_of_heap hg]; rfl
  have k7 : w3.cell? ⟨g, 7, none⟩ = some (.int .i64 (i2 : Nat)) := by rw [Lib.cell_of_heap hg]; rfl
  have k8 : w3.cell? ⟨g, 8, none⟩ = some (tv) := by rw [Lib.cell_of_heap hg]; rfl
  have f1 : w3.frozen? ⟨g, 1, none⟩ = false := by simp [World.frozen?, hg]
  have f5 : w3.frozen? ⟨g, 5, none⟩ = false := by simp [World.frozen?, hg]
  have f6 : w3.frozen? ⟨g, 6, none⟩ = false := by simp [World.frozen?, hg]
  have f7 : w3.frozen? ⟨g, 7, none⟩ = false := by simp [World.frozen?, hg]
  have f8 : w3.frozen? ⟨g, 8, none⟩ = false := by simp [World.frozen?, hg]
  have hS3 : ScAt D g s ⟨2, (l1, c1, i), (l2, c2, i2), text, (l3, c3, i3), bh, toks⟩ w3 := .of hg hDg hR
  have CA := Lib.hid (add_any s ⟨2, (l1, c1, i), (l2, c2, i2), text, (l3, c3, i3), bh, toks⟩ 2 A g D w0 w3 hS3 hW hD HX.out.2.2.2.2 (by omega))
  clear hS3
  go_wp2_with fail
  refine CA.out.mono ?_
  rintro e w4 ⟨rfl, hS4, hW4, hD4⟩
  clear CA
  clear k1 k2 k3 k4 k5 k6 k7 k8 f1 f5 f6 f7 f8 hgl hg hR hW hD hDg
  obtain ⟨tv, kv, hg, hDg, hR⟩ := hS4
  have hg : w4.heap[g]? = some (.cells (scC s 2 (l1 : Nat) (c1 : Nat) (i : Nat) (l2 : Nat) (c2 : Nat) (i2 : Nat) tv (l3 : Nat) (c3 : Nat) (i3 : Nat) (bh : Nat) kv) 43 (0, 0)) := hg
  have hR : Rows D g tv kv text (toks ++ [⟨2, A.data.toList, (l2, c2, i2)⟩]) w4 := hR
  have hW := hW4
  have hD := hD4
  clear hW4 hD4
  have hgl : g < w4.heap.size := (Array.getElem?_eq_some_iff.1 hg).1
  have k1 : w4.cell? ⟨g, 1, none⟩ = some (.int .i64 2) := by rw [Lib.cell_of_heap hg]; rfl
  have k2 : w4.cell? ⟨g, 2, none⟩ = some (.int .i64 (l1 : Nat)) := by rw [Lib.cell_of_heap hg]; rfl
  have k3 : w4.cell? ⟨g, 3, none⟩ = some (.int .i64 (c1 : Nat)) := by rw [Lib.cell_of_heap hg]; rfl
  have k4 : w4.cell? ⟨g, 4, none⟩ = some (.int .i64 (i : Nat)) := by rw [Lib.cell_of_heap hg]; rfl
  have k5 : w4.cell? ⟨g, 5, none⟩ = some (.int .i64 (l2 : Nat)) := by rw [Lib.cell_of_heap hg]; rfl
  have k6 : w4.cell? ⟨g, 6, none⟩ = some (.int .i64 (c2 : Nat)) := by rw [Lib.cell_of_heap hg]; rfl
  have k7 : w4.cell? ⟨g, 7, none⟩ = some (.int .i64 (i2 : Nat)) := by rw [Lib.cell_of_heap hg]; rfl
  have k8 : w4.cell? ⟨g, 8, none⟩ = some (tv) := by rw [Lib.cell_of_heap hg]; rfl
  have f1 : w4.frozen? ⟨g, 1, none⟩ = false := by simp [World.frozen?, hg]
  have f5 : w4.frozen? ⟨g, 5, none⟩ = false := by simp [World.frozen?, hg]
  have f6 : w4.frozen? ⟨g, 6, none⟩ = false := by simp [World.frozen?, hg]
  have f7 : w4.frozen? ⟨g, 7, none⟩ = false := by simp [World.frozen?, hg]
  have f8 : w4.frozen? ⟨g, 8, none⟩ = false := by simp [World.frozen?, hg]
  clear hAz hcz
  go_wp2_with fail
  refine wp_goto ?_
  refine HJ.out 2 0 _ _ _ (by rfl) ?_
  by_cases hb : isBlk r = true
  · skip
    have hX2 : X = .ok ⟨0, (l1, c1, i), (l1, c1, i), text, (l3, c3, i3), bh, toks ++ [⟨2, A.data.toList, (l2, c2, i2)⟩]⟩ := by rw [← hX]; unfold betweenS; rw [if_pos hb]
    have CB : Hid (∀ V, Calls Tryz.prog 40 #[.int .i32 r] V fun e w' => e = .returned (.bool true) ∧ V = w') := Lib.hid fun V => by have h := isBlank_any r V; rw [hb] at h; exact h
    clear hX
    go_wp2_with fail
    have hk1 : Keep (fun b => b = g) w4 ((((w4.setCell ⟨g, 1, none⟩ (.int .i64 0)).setCell ⟨g, 5, none⟩ (.int .i64 (l1 : Nat))).setCell ⟨g, 6, none⟩ (.int .i64 (c1 : Nat))).setCell ⟨g, 7, none⟩ (.int .i64 (i : Nat))) := keep_set (g := g) (keep_set (g := g) (keep_set (g := g) (keep_set (g := g) (Keep.refl _ w4))))
    have hg1 := set_f (a := (l1 : Nat)) (b := (c1 : Nat)) (c := (i : Nat)) (set_1 (z := 0) hg)
    have hR1 := hR.keepg hk1
    have hW1 := hW.trans (Rows.belowg hD hDg hk1)
    have hD1 := Nat.le_trans hD hk1.size
    clear k1 k2 k3 k4 k5 k6 k7 k8 f1 f5 f6 f7 f8 hgl hk1 hg hR hW hD
    generalize (((w4.setCell ⟨g, 1, none⟩ (.int .i64 0)).setCell ⟨g, 5, none⟩ (.int .i64 (l1 : Nat))).setCell ⟨g, 6, none⟩ (.int .i64 (c1 : Nat))).setCell ⟨g, 7, none⟩ (.int .i64 (i : Nat)) = V1 at *
    have hg := hg1
    have hgl : g < V1.heap.size := (Array.getElem?_eq_some_iff.1 hg).1
    have k1 : V1.cell? ⟨g, 1, none⟩ = some (.int .i64 0) := by rw [Lib.cell_of_heap hg]; rfl
    have k2 : V1.cell? ⟨g, 2, none⟩ = some (.int .i64 (l1 : Nat)) := by rw [Lib.cell_of_heap hg]; rfl
    have k3 : V1.cell? ⟨g, 3, none⟩ = some (.int .i64 (c1 : Nat)) := by rw [Lib.cell_of_heap hg]; rfl
    have k4 : V1.cell? ⟨g, 4, none⟩ = some (.int .i64 (i : Nat)) := by rw [Lib.cell_of_heap hg]; rfl
    have k5 : V1.cell? ⟨g, 5, none⟩ = some (.int .i64 (l1 : Nat)) := by rw [Lib.cell_of_heap hg]; rfl
    have k6 : V1.cell? ⟨g, 6, none⟩ = some (.int .i64 (c1 : Nat)) := by rw [Lib.cell_of_heap hg]; rfl
    have k7 : V1.cell? ⟨g, 7, none⟩ = some (.int .i64 (i : Nat)) := by rw [Lib.cell_of_heap hg]; rfl
    have k8 : V1.cell? ⟨g, 8, none⟩ = some (tv) := by rw [Lib.cell_of_heap hg]; rfl
    have f1 : V1.frozen? ⟨g, 1, none⟩ = false := by simp [World.frozen?, hg]
    have f5 : V1.frozen? ⟨g, 5, none⟩ = false := by simp [World.frozen?, hg]
    have f6 : V1.frozen? ⟨g, 6, none⟩ = false := by simp [World.frozen?, hg]
    have f7 : V1.frozen? ⟨g, 7, none⟩ = false := by simp [World.frozen?, hg]
    have f8 : V1.frozen? ⟨g, 8, none⟩ = false := by simp [World.frozen?, hg]
    have HG := Lib.hid hg1
    have HR := Lib.hid hR1
    have HD := Lib.hid (And.intro hD1 (And.intro hDg hW1))
    clear hg hg1 hR1 hW1 hD1 hDg
    refine (CB.out _).mono ?_
    rintro e w' ⟨rfl, rfl⟩
    go_wp2
    refine HQ _ _ _ _ (by intro l h; cases h) ?_
    go_ret
    try rw [hX2]
    exact ⟨HD.out.2.2, rfl, .of HG.out HD.out.2.1 HR.out⟩
  have hb : isBlk r = false := by simpa using hb
  have CB : Hid (∀ V, Calls Tryz.prog 40 #[.int .i32 r] V fun e w' => e = .returned (.bool false) ∧ V = w') := Lib.hid fun V => by have h := isBlank_any r V; rw [hb] at h; exact h
  by_cases r35 : r = 35
  · subst r35
    have hX2 : X = .ok ⟨1, (l1, c1, i), (l1, c1, i), text, (l3, c3, i3), bh, toks ++ [⟨2, A.data.toList, (l2, c2, i2)⟩]⟩ := by rw [← hX]; unfold betweenS; rw [if_neg (by rw [hb]; decide)]; rw [if_pos rfl]
    clear hX
    go_wp2_with fail
    have hk1 : Keep (fun b => b = g) w4 ((((w4.setCell ⟨g, 1, none⟩ (.int .i64 0)).setCell ⟨g, 5, none⟩ (.int .i64 (l1 : Nat))).setCell ⟨g, 6, none⟩ (.int .i64 (c1 : Nat))).setCell ⟨g, 7, none⟩ (.int .i64 (i : Nat))) := keep_set (g := g) (keep_set (g := g) (keep_set (g := g) (keep_set (g := g) (Keep.refl _ w4))))
    have hg1 := set_f (a := (l1 : Nat)) (b := (c1 : Nat)) (c := (i : Nat)) (set_1 (z := 0) hg)
    have hR1 := hR.keepg hk1
    have hW1 := hW.trans (Rows.belowg hD hDg hk1)
    have hD1 := Nat.le_trans hD hk1.size
    clear k1 k2 k3 k4 k5 k6 k7 k8 f1 f5 f6 f7 f8 hgl hk1 hg hR hW hD
    generalize (((w4.setCell ⟨g, 1, none⟩ (.int .i64 0)).setCell ⟨g, 5, none⟩ (.int .i64 (l1 : Nat))).setCell ⟨g, 6, none⟩ (.int .i64 (c1 : Nat))).setCell ⟨g, 7, none⟩ (.int .i64 (i : Nat)) = V1 at *
    have hg := hg1
    have hgl : g < V1.heap.size := (Array.getElem?_eq_some_iff.1 hg).1
    have k1 : V1.cell? ⟨g, 1, none⟩ = some (.int .i64 0) := by rw [Lib.cell_of_heap hg]; rfl
    have k2 : V1.cell? ⟨g, 2, none⟩ = some (.int .i64 (l1 : Nat)) := by rw [Lib.cell_of_heap hg]; rfl
    have k3 : V1.cell? ⟨g, 3, none⟩ = some (.int .i64 (c1 : Nat)) := by rw [Lib.cell_of_heap hg]; rfl
    have k4 : V1.cell? ⟨g, 4, none⟩ = some (.int .i64 (i : Nat)) := by rw [Lib.cell_of_heap hg]; rfl
    have k5 : V1.cell? ⟨g, 5, none⟩ = some (.int .i64 (l1 : Nat)) := by rw [Lib.cell_of_heap hg]; rfl
    have k6 : V1.cell? ⟨g, 6, none⟩ = some (.int .i64 (c1 : Nat)) := by rw [Lib.cell_of_heap hg]; rfl
    have k7 : V1.cell? ⟨g, 7, none⟩ = some (.int .i64 (i : Nat)) := by rw [Lib.cell_of_heap hg]; rfl
    have k8 : V1.cell? ⟨g, 8, none⟩ = some (tv) := by rw [Lib.cell_of_heap hg]; rfl
    have f1 : V1.frozen? ⟨g, 1, none⟩ = false := by simp [World.frozen?, hg]
    have f5 : V1.frozen? ⟨g, 5, none⟩ = false := by simp [World.frozen?, hg]
    have f6 : V1.frozen? ⟨g, 6, none⟩ = false := by simp [World.frozen?, hg]
    have f7 : V1.frozen? ⟨g, 7, none⟩ = false := by simp [World.frozen?, hg]
    have f8 : V1.frozen? ⟨g, 8, none⟩ = false := by simp [World.frozen?, hg]
    have HG := Lib.hid hg1
    have HR := Lib.hid hR1
    have HD := Lib.hid (And.intro hD1 (And.intro hDg hW1))
    clear hg hg1 hR1 hW1 hD1 hDg
    refine (CB.out _).mono ?_
    rintro e w' ⟨rfl, rfl⟩
    go_wp2
    refine wp_goto ?_
    refine HJ.out 1 1 _ _ _ (by rfl) ?_
    go_wp2
    refine HQ _ _ _ _ (by intro l h; cases h) ?_
    go_ret
    try rw [hX2]
    have hk := keep_set (g := g) (k := 1) (u := .int .i64 1) (Keep.refl _ V1)
    exact ⟨HD.out.2.2.trans (Rows.belowg HD.out.1 HD.out.2.1 hk), rfl, .of (set_1 (z := 1) HG.out) HD.out.2.1 (HR.out.keepg hk)⟩
  have n35 : (r == 35) = false := by simpa using r35
  by_cases hq : isSgn (encL r) = true
  · skip
    have CI : Hid (∀ V, Calls Tryz.prog 41 #[.string (Utf8.encode r)] V fun e w' => e = .returned (.bool true) ∧ V = w') := Lib.hid fun V => by have h := isSign_any (Utf8.encode r) V; rw [show isSgn (Utf8.encode r).data.toList = true from hq] at h; exact h
    have hX2 : X = .ok ⟨2, (l1, c1, i), (l1, c1, i), text, (l3, c3, i3), bh, toks ++ [⟨2, A.data.toList, (l2, c2, i2)⟩]⟩ := by rw [← hX]; unfold betweenS; rw [if_neg (by rw [hb]; decide)]; rw [if_neg (by first | exact r35 | decide)]; rw [if_pos hq]
    have hcz : ¬ (s.extract i i).size + (Utf8.encode r).size > 9223372036854775807 := by
      have h1 := encode_size r
      have h2 : (s.extract i i).size = 0 := by rw [ext_nil]; rfl
      omega
    have CS : Hid (∀ V tv kv, V.heap[g]? = some (.cells (scC s 2 (l1 : Nat) (c1 : Nat) (i : Nat) (l1 : Nat) (c1 : Nat) (i : Nat) tv (l3 : Nat) (c3 : Nat) (i3 : Nat) (bh : Nat) kv) 43 (0, 0)) → Calls Tryz.prog 43 #[.pointer (some ⟨g, 0, none⟩)] V fun e w' => e = .returned (.string (s.extract i i)) ∧ Below V.heap.size V w') := Lib.hid fun V tv kv h => since_any s _ _ _ _ _ _ _ _ _ i i tv kv g V h (Nat.le_refl _) hi
    clear hX
    go_wp2_with fail
    have hk1 : Keep (fun b => b = g) w4 ((((w4.setCell ⟨g, 1, none⟩ (.int .i64 0)).setCell ⟨g, 5, none⟩ (.int .i64 (l1 : Nat))).setCell ⟨g, 6, none⟩ (.int .i64 (c1 : Nat))).setCell ⟨g, 7, none⟩ (.int .i64 (i : Nat))) := keep_set (g := g) (keep_set (g := g) (keep_set (g := g) (keep_set (g := g) (Keep.refl _ w4))))
    have hg1 := set_f (a := (l1 : Nat)) (b := (c1 : Nat)) (c := (i : Nat)) (set_1 (z := 0) hg)
    have hR1 := hR.keepg hk1
    have hW1 := hW.trans (Rows.belowg hD hDg hk1)
    have hD1 := Nat.le_trans hD hk1.size
    clear k1 k2 k3 k4 k5 k6 k7 k8 f1 f5 f6 f7 f8 hgl hk1 hg hR hW hD
    generalize (((w4.setCell ⟨g, 1, none⟩ (.int .i64 0)).setCell ⟨g, 5, none⟩ (.int .i64 (l1 : Nat))).setCell ⟨g, 6, none⟩ (.int .i64 (c1 : Nat))).setCell ⟨g, 7, none⟩ (.int .i64 (i : Nat)) = V1 at *
    have hg := hg1
    have hgl : g < V1.heap.size := (Array.getElem?_eq_some_iff.1 hg).1
    have k1 : V1.cell? ⟨g, 1, none⟩ = some (.int .i64 0) := by rw [Lib.cell_of_heap hg]; rfl
    have k2 : V1.cell? ⟨g, 2, none⟩ = some (.int .i64 (l1 : Nat)) := by rw [Lib.cell_of_heap hg]; rfl
    have k3 : V1.cell? ⟨g, 3, none⟩ = some (.int .i64 (c1 : Nat)) := by rw [Lib.cell_of_heap hg]; rfl
    have k4 : V1.cell? ⟨g, 4, none⟩ = some (.int .i64 (i : Nat)) := by rw [Lib.cell_of_heap hg]; rfl
    have k5 : V1.cell? ⟨g, 5, none⟩ = some (.int .i64 (l1 : Nat)) := by rw [Lib.cell_of_heap hg]; rfl
    have k6 : V1.cell? ⟨g, 6, none⟩ = some (.int .i64 (c1 : Nat)) := by rw [Lib.cell_of_heap hg]; rfl
    have k7 : V1.cell? ⟨g, 7, none⟩ = some (.int .i64 (i : Nat)) := by rw [Lib.cell_of_heap hg]; rfl
    have k8 : V1.cell? ⟨g, 8, none⟩ = some (tv) := by rw [Lib.cell_of_heap hg]; rfl
    have f1 : V1.frozen? ⟨g, 1, none⟩ = false := by simp [World.frozen?, hg]
    have f5 : V1.frozen? ⟨g, 5, none⟩ = false := by simp [World.frozen?, hg]
    have f6 : V1.frozen? ⟨g, 6, none⟩ = false := by simp [World.frozen?, hg]
    have f7 : V1.frozen? ⟨g, 7, none⟩ = false := by simp [World.frozen?, hg]
    have f8 : V1.frozen? ⟨g, 8, none⟩ = false := by simp [World.frozen?, hg]
    have HG := Lib.hid hg1
    have HR := Lib.hid hR1
    have HD := Lib.hid (And.intro hD1 (And.intro hDg hW1))
    clear hg hg1 hR1 hW1 hD1 hDg
    refine (CB.out _).mono ?_
    rintro e w' ⟨rfl, rfl⟩
    go_wp2_with fail
    refine (CI.out _).mono ?_
    rintro e w' ⟨rfl, rfl⟩
    go_wp2
    refine wp_goto ?_
    refine HJ.out 1 2 _ _ _ (by rfl) ?_
    go_wp2_with fail
    refine (CS.out _ _ _ (set_1 (z := 2) HG.out)).mono ?_
    rintro e w2 ⟨rfl, hb2⟩
    have HB2 := Lib.hid hb2
    clear hb2
    go_wp2_with fail
    refine (CI.out _).mono ?_
    rintro e w' ⟨rfl, rfl⟩
    go_wp2
    refine HQ _ _ _ _ (by intro l h; cases h) ?_
    go_ret
    try rw [hX2]
    have hk := keep_set (g := g) (k := 1) (u := .int .i64 2) (Keep.refl _ V1)
    have hz : (V1.setCell ⟨g, 1, none⟩ (.int .i64 2)).heap.size = V1.heap.size := by simp
    have hD2 : D ≤ (V1.setCell ⟨g, 1, none⟩ (.int .i64 2)).heap.size := by rw [hz]; exact HD.out.1
    exact ⟨(HD.out.2.2.trans (Rows.belowg HD.out.1 HD.out.2.1 hk)).trans (toG HB2.out), rfl, .of ((HB2.out.block g (by rw [hz]; exact hgl)).trans (set_1 (z := 2) HG.out)) HD.out.2.1 ((HR.out.keepg hk).below HB2.out)⟩
  have hq : isSgn (encL r) = false := by simpa using hq
  have CI : Hid (∀ V, Calls Tryz.prog 41 #[.string (Utf8.encode r)] V fun e w' => e = .returned (.bool false) ∧ V = w') := Lib.hid fun V => by have h := isSign_any (Utf8.encode r) V; rw [show isSgn (Utf8.encode r).data.toList = false from hq] at h; exact h
  by_cases r91 : r = 91
  · subst r91
    have hX2 : X = .ok ⟨3, (l1, c1, i), (l1, c1, i), text, (l3, c3, i3), bh, toks ++ [⟨2, A.data.toList, (l2, c2, i2)⟩]⟩ := by rw [← hX]; unfold betweenS; rw [if_neg (by rw [hb]; decide)]; rw [if_neg (by first | exact r35 | decide)]; rw [if_neg (by rw [hq]; decide)]; rw [if_pos rfl]
    clear hX
    go_wp2_with fail
    have hk1 : Keep (fun b => b = g) w4 ((((w4.setCell ⟨g, 1, none⟩ (.int .i64 0)).setCell ⟨g, 5, none⟩ (.int .i64 (l1 : Nat))).setCell ⟨g, 6, none⟩ (.int .i64 (c1 : Nat))).setCell ⟨g, 7, none⟩ (.int .i64 (i : Nat))) := keep_set (g := g) (keep_set (g := g) (keep_set (g := g) (keep_set (g := g) (Keep.refl _ w4))))
    have hg1 := set_f (a := (l1 : Nat)) (b := (c1 : Nat)) (c := (i : Nat)) (set_1 (z := 0) hg)
    have hR1 := hR.keepg hk1
    have hW1 := hW.trans (Rows.belowg hD hDg hk1)
    have hD1 := Nat.le_trans hD hk1.size
    clear k1 k2 k3 k4 k5 k6 k7 k8 f1 f5 f6 f7 f8 hgl hk1 hg hR hW hD
    generalize (((w4.setCell ⟨g, 1, none⟩ (.int .i64 0)).setCell ⟨g, 5, none⟩ (.int .i64 (l1 : Nat))).setCell ⟨g, 6, none⟩ (.int .i64 (c1 : Nat))).setCell ⟨g, 7, none⟩ (.int .i64 (i : Nat)) = V1 at *
    have hg := hg1
    have hgl : g < V1.heap.size := (Array.getElem?_eq_some_iff.1 hg).1
    have k1 : V1.cell? ⟨g, 1, none⟩ = some (.int .i64 0) := by rw [Lib.cell_of_heap hg]; rfl
    have k2 : V1.cell? ⟨g, 2, none⟩ = some (.int .i64 (l1 : Nat)) := by rw [Lib.cell_of_heap hg]; rfl
    have k3 : V1.cell? ⟨g, 3, none⟩ = some (.int .i64 (c1 : Nat)) := by rw [Lib.cell_of_heap hg]; rfl
    have k4 : V1.cell? ⟨g, 4, none⟩ = some (.int .i64 (i : Nat)) := by rw [Lib.cell_of_heap hg]; rfl
    have k5 : V1.cell? ⟨g, 5, none⟩ = some (.int .i64 (l1 : Nat)) := by rw [Lib.cell_of_heap hg]; rfl
    have k6 : V1.cell? ⟨g, 6, none⟩ = some (.int .i64 (c1 : Nat)) := by rw [Lib.cell_of_heap hg]; rfl
    have k7 : V1.cell? ⟨g, 7, none⟩ = some (.int .i64 (i : Nat)) := by rw [Lib.cell_of_heap hg]; rfl
    have k8 : V1.cell? ⟨g, 8, none⟩ = some (tv) := by rw [Lib.cell_of_heap hg]; rfl
    have f1 : V1.frozen? ⟨g, 1, none⟩ = false := by simp [World.frozen?, hg]
    have f5 : V1.frozen? ⟨g, 5, none⟩ = false := by simp [World.frozen?, hg]
    have f6 : V1.frozen? ⟨g, 6, none⟩ = false := by simp [World.frozen?, hg]
    have f7 : V1.frozen? ⟨g, 7, none⟩ = false := by simp [World.frozen?, hg]
    have f8 : V1.frozen? ⟨g, 8, none⟩ = false := by simp [World.frozen?, hg]
    have HG := Lib.hid hg1
    have HR := Lib.hid hR1
    have HD := Lib.hid (And.intro hD1 (And.intro hDg hW1))
    clear hg hg1 hR1 hW1 hD1 hDg
    refine (CB.out _).mono ?_
    rintro e w' ⟨rfl, rfl⟩
    go_wp2_with fail
    refine (CI.out _).mono ?_
    rintro e w' ⟨rfl, rfl⟩
    go_wp2
    refine wp_goto ?_
    refine HJ.out 1 3 _ _ _ (by rfl) ?_
    go_wp2
    refine HQ _ _ _ _ (by intro l h; cases h) ?_
    go_ret
    try rw [hX2]
    have hk := keep_set (g := g) (k := 1) (u := .int .i64 3) (Keep.refl _ V1)
    exact ⟨HD.out.2.2.trans (Rows.belowg HD.out.1 HD.out.2.1 hk), rfl, .of (set_1 (z := 3) HG.out) HD.out.2.1 (HR.out.keepg hk)⟩
  have n91 : (r == 91) = false := by simpa using r91
  by_cases r93 : r = 93
  · subst r93
    have hX2 : X = .bad 25 (l1, c1, i) := by rw [← hX]; unfold betweenS; rw [if_neg (by rw [hb]; decide)]; rw [if_neg (by first | exact r35 | decide)]; rw [if_neg (by rw [hq]; decide)]; rw [if_neg (by first | exact r91 | decide)]; rw [if_pos rfl]
    have CF := Lib.hid (fun V => plFault_any (l1, c1, i) 25 V)
    unfold plV at CF
    clear hX
    go_wp2_with fail
    have hk1 : Keep (fun b => b = g) w4 ((((w4.setCell ⟨g, 1, none⟩ (.int .i64 0)).setCell ⟨g, 5, none⟩ (.int .i64 (l1 : Nat))).setCell ⟨g, 6, none⟩ (.int .i64 (c1 : Nat))).setCell ⟨g, 7, none⟩ (.int .i64 (i : Nat))) := keep_set (g := g) (keep_set (g := g) (keep_set (g := g) (keep_set (g := g) (Keep.refl _ w4))))
    have hg1 := set_f (a := (l1 : Nat)) (b := (c1 : Nat)) (c := (i : Nat)) (set_1 (z := 0) hg)
    have hR1 := hR.keepg hk1
    have hW1 := hW.trans (Rows.belowg hD hDg hk1)
    have hD1 := Nat.le_trans hD hk1.size
    clear k1 k2 k3 k4 k5 k6 k7 k8 f1 f5 f6 f7 f8 hgl hk1 hg hR hW hD
    generalize (((w4.setCell ⟨g, 1, none⟩ (.int .i64 0)).setCell ⟨g, 5, none⟩ (.int .i64 (l1 : Nat))).setCell ⟨g, 6, none⟩ (.int .i64 (c1 : Nat))).setCell ⟨g, 7, none⟩ (.int .i64 (i : Nat)) = V1 at *
    have hg := hg1
    have hgl : g < V1.heap.size := (Array.getElem?_eq_some_iff.1 hg).1
    have k1 : V1.cell? ⟨g, 1, none⟩ = some (.int .i64 0) := by rw [Lib.cell_of_heap hg]; rfl
    have k2 : V1.cell? ⟨g, 2, none⟩ = some (.int .i64 (l1 : Nat)) := by rw [Lib.cell_of_heap hg]; rfl
    have k3 : V1.cell? ⟨g, 3, none⟩ = some (.int .i64 (c1 : Nat)) := by rw [Lib.cell_of_heap hg]; rfl
    have k4 : V1.cell? ⟨g, 4, none⟩ = some (.int .i64 (i : Nat)) := by rw [Lib.cell_of_heap hg]; rfl
    have k5 : V1.cell? ⟨g, 5, none⟩ = some (.int .i64 (l1 : Nat)) := by rw [Lib.cell_of_heap hg]; rfl
    have k6 : V1.cell? ⟨g, 6, none⟩ = some (.int .i64 (c1 : Nat)) := by rw [Lib.cell_of_heap hg]; rfl
    have k7 : V1.cell? ⟨g, 7, none⟩ = some (.int .i64 (i : Nat)) := by rw [Lib.cell_of_heap hg]; rfl
    have k8 : V1.cell? ⟨g, 8, none⟩ = some (tv) := by rw [Lib.cell_of_heap hg]; rfl
    have f1 : V1.frozen? ⟨g, 1, none⟩ = false := by simp [World.frozen?, hg]
    have f5 : V1.frozen? ⟨g, 5, none⟩ = false := by simp [World.frozen?, hg]
    have f6 : V1.frozen? ⟨g, 6, none⟩ = false := by simp [World.frozen?, hg]
    have f7 : V1.frozen? ⟨g, 7, none⟩ = false := by simp [World.frozen?, hg]
    have f8 : V1.frozen? ⟨g, 8, none⟩ = false := by simp [World.frozen?, hg]
    have HG := Lib.hid hg1
    have HR := Lib.hid hR1
    have HD := Lib.hid (And.intro hD1 (And.intro hDg hW1))
    clear hg hg1 hR1 hW1 hD1 hDg
    refine (CB.out _).mono ?_
    rintro e w' ⟨rfl, rfl⟩
    go_wp2_with fail
    refine (CI.out _).mono ?_
    rintro e w' ⟨rfl, rfl⟩
    go_wp2_with fail
    refine (CF.out _).mono ?_
    rintro e w2 ⟨rfl, hb2⟩
    have HB2 := Lib.hid hb2
    clear hb2
    go_wp2
    refine HQ _ _ _ _ (by intro l h; cases h) ?_
    go_ret
    try rw [hX2]
    exact ⟨HD.out.2.2.trans (toG HB2.out), rfl⟩
  have n93 : (r == 93) = false := by simpa using r93
  by_cases r42 : r = 42
  · subst r42
    have hX2 : X = .bad 4 (l1, c1, i) := by rw [← hX]; unfold betweenS; rw [if_neg (by rw [hb]; decide)]; rw [if_neg (by first | exact r35 | decide)]; rw [if_neg (by rw [hq]; decide)]; rw [if_neg (by first | exact r91 | decide)]; rw [if_neg (by first | exact r93 | decide)]; rw [if_pos rfl]
    have CF := Lib.hid (fun V => plFault_any (l1, c1, i) 4 V)
    unfold plV at CF
    clear hX
    go_wp2_with fail
    have hk1 : Keep (fun b => b = g) w4 ((((w4.setCell ⟨g, 1, none⟩ (.int .i64 0)).setCell ⟨g, 5, none⟩ (.int .i64 (l1 : Nat))).setCell ⟨g, 6, none⟩ (.int .i64 (c1 : Nat))).setCell ⟨g, 7, none⟩ (.int .i64 (i : Nat))) := keep_set (g := g) (keep_set (g := g) (keep_set (g := g) (keep_set (g := g) (Keep.refl _ w4))))
    have hg1 := set_f (a := (l1 : Nat)) (b := (c1 : Nat)) (c := (i : Nat)) (set_1 (z := 0) hg)
    have hR1 := hR.keepg hk1
    have hW1 := hW.trans (Rows.belowg hD hDg hk1)
    have hD1 := Nat.le_trans hD hk1.size
    clear k1 k2 k3 k4 k5 k6 k7 k8 f1 f5 f6 f7 f8 hgl hk1 hg hR hW hD
    generalize (((w4.setCell ⟨g, 1, none⟩ (.int .i64 0)).setCell ⟨g, 5, none⟩ (.int .i64 (l1 : Nat))).setCell ⟨g, 6, none⟩ (.int .i64 (c1 : Nat))).setCell ⟨g, 7, none⟩ (.int .i64 (i : Nat)) = V1 at *
    have hg := hg1
    have hgl : g < V1.heap.size := (Array.getElem?_eq_some_iff.1 hg).1
    have k1 : V1.cell? ⟨g, 1, none⟩ = some (.int .i64 0) := by rw [Lib.cell_of_heap hg]; rfl
    have k2 : V1.cell? ⟨g, 2, none⟩ = some (.int .i64 (l1 : Nat)) := by rw [Lib.cell_of_heap hg]; rfl
    have k3 : V1.cell? ⟨g, 3, none⟩ = some (.int .i64 (c1 : Nat)) := by rw [Lib.cell_of_heap hg]; rfl
    have k4 : V1.cell? ⟨g, 4, none⟩ = some (.int .i64 (i : Nat)) := by rw [Lib.cell_of_heap hg]; rfl
    have k5 : V1.cell? ⟨g, 5, none⟩ = some (.int .i64 (l1 : Nat)) := by rw [Lib.cell_of_heap hg]; rfl
    have k6 : V1.cell? ⟨g, 6, none⟩ = some (.int .i64 (c1 : Nat)) := by rw [Lib.cell_of_heap hg]; rfl
    have k7 : V1.cell? ⟨g, 7, none⟩ = some (.int .i64 (i : Nat)) := by rw [Lib.cell_of_heap hg]; rfl
    have k8 : V1.cell? ⟨g, 8, none⟩ = some (tv) := by rw [Lib.cell_of_heap hg]; rfl
    have f1 : V1.frozen? ⟨g, 1, none⟩ = false := by simp [World.frozen?, hg]
    have f5 : V1.frozen? ⟨g, 5, none⟩ = false := by simp [World.frozen?, hg]
    have f6 : V1.frozen? ⟨g, 6, none⟩ = false := by simp [World.frozen?, hg]
    have f7 : V1.frozen? ⟨g, 7, none⟩ = false := by simp [World.frozen?, hg]
    have f8 : V1.frozen? ⟨g, 8, none⟩ = false := by simp [World.frozen?, hg]
    have HG := Lib.hid hg1
    have HR := Lib.hid hR1
    have HD := Lib.hid (And.intro hD1 (And.intro hDg hW1))
    clear hg hg1 hR1 hW1 hD1 hDg
    refine (CB.out _).mono ?_
    rintro e w' ⟨rfl, rfl⟩
    go_wp2_with fail
    refine (CI.out _).mono ?_
    rintro e w' ⟨rfl, rfl⟩
    go_wp2_with fail
    refine (CF.out _).mono ?_
    rintro e w2 ⟨rfl, hb2⟩
    have HB2 := Lib.hid hb2
    clear hb2
    go_wp2
    refine HQ _ _ _ _ (by intro l h; cases h) ?_
    go_ret
    try rw [hX2]
    exact ⟨HD.out.2.2.trans (toG HB2.out), rfl⟩
  have n42 : (r == 42) = false := by simpa using r42
  have hX2 : X = (plainS s ⟨4, (l1, c1, i), (l1, c1, i), [], (l3, c3, i3), bh, toks ++ [⟨2, A.data.toList, (l2, c2, i2)⟩]⟩ r).out := by rw [← hX]; unfold betweenS; rw [if_neg (by rw [hb]; decide)]; rw [if_neg (by first | exact r35 | decide)]; rw [if_neg (by rw [hq]; decide)]; rw [if_neg (by first | exact r91 | decide)]; rw [if_neg (by first | exact r93 | decide)]; rw [if_neg (by first | exact r42 | decide)]
  clear hX
  go_wp2_with fail
  have hk1 : Keep (fun b => b = g) w4 ((((w4.setCell ⟨g, 1, none⟩ (.int .i64 0)).setCell ⟨g, 5, none⟩ (.int .i64 (l1 : Nat))).setCell ⟨g, 6, none⟩ (.int .i64 (c1 : Nat))).setCell ⟨g, 7, none⟩ (.int .i64 (i : Nat))) := keep_set (g := g) (keep_set (g := g) (keep_set (g := g) (keep_set (g := g) (Keep.refl _ w4))))
  have hg1 := set_f (a := (l1 : Nat)) (b := (c1 : Nat)) (c := (i : Nat)) (set_1 (z := 0) hg)
  have hR1 := hR.keepg hk1
  have hW1 := hW.trans (Rows.belowg hD hDg hk1)
  have hD1 := Nat.le_trans hD hk1.size
  clear k1 k2 k3 k4 k5 k6 k7 k8 f1 f5 f6 f7 f8 hgl hk1 hg hR hW hD
  generalize (((w4.setCell ⟨g, 1, none⟩ (.int .i64 0)).setCell ⟨g, 5, none⟩ (.int .i64 (l1 : Nat))).setCell ⟨g, 6, none⟩ (.int .i64 (c1 : Nat))).setCell ⟨g, 7, none⟩ (.int .i64 (i : Nat)) = V1 at *
  have hg := hg1
  have hgl : g < V1.heap.size := (Array.getElem?_eq_some_iff.1 hg).1
  have k1 : V1.cell? ⟨g, 1, none⟩ = some (.int .i64 0) := by rw [Lib.cell_of_heap hg]; rfl
  have k2 : V1.cell? ⟨g, 2, none⟩ = some (.int .i64 (l1 : Nat)) := by rw [Lib.cell_of_heap hg]; rfl
  have k3 : V1.cell? ⟨g, 3, none⟩ = some (.int .i64 (c1 : Nat)) := by rw [Lib.cell_of_heap hg]; rfl
  have k4 : V1.cell? ⟨g, 4, none⟩ = some (.int .i64 (i : Nat)) := by rw [Lib.cell_of_heap hg]; rfl
  have k5 : V1.cell? ⟨g, 5, none⟩ = some (.int .i64 (l1 : Nat)) := by rw [Lib.cell_of_heap hg]; rfl
  have k6 : V1.cell? ⟨g, 6, none⟩ = some (.int .i64 (c1 : Nat)) := by rw [Lib.cell_of_heap hg]; rfl
  have k7 : V1.cell? ⟨g, 7, none⟩ = some (.int .i64 (i : Nat)) := by rw [Lib.cell_of_heap hg]; rfl
  have k8 : V1.cell? ⟨g, 8, none⟩ = some (tv) := by rw [Lib.cell_of_heap hg]; rfl
  have f1 : V1.frozen? ⟨g, 1, none⟩ = false := by simp [World.frozen?, hg]
  have f5 : V1.frozen? ⟨g, 5, none⟩ = false := by simp [World.frozen?, hg]
  have f6 : V1.frozen? ⟨g, 6, none⟩ = false := by simp [World.frozen?, hg]
  have f7 : V1.frozen? ⟨g, 7, none⟩ = false := by simp [World.frozen?, hg]
  have f8 : V1.frozen? ⟨g, 8, none⟩ = false := by simp [World.frozen?, hg]
  have HG := Lib.hid hg1
  have HR := Lib.hid hR1
  have HD := Lib.hid (And.intro hD1 (And.intro hDg hW1))
  clear hg hg1 hR1 hW1 hD1 hDg
  refine (CB.out _).mono ?_
  rintro e w' ⟨rfl, rfl⟩
  go_wp2_with fail
  refine (CI.out _).mono ?_
  rintro e w' ⟨rfl, rfl⟩
  go_wp2
  refine wp_goto ?_
  refine HJ.out 1 4 _ _ _ (by rfl) ?_
  go_wp2_with fail
  have hk2 : Keep (fun b => b = g) V1 ((V1.setCell ⟨g, 1, none⟩ (.int .i64 4)).setCell ⟨g, 8, none⟩ (.slice none 0 0)) := keep_set (g := g) (keep_set (g := g) (Keep.refl _ V1))
  have hS2 : ScAt D g s ⟨4, (l1, c1, i), (l1, c1, i), [], (l3, c3, i3), bh, toks ++ [⟨2, A.data.toList, (l2, c2, i2)⟩]⟩ ((V1.setCell ⟨g, 1, none⟩ (.int .i64 4)).setCell ⟨g, 8, none⟩ (.slice none 0 0)) := .of (set_8 (u := .slice none 0 0) (set_1 (z := 4) HG.out)) HD.out.2.1 (HR.out.keepg hk2).nil
  refine (CP.out _ _ _ _ _ (by simp) hS2 (HD.out.2.2.trans (Rows.belowg HD.out.1 HD.out.2.1 hk2))).mono ?_
  rintro e w3 ⟨hb3, h3⟩
  have hpp : pieceS s ⟨4, (l1, c1, i), (l1, c1, i), [], (l3, c3, i3), bh, toks ++ [⟨2, A.data.toList, (l2, c2, i2)⟩]⟩ r = plainS s ⟨4, (l1, c1, i), (l1, c1, i), [], (l3, c3, i3), bh, toks ++ [⟨2, A.data.toList, (l2, c2, i2)⟩]⟩ r := by simp [pieceS]
  rw [hpp] at h3
  clear hk2 hS2 hpp
  cases hp : plainS s ⟨4, (l1, c1, i), (l1, c1, i), [], (l3, c3, i3), bh, toks ++ [⟨2, A.data.toList, (l2, c2, i2)⟩]⟩ r with
  | took c3 =>
    rw [hp] at h3 hX2
    obtain ⟨rfl, hS3⟩ := h3
    have HF := Lib.hid (And.intro hS3 (And.intro hb3 hX2))
    clear hS3 hb3 hX2 hp
    go_wp2
    refine HQ _ _ _ _ (by intro l h; cases h) ?_
    go_ret
    rw [HF.out.2.2]
    exact ⟨HF.out.2.1, rfl, HF.out.1⟩
  | left c3 => exact (plain_left hp hb hq r35 r91 r93 r42).elim
  | bad no p =>
    rw [hp] at h3 hX2
    subst h3
    have HF := Lib.hid (And.intro hb3 hX2)
    clear hb3 hX2 hp
    go_wp2
    refine HQ _ _ _ _ (by intro l h; cases h) ?_
    go_ret
    rw [HF.out.2]
    exact ⟨HF.out.1, rfl⟩
set_option maxHeartbeats 8000000 in
set_option maxRecDepth 100000 in
theorem token_option (s : ByteArray) (c : Sc) (r : Int) (D g : Nat) (w0 w : World) (hD0 : D ≤ w0.heap.size) (h0 : c.st = 3) (ho : c.from.2.2 < c.here.2.2) (hS : ScAt D g s c w) (hE : ∀ X, KeepG D g w0 X → SEnv X) (hW : KeepG D g w0 w) (hr : 0 ≤ r) (h92 : r = 92 → c.here.2.2 < s.size) (hi : c.here.2.2 ≤ s.size) (hf : c.from.2.2 ≤ c.here.2.2) (hs : s.size ≤ 1048576) (hm : c.text.length ≤ 8388000) (hn : c.toks.length ≤ 2097152) :
    Calls Tryz.prog 19 #[.pointer (some ⟨g, 0, none⟩), .int .i32 r] w (TokOut D g s w0 (optionS s c r)) := by
  have hD : D ≤ w.heap.size := Nat.le_trans hD0 hW.size
  obtain ⟨st, ⟨l1, c1, i⟩, ⟨l2, c2, i2⟩, text, ⟨l3, c3, i3⟩, bh, toks⟩ := c
  simp only at h92 hi hm hf hn
  obtain ⟨X, hX⟩ : ∃ X, optionS s ⟨st, (l1, c1, i), (l2, c2, i2), text, (l3, c3, i3), bh, toks⟩ r = X := ⟨_, rfl⟩
  rw [hX]
  have CP : Hid (∀ (V : World) (k : Nat × Nat × Nat) (st2 : Nat) (x : List UInt8) (l : List Tk), x.length ≤ 8388000 → ScAt D g s ⟨st2, (l1, c1, i), k, x, (l3, c3, i3), bh, l⟩ V → KeepG D g w0 V → Calls Tryz.prog 38 #[.pointer (some ⟨g, 0, none⟩), .int .i32 r] V (PieceOut D g s w0 (pieceS s ⟨st2, (l1, c1, i), k, x, (l3, c3, i3), bh, l⟩ r))) := Lib.hid fun V k st2 x l hx hS hb => spiece_any s _ r D g w0 V hD0 hS hE hb hr h92 hi hs hx
  have HDe := Lib.hid hD0
  have HX := Lib.hid (And.intro hi (And.intro hf (And.intro hs (And.intro hm hn))))
  clear hE hm hn hD0
  simp only at ho
  simp only at h0
  subst h0
  obtain ⟨tv, kv, hg, hDg, hR⟩ := hS
  have hR : Rows D g tv kv _ _ w := hR
  have hgl : g < w.heap.size := (Array.getElem?_eq_some_iff.1 hg).1
  have k1 : w.cell? ⟨g, 1, none⟩ = some (.int .i64 3) := by rw [Lib.cell_of_heap hg]; rfl
  have k2 : w.cell? ⟨g, 2, none⟩ = some (.int .i64 (l1 : Nat)) := by rw [Lib.cell_of_heap hg]; rfl
  have k3 : w.cell? ⟨g, 3, none⟩ = some (.int .i64 (c1 : Nat)) := by rw [Lib.cell_of_heap hg]; rfl
  have k4 : w.cell? ⟨g, 4, none⟩ = some (.int .i64 (i : Nat)) := by rw [Lib.cell_of_heap hg]; rfl
  have k5 : w.cell? ⟨g, 5, none⟩ = some (.int .i64 (l2 : Nat)) := by rw [Lib.cell_of_heap hg]; rfl
  have k6 : w.cell? ⟨g, 6, none⟩ = some (.int .i64 (c2 : Nat)) := by rw [Lib.cell_of_heap hg]; rfl
  have k7 : w.cell? ⟨g, 7, none⟩ = some (.int .i64 (i2 : Nat)) := by rw [Lib.cell_of_heap hg]; rfl
  have k8 : w.cell? ⟨g, 8, none⟩ = some (tv) := by rw [Lib.cell_of_heap hg]; rfl
  have f1 : w.frozen? ⟨g, 1, none⟩ = false := by simp [World.frozen?, hg]
  have f5 : w.frozen? ⟨g, 5, none⟩ = false := by simp [World.frozen?, hg]
  have f6 : w.frozen? ⟨g, 6, none⟩ = false := by simp [World.frozen?, hg]
  have f7 : w.frozen? ⟨g, 7, none⟩ = false := by simp [World.frozen?, hg]
  have f8 : w.frozen? ⟨g, 8, none⟩ = false := by simp [World.frozen?, hg]
  by_cases r93 : r = 93
  case neg =>
    have n93 : (r == 93) = false := by simpa using r93
    have hX2 : X = .ok ⟨3, (l1, c1, i), (l2, c2, i2), text, (l3, c3, i3), bh, toks⟩ := by rw [← hX]; unfold optionS; rw [if_neg r93]
    clear hX
    go_enter Tryz.func19, Tryz.ntmps19
    go_wp2
    refine wp_scope_far 4 fun F HQ HJ => ?_
    go_wp2
    refine wp_goto ?_
    refine HJ.out 3 3 _ _ _ (by rfl) ?_
    go_wp2
    refine HQ _ _ _ _ (by intro l h; cases h) ?_
    go_ret
    try rw [hX2]
    have hk := keep_set (g := g) (k := 1) (u := .int .i64 3) (Keep.refl _ w)
    exact ⟨hW.trans (Rows.belowg hD hDg hk), rfl, .of (set_1 (z := 3) hg) hDg (hR.keepg hk)⟩
  subst r93
  obtain ⟨A, hA⟩ : ∃ A, s.extract i2 i = A := ⟨_, rfl⟩
  have CS : Hid (∀ V tv kv, V.heap[g]? = some (.cells (scC s 3 (l1 : Nat) (c1 : Nat) (i : Nat) (l2 : Nat) (c2 : Nat) (i2 : Nat) tv (l3 : Nat) (c3 : Nat) (i3 : Nat) (bh : Nat) kv) 43 (0, 0)) → Calls Tryz.prog 43 #[.pointer (some ⟨g, 0, none⟩)] V fun e w' => e = .returned (.string A) ∧ Below V.heap.size V w') := Lib.hid fun V tv kv h => by rw [← hA]; exact since_any s _ _ _ _ _ _ _ _ _ i i2 tv kv g V h hf hi
  have hAz : A.size = i - i2 := by rw [← hA, ByteArray.size_extract]; omega
  have hAB : A.extract 1 A.size = s.extract (i2 + 1) i := by
    rw [hAz, ← hA]
    apply ByteArray.ext
    simp only [ByteArray.data_extract, Array.extract_extract]
    congr 1 <;> omega
  obtain ⟨E, hE⟩ : ∃ E, evnV (s.extract (i2 + 1) i) = E := ⟨_, rfl⟩
  have hEz : E.length ≤ 140737488351232 := by rw [← hE]; exact evn_len _ (by rw [ByteArray.size_extract]; omega)
  have CV : Hid (∀ V, Calls Tryz.prog 44 #[.string (A.extract 1 A.size)] V fun e w' => e = .returned (.string ⟨E.toArray⟩) ∧ Below V.heap.size V w') := Lib.hid fun V => by
    have h := evened_any (A.extract 1 A.size) V (by rw [hAB, ByteArray.size_extract]; omega)
    rw [show evnV (A.extract 1 A.size) = E by rw [hAB, hE]] at h
    exact h
  have hX2 : X = .ok ⟨0, (l1, c1, i), (l2, c2, i2), text, (l3, c3, i3), bh, toks ++ [⟨3, E, (l2, c2, i2)⟩]⟩ := by rw [← hX, ← hE]; unfold optionS; rw [if_pos rfl]; rfl
  have h1A : (1 : Int) ≤ A.size := by omega
  clear hX hA hAB hE hAz
  go_enter Tryz.func19, Tryz.ntmps19
  go_wp2
  refine wp_scope_far 4 fun F HQ HJ => ?_
  go_wp2
  refine wp_goto ?_
  refine HJ.out 3 3 _ _ _ (by rfl) ?_
  go_wp2_with fail
  have hk1 := keep_set (g := g) (k := 1) (u := .int .i64 3) (Keep.refl _ w)
  have hg1 := set_1 (z := 3) hg
  have hR1 := hR.keepg hk1
  have hW1 := hW.trans (Rows.belowg hD hDg hk1)
  have hD1 := Nat.le_trans hD hk1.size
  clear k1 k2 k3 k4 k5 k6 k7 k8 f1 f5 f6 f7 f8 hgl hk1 hg hR hW hD
  generalize w.setCell ⟨g, 1, none⟩ (.int .i64 3) = V at *
  have hg := hg1
  have hR := hR1
  have hW := hW1
  have hD := hD1
  clear hg1 hR1 hW1 hD1
  have hgl : g < V.heap.size := (Array.getElem?_eq_some_iff.1 hg).1
  have k1 : V.cell? ⟨g, 1, none⟩ = some (.int .i64 3) := by rw [Lib.cell_of_heap hg]; rfl
  have k2 : V.cell? ⟨g, 2, none⟩ = some (.int .i64 (l1 : Nat)) := by rw [Lib.cell_of_heap hg]; rfl
  have k3 : V.cell? ⟨g, 3, none⟩ = some (.int .i64 (c1 : Nat)) := by rw [Lib.cell_of_heap hg]; rfl
  have k4 : V.cell? ⟨g, 4, none⟩ = some (.int .i64 (i : Nat)) := by rw [Lib.cell_of_heap hg]; rfl
  have k5 : V.cell? ⟨g, 5, none⟩ = some (.int .i64 (l2 : Nat)) := by rw [Lib.cell_of_heap hg]; rfl
  have k6 : V.cell? ⟨g, 6, none⟩ = some (.int .i64 (c2 : Nat)) := by rw [Lib.cell_of_heap hg]; rfl
  have k7 : V.cell? ⟨g, 7, none⟩ = some (.int .i64 (i2 : Nat)) := by rw [Lib.cell_of_heap hg]; rfl
  have k8 : V.cell? ⟨g, 8, none⟩ = some (tv) := by rw [Lib.cell_of_heap hg]; rfl
  have f1 : V.frozen? ⟨g, 1, none⟩ = false := by simp [World.frozen?, hg]
  have f5 : V.frozen? ⟨g, 5, none⟩ = false := by simp [World.frozen?, hg]
  have f6 : V.frozen? ⟨g, 6, none⟩ = false := by simp [World.frozen?, hg]
  have f7 : V.frozen? ⟨g, 7, none⟩ = false := by simp [World.frozen?, hg]
  have f8 : V.frozen? ⟨g, 8, none⟩ = false := by simp [World.frozen?, hg]
  refine (CS.out _ _ _ hg).mono ?_
  rintro e w2 ⟨rfl, hb2⟩
  have hg2 := (hb2.block g hgl).trans hg
  have hR2 := hR.below hb2
  have hW2 := hW.trans (toG hb2)
  have hD2 := Nat.le_trans hD hb2.size
  clear k1 k2 k3 k4 k5 k6 k7 k8 f1 f5 f6 f7 f8 hgl hb2 hg hR hW hD
  have hg := hg2
  have hR := hR2
  have hW := hW2
  have hD := hD2
  clear hg2 hR2 hW2 hD2
  have hgl : g < w2.heap.size := (Array.getElem?_eq_some_iff.1 hg).1
  have k1 : w2.cell? ⟨g, 1, none⟩ = some (.int .i64 3) := by rw [Lib.cell_of_heap hg]; rfl
  have k2 : w2.cell? ⟨g, 2, none⟩ = some (.int .i64 (l1 : Nat)) := by rw [Lib.cell_of_heap hg]; rfl
  have k3 : w2.cell? ⟨g, 3, none⟩ = some (.int .i64 (c1 : Nat)) := by rw [Lib.cell_of_heap hg]; rfl
  have k4 : w2.cell? ⟨g, 4, none⟩ = some (.int .i64 (i : Nat)) := by rw [Lib.cell_of_heap hg]; rfl
  have k5 : w2.cell? ⟨g, 5, none⟩ = some (.int .i64 (l2 : Nat)) := by rw [Lib.cell_of_heap hg]; rfl
  have k6 : w2.cell? ⟨g, 6, none⟩ = some (.int .i64 (c2 : Nat)) := by rw [Lib.cell_of_heap hg]; rfl
  have k7 : w2.cell? ⟨g, 7, none⟩ = some (.int .i64 (i2 : Nat)) := by rw [Lib.cell_of_heap hg]; rfl
  have k8 : w2.cell? ⟨g, 8, none⟩ = some (tv) := by rw [Lib.cell_of_heap hg]; rfl
  have f1 : w2.frozen? ⟨g, 1, none⟩ = false := by simp [World.frozen?, hg]
  have f5 : w2.frozen? ⟨g, 5, none⟩ = false := by simp [World.frozen?, hg]
  have f6 : w2.frozen? ⟨g, 6, none⟩ = false := by simp [World.frozen?, hg]
  have f7 : w2.frozen? ⟨g, 7, none⟩ = false := by simp [World.frozen?, hg]
  have f8 : w2.frozen? ⟨g, 8, none⟩ = false := by simp [World.frozen?, hg]
  go_wp2_with fail
  refine (CV.out _).mono ?_
  rintro e w3 ⟨rfl, hb3⟩
  have hg3 := (hb3.block g hgl).trans hg
  have hR3 := hR.below hb3
  have hW3 := hW.trans (toG hb3)
  have hD3 := Nat.le_trans hD hb3.size
  have hS3 : ScAt D g s ⟨3, (l1, c1, i), (l2, c2, i2), text, (l3, c3, i3), bh, toks⟩ w3 := .of hg3 hDg hR3
  have CA := Lib.hid (add_any s ⟨3, (l1, c1, i), (l2, c2, i2), text, (l3, c3, i3), bh, toks⟩ 3 ⟨E.toArray⟩ g D w0 w3 hS3 hW3 hD3 HX.out.2.2.2.2 (by rw [size_mk]; exact hEz))
  clear hS3 hg3 hR3 hW3 hD3 hb3
  go_wp2_with fail
  refine CA.out.mono ?_
  rintro e w4 ⟨rfl, hS4, hW4, hD4⟩
  clear CA
  clear k1 k2 k3 k4 k5 k6 k7 k8 f1 f5 f6 f7 f8 hgl hg hR hW hD hDg
  obtain ⟨tv, kv, hg, hDg, hR⟩ := hS4
  have hg : w4.heap[g]? = some (.cells (scC s 3 (l1 : Nat) (c1 : Nat) (i : Nat) (l2 : Nat) (c2 : Nat) (i2 : Nat) tv (l3 : Nat) (c3 : Nat) (i3 : Nat) (bh : Nat) kv) 43 (0, 0)) := hg
  have hR : Rows D g tv kv text (toks ++ [⟨3, E, (l2, c2, i2)⟩]) w4 := hR
  have hW := hW4
  have hD := hD4
  clear hW4 hD4
  have hgl : g < w4.heap.size := (Array.getElem?_eq_some_iff.1 hg).1
  have k1 : w4.cell? ⟨g, 1, none⟩ = some (.int .i64 3) := by rw [Lib.cell_of_heap hg]; rfl
  have k2 : w4.cell? ⟨g, 2, none⟩ = some (.int .i64 (l1 : Nat)) := by rw [Lib.cell_of_heap hg]; rfl
  have k3 : w4.cell? ⟨g, 3, none⟩ = some (.int .i64 (c1 : Nat)) := by rw [Lib.cell_of_heap hg]; rfl
  have k4 : w4.cell? ⟨g, 4, none⟩ = some (.int .i64 (i : Nat)) := by rw [Lib.cell_of_heap hg]; rfl
  have k5 : w4.cell? ⟨g, 5, none⟩ = some (.int .i64 (l2 : Nat)) := by rw [Lib.cell_of_heap hg]; rfl
  have k6 : w4.cell? ⟨g, 6, none⟩ = some (.int .i64 (c2 : Nat)) := by rw [Lib.cell_of_heap hg]; rfl
  have k7 : w4.cell? ⟨g, 7, none⟩ = some (.int .i64 (i2 : Nat)) := by rw [Lib.cell_of_heap hg]; rfl
  have k8 : w4.cell? ⟨g, 8, none⟩ = some (tv) := by rw [Lib.cell_of_heap hg]; rfl
  have f1 : w4.frozen? ⟨g, 1, none⟩ = false := by simp [World.frozen?, hg]
  have f5 : w4.frozen? ⟨g, 5, none⟩ = false := by simp [World.frozen?, hg]
  have f6 : w4.frozen? ⟨g, 6, none⟩ = false := by simp [World.frozen?, hg]
  have f7 : w4.frozen? ⟨g, 7, none⟩ = false := by simp [World.frozen?, hg]
  have f8 : w4.frozen? ⟨g, 8, none⟩ = false := by simp [World.frozen?, hg]
  go_wp2
  refine HQ _ _ _ _ (by intro l h; cases h) ?_
  go_ret
  try rw [hX2]
  have hk := keep_set (g := g) (k := 1) (u := .int .i64 0) (Keep.refl _ w4)
  exact ⟨hW.trans (Rows.belowg hD hDg hk), rfl, .of (set_1 (z := 0) hg) hDg (hR.keepg hk)⟩
set_option maxHeartbeats 8000000 in
set_option maxRecDepth 100000 in
theorem token_text (s : ByteArray) (c : Sc) (r : Int) (D g : Nat) (w0 w : World) (hD0 : D ≤ w0.heap.size) (h0 : 4 ≤ c.st) (hS : ScAt D g s c w) (hE : ∀ X, KeepG D g w0 X → SEnv X) (hW : KeepG D g w0 w) (hr : 0 ≤ r) (h92 : r = 92 → c.here.2.2 < s.size) (hi : c.here.2.2 ≤ s.size) (hf : c.from.2.2 ≤ c.here.2.2) (hs : s.size ≤ 1048576) (hm : c.text.length ≤ 8388000) (hn : c.toks.length ≤ 2097152) :
    Calls Tryz.prog 19 #[.pointer (some ⟨g, 0, none⟩), .int .i32 r] w (TokOut D g s w0 (textS s c r)) := by
  have hD : D ≤ w.heap.size := Nat.le_trans hD0 hW.size
  obtain ⟨st, ⟨l1, c1, i⟩, ⟨l2, c2, i2⟩, text, ⟨l3, c3, i3⟩, bh, toks⟩ := c
  simp only at h92 hi hm hf hn
  obtain ⟨X, hX⟩ : ∃ X, textS s ⟨st, (l1, c1, i), (l2, c2, i2), text, (l3, c3, i3), bh, toks⟩ r = X := ⟨_, rfl⟩
  rw [hX]
  have CP : Hid (∀ (V : World) (k : Nat × Nat × Nat) (st2 : Nat) (x : List UInt8) (l : List Tk), x.length ≤ 8388000 → ScAt D g s ⟨st2, (l1, c1, i), k, x, (l3, c3, i3), bh, l⟩ V → KeepG D g w0 V → Calls Tryz.prog 38 #[.pointer (some ⟨g, 0, none⟩), .int .i32 r] V (PieceOut D g s w0 (pieceS s ⟨st2, (l1, c1, i), k, x, (l3, c3, i3), bh, l⟩ r))) := Lib.hid fun V k st2 x l hx hS hb => spiece_any s _ r D g w0 V hD0 hS hE hb hr h92 hi hs hx
  have HDe := Lib.hid hD0
  have HX := Lib.hid (And.intro hi (And.intro hf (And.intro hs (And.intro hm hn))))
  clear hE hm hn hD0
  simp only at h0
  have n0 : (((st : Nat) : Int) == 0) = false := by simp; omega
  have n1 : (((st : Nat) : Int) == 1) = false := by simp; omega
  have n2 : (((st : Nat) : Int) == 2) = false := by simp; omega
  have n3 : (((st : Nat) : Int) == 3) = false := by simp; omega
  clear h0
  have hS0 := hS
  obtain ⟨tv, kv, hg, hDg, hR⟩ := hS
  have hR : Rows D g tv kv _ _ w := hR
  have hgl : g < w.heap.size := (Array.getElem?_eq_some_iff.1 hg).1
  have k1 : w.cell? ⟨g, 1, none⟩ = some (.int .i64 (st : Nat)) := by rw [Lib.cell_of_heap hg]; rfl
  have k2 : w.cell? ⟨g, 2, none⟩ = some (.int .i64 (l1 : Nat)) := by rw [Lib.cell_of_heap hg]; rfl
  have k3 : w.cell? ⟨g, 3, none⟩ = some (.int .i64 (c1 : Nat)) := by rw [Lib.cell_of_heap hg]; rfl
  have k4 : w.cell? ⟨g, 4, none⟩ = some (.int .i64 (i : Nat)) := by rw [Lib.cell_of_heap hg]; rfl
  have k5 : w.cell? ⟨g, 5, none⟩ = some (.int .i64 (l2 : Nat)) := by rw [Lib.cell_of_heap hg]; rfl
  have k6 : w.cell? ⟨g, 6, none⟩ = some (.int .i64 (c2 : Nat)) := by rw [Lib.cell_of_heap hg]; rfl
  have k7 : w.cell? ⟨g, 7, none⟩ = some (.int .i64 (i2 : Nat)) := by rw [Lib.cell_of_heap hg]; rfl
  have k8 : w.cell? ⟨g, 8, none⟩ = some (tv) := by rw [Lib.cell_of_heap hg]; rfl
  have f1 : w.frozen? ⟨g, 1, none⟩ = false := by simp [World.frozen?, hg]
  have f5 : w.frozen? ⟨g, 5, none⟩ = false := by simp [World.frozen?, hg]
  have f6 : w.frozen? ⟨g, 6, none⟩ = false := by simp [World.frozen?, hg]
  have f7 : w.frozen? ⟨g, 7, none⟩ = false := by simp [World.frozen?, hg]
  have f8 : w.frozen? ⟨g, 8, none⟩ = false := by simp [World.frozen?, hg]
  go_enter Tryz.func19, Tryz.ntmps19
  go_wp2
  refine wp_scope_far 4 fun F HQ HJ => ?_
  go_wp2
  refine wp_label ?_
  go_wp2_with fail
  refine (CP.out _ _ _ _ _ HX.out.2.2.2.1 hS0 hW).mono ?_
  rintro e w3 ⟨hb3, h3⟩
  have hX2 : X = match pieceS s ⟨st, (l1, c1, i), (l2, c2, i2), text, (l3, c3, i3), bh, toks⟩ r with
    | .took c => .ok c
    | .bad no p => .bad no p
    | .left c => betweenS s (addT c 1 c.text) r := by rw [← hX]; rfl
  have hD3 : D ≤ w3.heap.size := by have h1 := HDe.out; have h2 := hb3.size; omega
  clear hX
  cases hp : pieceS s ⟨st, (l1, c1, i), (l2, c2, i2), text, (l3, c3, i3), bh, toks⟩ r with
  | took c3 =>
    rw [hp] at h3 hX2
    obtain ⟨rfl, hS3⟩ := h3
    have HF := Lib.hid (And.intro hS3 (And.intro hb3 hX2))
    clear hS3 hb3 hX2 hp
    go_wp2
    refine HQ _ _ _ _ (by intro l h; cases h) ?_
    go_ret
    rw [HF.out.2.2]
    exact ⟨HF.out.2.1, rfl, HF.out.1⟩
  | bad no p =>
    rw [hp] at h3 hX2
    subst h3
    have HF := Lib.hid (And.intro hb3 hX2)
    clear hb3 hX2 hp
    go_wp2
    refine HQ _ _ _ _ (by intro l h; cases h) ?_
    go_ret
    rw [HF.out.2]
    exact ⟨HF.out.1, rfl⟩
  | left c3 =>
    rw [hp] at h3 hX2
    obtain ⟨rfl, hS3⟩ := h3
    have hc3 := pieceS_left hp
    subst hc3
    clear hp
    simp only at hX2 hS3
    have hX : betweenS s ⟨4, (l1, c1, i), (l2, c2, i2), text, (l3, c3, i3), bh, toks ++ [⟨1, text, (l2, c2, i2)⟩]⟩ r = X := by rw [hX2]; rfl
    clear hX2
    have hS3c := hS3
    clear k1 k2 k3 k4 k5 k6 k7 k8 f1 f5 f6 f7 f8 hgl hg hR hW hD hDg
    obtain ⟨tv, kv, hg, hDg, hR⟩ := hS3
    have hg : w3.heap[g]? = some (.cells (scC s 4 (l1 : Nat) (c1 : Nat) (i : Nat) (l2 : Nat) (c2 : Nat) (i2 : Nat) tv (l3 : Nat) (c3 : Nat) (i3 : Nat) (bh : Nat) kv) 43 (0, 0)) := hg
    have hR : Rows D g tv kv text (toks) w3 := hR
    have hW := hb3
    have hD := hD3
    clear hb3 hD3
    have hgl : g < w3.heap.size := (Array.getElem?_eq_some_iff.1 hg).1
    have k1 : w3.cell? ⟨g, 1, none⟩ = some (.int .i64 4) := by rw [Lib.cell_of_heap hg]; rfl
    have k2 : w3.cell? ⟨g, 2, none⟩ = some (.int .i64 (l1 : Nat)) := by rw [Lib.cell_of_heap hg]; rfl
    have k3 : w3.cell? ⟨g, 3, none⟩ = some (.int .i64 (c1 : Nat)) := by rw [Lib.cell_of_heap hg]; rfl
    have k4 : w3.cell? ⟨g, 4, none⟩ = some (.int .i64 (i : Nat)) := by rw [Lib.cell_of_heap hg]; rfl
    have k5 : w3.cell? ⟨g, 5, none⟩ = some (.int .i64 (l2 : Nat)) := by rw [Lib.cell_of_heap hg]; rfl
    have k6 : w3.cell? ⟨g, 6, none⟩ = some (.int .i64 (c2 : Nat)) := by rw [Lib.cell_of_heap hg]; rfl
    have k7 : w3.cell? ⟨g, 7, none⟩ = some (.int .i64 (i2 : Nat)) := by rw [Lib.cell_of_heap hg]; rfl
    have k8 : w3.cell? ⟨g, 8, none⟩ = some (tv) := by rw [Lib.cell_of_heap hg]; rfl
    have f1 : w3.frozen? ⟨g, 1, none⟩ = false := by simp [World.frozen?, hg]
    have f5 : w3.frozen? ⟨g, 5, none⟩ = false := by simp [World.frozen?, hg]
    have f6 : w3.frozen? ⟨g, 6, none⟩ = false := by simp [World.frozen?, hg]
    have f7 : w3.frozen? ⟨g, 7, none⟩ = false := by simp [World.frozen?, hg]
    have f8 : w3.frozen? ⟨g, 8, none⟩ = false := by simp [World.frozen?, hg]
    have hcv := conv_own hR.1
    have CA := Lib.hid (add_any s ⟨4, (l1, c1, i), (l2, c2, i2), text, (l3, c3, i3), bh, toks⟩ 1 ⟨text.toArray⟩ g D w0 w3 hS3c hW hD HX.out.2.2.2.2 (by rw [size_mk]; have := HX.out.2.2.2.1; omega))
    clear hS3c
    go_wp2_with fail
    refine CA.out.mono ?_
    rintro e w4 ⟨rfl, hS4, hW4, hD4⟩
    clear CA hcv
    clear k1 k2 k3 k4 k5 k6 k7 k8 f1 f5 f6 f7 f8 hgl hg hR hW hD hDg
    obtain ⟨tv, kv, hg, hDg, hR⟩ := hS4
    have hg : w4.heap[g]? = some (.cells (scC s 4 (l1 : Nat) (c1 : Nat) (i : Nat) (l2 : Nat) (c2 : Nat) (i2 : Nat) tv (l3 : Nat) (c3 : Nat) (i3 : Nat) (bh : Nat) kv) 43 (0, 0)) := hg
    have hR : Rows D g tv kv text (toks ++ [⟨1, text, (l2, c2, i2)⟩]) w4 := hR
    have hW := hW4
    have hD := hD4
    clear hW4 hD4
    have hgl : g < w4.heap.size := (Array.getElem?_eq_some_iff.1 hg).1
    have k1 : w4.cell? ⟨g, 1, none⟩ = some (.int .i64 4) := by rw [Lib.cell_of_heap hg]; rfl
    have k2 : w4.cell? ⟨g, 2, none⟩ = some (.int .i64 (l1 : Nat)) := by rw [Lib.cell_of_heap hg]; rfl
    have k3 : w4.cell? ⟨g, 3, none⟩ = some (.int .i64 (c1 : Nat)) := by rw [Lib.cell_of_heap hg]; rfl
    have k4 : w4.cell? ⟨g, 4, none⟩ = some (.int .i64 (i : Nat)) := by rw [Lib.cell_of_heap hg]; rfl
    have k5 : w4.cell? ⟨g, 5, none⟩ = some (.int .i64 (l2 : Nat)) := by rw [Lib.cell_of_heap hg]; rfl
    have k6 : w4.cell? ⟨g, 6, none⟩ = some (.int .i64 (c2 : Nat)) := by rw [Lib.cell_of_heap hg]; rfl
    have k7 : w4.cell? ⟨g, 7, none⟩ = some (.int .i64 (i2 : Nat)) := by rw [Lib.cell_of_heap hg]; rfl
    have k8 : w4.cell? ⟨g, 8, none⟩ = some (tv) := by rw [Lib.cell_of_heap hg]; rfl
    have f1 : w4.frozen? ⟨g, 1, none⟩ = false := by simp [World.frozen?, hg]
    have f5 : w4.frozen? ⟨g, 5, none⟩ = false := by simp [World.frozen?, hg]
    have f6 : w4.frozen? ⟨g, 6, none⟩ = false := by simp [World.frozen?, hg]
    have f7 : w4.frozen? ⟨g, 7, none⟩ = false := by simp [World.frozen?, hg]
    have f8 : w4.frozen? ⟨g, 8, none⟩ = false := by simp [World.frozen?, hg]
    go_wp2_with fail
    refine wp_label ?_
    by_cases hb : isBlk r = true
    · skip
      have hX2 : X = .ok ⟨0, (l1, c1, i), (l1, c1, i), text, (l3, c3, i3), bh, toks ++ [⟨1, text, (l2, c2, i2)⟩]⟩ := by rw [← hX]; unfold betweenS; rw [if_pos hb]
      have CB : Hid (∀ V, Calls Tryz.prog 40 #[.int .i32 r] V fun e w' => e = .returned (.bool true) ∧ V = w') := Lib.hid fun V => by have h := isBlank_any r V; rw [hb] at h; exact h
      clear hX
      go_wp2_with fail
      have hk1 : Keep (fun b => b = g) w4 ((((w4.setCell ⟨g, 1, none⟩ (.int .i64 0)).setCell ⟨g, 5, none⟩ (.int .i64 (l1 : Nat))).setCell ⟨g, 6, none⟩ (.int .i64 (c1 : Nat))).setCell ⟨g, 7, none⟩ (.int .i64 (i : Nat))) := keep_set (g := g) (keep_set (g := g) (keep_set (g := g) (keep_set (g := g) (Keep.refl _ w4))))
      have hg1 := set_f (a := (l1 : Nat)) (b := (c1 : Nat)) (c := (i : Nat)) (set_1 (z := 0) hg)
      have hR1 := hR.keepg hk1
      have hW1 := hW.trans (Rows.belowg hD hDg hk1)
      have hD1 := Nat.le_trans hD hk1.size
      clear k1 k2 k3 k4 k5 k6 k7 k8 f1 f5 f6 f7 f8 hgl hk1 hg hR hW hD
      generalize (((w4.setCell ⟨g, 1, none⟩ (.int .i64 0)).setCell ⟨g, 5, none⟩ (.int .i64 (l1 : Nat))).setCell ⟨g, 6, none⟩ (.int .i64 (c1 : Nat))).setCell ⟨g, 7, none⟩ (.int .i64 (i : Nat)) = V1 at *
      have hg := hg1
      have hgl : g < V1.heap.size := (Array.getElem?_eq_some_iff.1 hg).1
      have k1 : V1.cell? ⟨g, 1, none⟩ = some (.int .i64 0) := by rw [Lib.cell_of_heap hg]; rfl
      have k2 : V1.cell? ⟨g, 2, none⟩ = some (.int .i64 (l1 : Nat)) := by rw [Lib.cell_of_heap hg]; rfl
      have k3 : V1.cell? ⟨g, 3, none⟩ = some (.int .i64 (c1 : Nat)) := by rw [Lib.cell_of_heap hg]; rfl
      have k4 : V1.cell? ⟨g, 4, none⟩ = some (.int .i64 (i : Nat)) := by rw [Lib.cell_of_heap hg]; rfl
      have k5 : V1.cell? ⟨g, 5, none⟩ = some (.int .i64 (l1 : Nat)) := by rw [Lib.cell_of_heap hg]; rfl
      have k6 : V1.cell? ⟨g, 6, none⟩ = some (.int .i64 (c1 : Nat)) := by rw [Lib.cell_of_heap hg]; rfl
      have k7 : V1.cell? ⟨g, 7, none⟩ = some (.int .i64 (i : Nat)) := by rw [Lib.cell_of_heap hg]; rfl
      have k8 : V1.cell? ⟨g, 8, none⟩ = some (tv) := by rw [Lib.cell_of_heap hg]; rfl
      have f1 : V1.frozen? ⟨g, 1, none⟩ = false := by simp [World.frozen?, hg]
      have f5 : V1.frozen? ⟨g, 5, none⟩ = false := by simp [World.frozen?, hg]
      have f6 : V1.frozen? ⟨g, 6, none⟩ = false := by simp [World.frozen?, hg]
      have f7 : V1.frozen? ⟨g, 7, none⟩ = false := by simp [World.frozen?, hg]
      have f8 : V1.frozen? ⟨g, 8, none⟩ = false := by simp [World.frozen?, hg]
      have HG := Lib.hid hg1
      have HR := Lib.hid hR1
      have HD := Lib.hid (And.intro hD1 (And.intro hDg hW1))
      clear hg hg1 hR1 hW1 hD1 hDg
      refine (CB.out _).mono ?_
      rintro e w' ⟨rfl, rfl⟩
      go_wp2
      refine HQ _ _ _ _ (by intro l h; cases h) ?_
      go_ret
      try rw [hX2]
      exact ⟨HD.out.2.2, rfl, .of HG.out HD.out.2.1 HR.out⟩
    have hb : isBlk r = false := by simpa using hb
    have CB : Hid (∀ V, Calls Tryz.prog 40 #[.int .i32 r] V fun e w' => e = .returned (.bool false) ∧ V = w') := Lib.hid fun V => by have h := isBlank_any r V; rw [hb] at h; exact h
    by_cases r35 : r = 35
    · subst r35
      have hX2 : X = .ok ⟨1, (l1, c1, i), (l1, c1, i), text, (l3, c3, i3), bh, toks ++ [⟨1, text, (l2, c2, i2)⟩]⟩ := by rw [← hX]; unfold betweenS; rw [if_neg (by rw [hb]; decide)]; rw [if_pos rfl]
      clear hX
      go_wp2_with fail
      have hk1 : Keep (fun b => b = g) w4 ((((w4.setCell ⟨g, 1, none⟩ (.int .i64 0)).setCell ⟨g, 5, none⟩ (.int .i64 (l1 : Nat))).setCell ⟨g, 6, none⟩ (.int .i64 (c1 : Nat))).setCell ⟨g, 7, none⟩ (.int .i64 (i : Nat))) := keep_set (g := g) (keep_set (g := g) (keep_set (g := g) (keep_set (g := g) (Keep.refl _ w4))))
      have hg1 := set_f (a := (l1 : Nat)) (b := (c1 : Nat)) (c := (i : Nat)) (set_1 (z := 0) hg)
      have hR1 := hR.keepg hk1
      have hW1 := hW.trans (Rows.belowg hD hDg hk1)
      have hD1 := Nat.le_trans hD hk1.size
      clear k1 k2 k3 k4 k5 k6 k7 k8 f1 f5 f6 f7 f8 hgl hk1 hg hR hW hD
      generalize (((w4.setCell ⟨g, 1, none⟩ (.int .i64 0)).setCell ⟨g, 5, none⟩ (.int .i64 (l1 : Nat))).setCell ⟨g, 6, none⟩ (.int .i64 (c1 : Nat))).setCell ⟨g, 7, none⟩ (.int .i64 (i : Nat)) = V1 at *
      have hg := hg1
      have hgl : g < V1.heap.size := (Array.getElem?_eq_some_iff.1 hg).1
      have k1 : V1.cell? ⟨g, 1, none⟩ = some (.int .i64 0) := by rw [Lib.cell_of_heap hg]; rfl
      have k2 : V1.cell? ⟨g, 2, none⟩ = some (.int .i64 (l1 : Nat)) := by rw [Lib.cell_of_heap hg]; rfl
      have k3 : V1.cell? ⟨g, 3, none⟩ = some (.int .i64 (c1 : Nat)) := by rw [Lib.cell_of_heap hg]; rfl
      have k4 : V1.cell? ⟨g, 4, none⟩ = some (.int .i64 (i : Nat)) := by rw [Lib.cell_of_heap hg]; rfl
      have k5 : V1.cell? ⟨g, 5, none⟩ = some (.int .i64 (l1 : Nat)) := by rw [Lib.cell_of_heap hg]; rfl
      have k6 : V1.cell? ⟨g, 6, none⟩ = some (.int .i64 (c1 : Nat)) := by rw [Lib.cell_of_heap hg]; rfl
      have k7 : V1.cell? ⟨g, 7, none⟩ = some (.int .i64 (i : Nat)) := by rw [Lib.cell_of_heap hg]; rfl
      have k8 : V1.cell? ⟨g, 8, none⟩ = some (tv) := by rw [Lib.cell_of_heap hg]; rfl
      have f1 : V1.frozen? ⟨g, 1, none⟩ = false := by simp [World.frozen?, hg]
      have f5 : V1.frozen? ⟨g, 5, none⟩ = false := by simp [World.frozen?, hg]
      have f6 : V1.frozen? ⟨g, 6, none⟩ = false := by simp [World.frozen?, hg]
      have f7 : V1.frozen? ⟨g, 7, none⟩ = false := by simp [World.frozen?, hg]
      have f8 : V1.frozen? ⟨g, 8, none⟩ = false := by simp [World.frozen?, hg]
      have HG := Lib.hid hg1
      have HR := Lib.hid hR1
      have HD := Lib.hid (And.intro hD1 (And.intro hDg hW1))
      clear hg hg1 hR1 hW1 hD1 hDg
      refine (CB.out _).mono ?_
      rintro e w' ⟨rfl, rfl⟩
      go_wp2
      refine wp_goto ?_
      refine HJ.out 3 1 _ _ _ (by rfl) ?_
      go_wp2
      refine HQ _ _ _ _ (by intro l h; cases h) ?_
      go_ret
      try rw [hX2]
      have hk := keep_set (g := g) (k := 1) (u := .int .i64 1) (Keep.refl _ V1)
      exact ⟨HD.out.2.2.trans (Rows.belowg HD.out.1 HD.out.2.1 hk), rfl, .of (set_1 (z := 1) HG.out) HD.out.2.1 (HR.out.keepg hk)⟩
    have n35 : (r == 35) = false := by simpa using r35
    by_cases hq : isSgn (encL r) = true
    · skip
      have CI : Hid (∀ V, Calls Tryz.prog 41 #[.string (Utf8.encode r)] V fun e w' => e = .returned (.bool true) ∧ V = w') := Lib.hid fun V => by have h := isSign_any (Utf8.encode r) V; rw [show isSgn (Utf8.encode r).data.toList = true from hq] at h; exact h
      have hX2 : X = .ok ⟨2, (l1, c1, i), (l1, c1, i), text, (l3, c3, i3), bh, toks ++ [⟨1, text, (l2, c2, i2)⟩]⟩ := by rw [← hX]; unfold betweenS; rw [if_neg (by rw [hb]; decide)]; rw [if_neg (by first | exact r35 | decide)]; rw [if_pos hq]
      have hcz : ¬ (s.extract i i).size + (Utf8.encode r).size > 9223372036854775807 := by
        have h1 := encode_size r
        have h2 : (s.extract i i).size = 0 := by rw [ext_nil]; rfl
        omega
      have CS : Hid (∀ V tv kv, V.heap[g]? = some (.cells (scC s 2 (l1 : Nat) (c1 : Nat) (i : Nat) (l1 : Nat) (c1 : Nat) (i : Nat) tv (l3 : Nat) (c3 : Nat) (i3 : Nat) (bh : Nat) kv) 43 (0, 0)) → Calls Tryz.prog 43 #[.pointer (some ⟨g, 0, none⟩)] V fun e w' => e = .returned (.string (s.extract i i)) ∧ Below V.heap.size V w') := Lib.hid fun V tv kv h => since_any s _ _ _ _ _ _ _ _ _ i i tv kv g V h (Nat.le_refl _) hi
      clear hX
      go_wp2_with fail
      have hk1 : Keep (fun b => b = g) w4 ((((w4.setCell ⟨g, 1, none⟩ (.int .i64 0)).setCell ⟨g, 5, none⟩ (.int .i64 (l1 : Nat))).setCell ⟨g, 6, none⟩ (.int .i64 (c1 : Nat))).setCell ⟨g, 7, none⟩ (.int .i64 (i : Nat))) := keep_set (g := g) (keep_set (g := g) (keep_set (g := g) (keep_set (g := g) (Keep.refl _ w4))))
      have hg1 := set_f (a := (l1 : Nat)) (b := (c1 : Nat)) (c := (i : Nat)) (set_1 (z := 0) hg)
      have hR1 := hR.keepg hk1
      have hW1 := hW.trans (Rows.belowg hD hDg hk1)
      have hD1 := Nat.le_trans hD hk1.size
      clear k1 k2 k3 k4 k5 k6 k7 k8 f1 f5 f6 f7 f8 hgl hk1 hg hR hW hD
      generalize (((w4.setCell ⟨g, 1, none⟩ (.int .i64 0)).setCell ⟨g, 5, none⟩ (.int .i64 (l1 : Nat))).setCell ⟨g, 6, none⟩ (.int .i64 (c1 : Nat))).setCell ⟨g, 7, none⟩ (.int .i64 (i : Nat)) = V1 at *
      have hg := hg1
      have hgl : g < V1.heap.size := (Array.getElem?_eq_some_iff.1 hg).1
      have k1 : V1.cell? ⟨g, 1, none⟩ = some (.int .i64 0) := by rw [Lib.cell_of_heap hg]; rfl
      have k2 : V1.cell? ⟨g, 2, none⟩ = some (.int .i64 (l1 : Nat)) := by rw [Lib.cell_of_heap hg]; rfl
      have k3 : V1.cell? ⟨g, 3, none⟩ = some (.int .i64 (c1 : Nat)) := by rw [Lib.cell_of_heap hg]; rfl
      have k4 : V1.cell? ⟨g, 4, none⟩ = some (.int .i64 (i : Nat)) := by rw [Lib.cell_of_heap hg]; rfl
      have k5 : V1.cell? ⟨g, 5, none⟩ = some (.int .i64 (l1 : Nat)) := by rw [Lib.cell_of_heap hg]; rfl
      have k6 : V1.cell? ⟨g, 6, none⟩ = some (.int .i64 (c1 : Nat)) := by rw [Lib.cell_of_heap hg]; rfl
      have k7 : V1.cell? ⟨g, 7, none⟩ = some (.int .i64 (i : Nat)) := by rw [Lib.cell_of_heap hg]; rfl
      have k8 : V1.cell? ⟨g, 8, none⟩ = some (tv) := by rw [Lib.cell_of_heap hg]; rfl
      have f1 : V1.frozen? ⟨g, 1, none⟩ = false := by simp [World.frozen?, hg]
      have f5 : V1.frozen? ⟨g, 5, none⟩ = false := by simp [World.frozen?, hg]
      have f6 : V1.frozen? ⟨g, 6, none⟩ = false := by simp [World.frozen?, hg]
      have f7 : V1.frozen? ⟨g, 7, none⟩ = false := by simp [World.frozen?, hg]
      have f8 : V1.frozen? ⟨g, 8, none⟩ = false := by simp [World.frozen?, hg]
      have HG := Lib.hid hg1
      have HR := Lib.hid hR1
      have HD := Lib.hid (And.intro hD1 (And.intro hDg hW1))
      clear hg hg1 hR1 hW1 hD1 hDg
      refine (CB.out _).mono ?_
      rintro e w' ⟨rfl, rfl⟩
      go_wp2_with fail
      refine (CI.out _).mono ?_
      rintro e w' ⟨rfl, rfl⟩
      go_wp2
      refine wp_goto ?_
      refine HJ.out 3 2 _ _ _ (by rfl) ?_
      go_wp2_with fail
      refine (CS.out _ _ _ (set_1 (z := 2) HG.out)).mono ?_
      rintro e w2 ⟨rfl, hb2⟩
      have HB2 := Lib.hid hb2
      clear hb2
      go_wp2_with fail
      refine (CI.out _).mono ?_
      rintro e w' ⟨rfl, rfl⟩
      go_wp2
      refine HQ _ _ _ _ (by intro l h; cases h) ?_
      go_ret
      try rw [hX2]
      have hk := keep_set (g := g) (k := 1) (u := .int .i64 2) (Keep.refl _ V1)
      have hz : (V1.setCell ⟨g, 1, none⟩ (.int .i64 2)).heap.size = V1.heap.size := by simp
      have hD2 : D ≤ (V1.setCell ⟨g, 1, none⟩ (.int .i64 2)).heap.size := by rw [hz]; exact HD.out.1
      exact ⟨(HD.out.2.2.trans (Rows.belowg HD.out.1 HD.out.2.1 hk)).trans (toG HB2.out), rfl, .of ((HB2.out.block g (by rw [hz]; exact hgl)).trans (set_1 (z := 2) HG.out)) HD.out.2.1 ((HR.out.keepg hk).below HB2.out)⟩
    have hq : isSgn (encL r) = false := by simpa using hq
    have CI : Hid (∀ V, Calls Tryz.prog 41 #[.string (Utf8.encode r)] V fun e w' => e = .returned (.bool false) ∧ V = w') := Lib.hid fun V => by have h := isSign_any (Utf8.encode r) V; rw [show isSgn (Utf8.encode r).data.toList = false from hq] at h; exact h
    by_cases r91 : r = 91
    · subst r91
      have hX2 : X = .ok ⟨3, (l1, c1, i), (l1, c1, i), text, (l3, c3, i3), bh, toks ++ [⟨1, text, (l2, c2, i2)⟩]⟩ := by rw [← hX]; unfold betweenS; rw [if_neg (by rw [hb]; decide)]; rw [if_neg (by first | exact r35 | decide)]; rw [if_neg (by rw [hq]; decide)]; rw [if_pos rfl]
      clear hX
      go_wp2_with fail
      have hk1 : Keep (fun b => b = g) w4 ((((w4.setCell ⟨g, 1, none⟩ (.int .i64 0)).setCell ⟨g, 5, none⟩ (.int .i64 (l1 : Nat))).setCell ⟨g, 6, none⟩ (.int .i64 (c1 : Nat))).setCell ⟨g, 7, none⟩ (.int .i64 (i : Nat))) := keep_set (g := g) (keep_set (g := g) (keep_set (g := g) (keep_set (g := g) (Keep.refl _ w4))))
      have hg1 := set_f (a := (l1 : Nat)) (b := (c1 : Nat)) (c := (i : Nat)) (set_1 (z := 0) hg)
      have hR1 := hR.keepg hk1
      have hW1 := hW.trans (Rows.belowg hD hDg hk1)
      have hD1 := Nat.le_trans hD hk1.size
      clear k1 k2 k3 k4 k5 k6 k7 k8 f1 f5 f6 f7 f8 hgl hk1 hg hR hW hD
      generalize (((w4.setCell ⟨g, 1, none⟩ (.int .i64 0)).setCell ⟨g, 5, none⟩ (.int .i64 (l1 : Nat))).setCell ⟨g, 6, none⟩ (.int .i64 (c1 : Nat))).setCell ⟨g, 7, none⟩ (.int .i64 (i : Nat)) = V1 at *
      have hg := hg1
      have hgl : g < V1.heap.size := (Array.getElem?_eq_some_iff.1 hg).1
      have k1 : V1.cell? ⟨g, 1, none⟩ = some (.int .i64 0) := by rw [Lib.cell_of_heap hg]; rfl
      have k2 : V1.cell? ⟨g, 2, none⟩ = some (.int .i64 (l1 : Nat)) := by rw [Lib.cell_of_heap hg]; rfl
      have k3 : V1.cell? ⟨g, 3, none⟩ = some (.int .i64 (c1 : Nat)) := by rw [Lib.cell_of_heap hg]; rfl
      have k4 : V1.cell? ⟨g, 4, none⟩ = some (.int .i64 (i : Nat)) := by rw [Lib.cell_of_heap hg]; rfl
      have k5 : V1.cell? ⟨g, 5, none⟩ = some (.int .i64 (l1 : Nat)) := by rw [Lib.cell_of_heap hg]; rfl
      have k6 : V1.cell? ⟨g, 6, none⟩ = some (.int .i64 (c1 : Nat)) := by rw [Lib.cell_of_heap hg]; rfl
      have k7 : V1.cell? ⟨g, 7, none⟩ = some (.int .i64 (i : Nat)) := by rw [Lib.cell_of_heap hg]; rfl
      have k8 : V1.cell? ⟨g, 8, none⟩ = some (tv) := by rw [Lib.cell_of_heap hg]; rfl
      have f1 : V1.frozen? ⟨g, 1, none⟩ = false := by simp [World.frozen?, hg]
      have f5 : V1.frozen? ⟨g, 5, none⟩ = false := by simp [World.frozen?, hg]
      have f6 : V1.frozen? ⟨g, 6, none⟩ = false := by simp [World.frozen?, hg]
      have f7 : V1.frozen? ⟨g, 7, none⟩ = false := by simp [World.frozen?, hg]
      have f8 : V1.frozen? ⟨g, 8, none⟩ = false := by simp [World.frozen?, hg]
      have HG := Lib.hid hg1
      have HR := Lib.hid hR1
      have HD := Lib.hid (And.intro hD1 (And.intro hDg hW1))
      clear hg hg1 hR1 hW1 hD1 hDg
      refine (CB.out _).mono ?_
      rintro e w' ⟨rfl, rfl⟩
      go_wp2_with fail
      refine (CI.out _).mono ?_
      rintro e w' ⟨rfl, rfl⟩
      go_wp2
      refine wp_goto ?_
      refine HJ.out 3 3 _ _ _ (by rfl) ?_
      go_wp2
      refine HQ _ _ _ _ (by intro l h; cases h) ?_
      go_ret
      try rw [hX2]
      have hk := keep_set (g := g) (k := 1) (u := .int .i64 3) (Keep.refl _ V1)
      exact ⟨HD.out.2.2.trans (Rows.belowg HD.out.1 HD.out.2.1 hk), rfl, .of (set_1 (z := 3) HG.out) HD.out.2.1 (HR.out.keepg hk)⟩
    have n91 : (r == 91) = false := by simpa using r91
    by_cases r93 : r = 93
    · subst r93
      have hX2 : X = .bad 25 (l1, c1, i) := by rw [← hX]; unfold betweenS; rw [if_neg (by rw [hb]; decide)]; rw [if_neg (by first | exact r35 | decide)]; rw [if_neg (by rw [hq]; decide)]; rw [if_neg (by first | exact r91 | decide)]; rw [if_pos rfl]
      have CF := Lib.hid (fun V => plFault_any (l1, c1, i) 25 V)
      unfold plV at CF
      clear hX
      go_wp2_with fail
      have hk1 : Keep (fun b => b = g) w4 ((((w4.setCell ⟨g, 1, none⟩ (.int .i64 0)).setCell ⟨g, 5, none⟩ (.int .i64 (l1 : Nat))).setCell ⟨g, 6, none⟩ (.int .i64 (c1 : Nat))).setCell ⟨g, 7, none⟩ (.int .i64 (i : Nat))) := keep_set (g := g) (keep_set (g := g) (keep_set (g := g) (keep_set (g := g) (Keep.refl _ w4))))
      have hg1 := set_f (a := (l1 : Nat)) (b := (c1 : Nat)) (c := (i : Nat)) (set_1 (z := 0) hg)
      have hR1 := hR.keepg hk1
      have hW1 := hW.trans (Rows.belowg hD hDg hk1)
      have hD1 := Nat.le_trans hD hk1.size
      clear k1 k2 k3 k4 k5 k6 k7 k8 f1 f5 f6 f7 f8 hgl hk1 hg hR hW hD
      generalize (((w4.setCell ⟨g, 1, none⟩ (.int .i64 0)).setCell ⟨g, 5, none⟩ (.int .i64 (l1 : Nat))).setCell ⟨g, 6, none⟩ (.int .i64 (c1 : Nat))).setCell ⟨g, 7, none⟩ (.int .i64 (i : Nat)) = V1 at *
      have hg := hg1
      have hgl : g < V1.heap.size := (Array.getElem?_eq_some_iff.1 hg).1
      have k1 : V1.cell? ⟨g, 1, none⟩ = some (.int .i64 0) := by rw [Lib.cell_of_heap hg]; rfl
      have k2 : V1.cell? ⟨g, 2, none⟩ = some (.int .i64 (l1 : Nat)) := by rw [Lib.cell_of_heap hg]; rfl
      have k3 : V1.cell? ⟨g, 3, none⟩ = some (.int .i64 (c1 : Nat)) := by rw [Lib.cell_of_heap hg]; rfl
      have k4 : V1.cell? ⟨g, 4, none⟩ = some (.int .i64 (i : Nat)) := by rw [Lib.cell_of_heap hg]; rfl
      have k5 : V1.cell? ⟨g, 5, none⟩ = some (.int .i64 (l1 : Nat)) := by rw [Lib.cell_of_heap hg]; rfl
      have k6 : V1.cell? ⟨g, 6, none⟩ = some (.int .i64 (c1 : Nat)) := by rw [Lib.cell_of_heap hg]; rfl
      have k7 : V1.cell? ⟨g, 7, none⟩ = some (.int .i64 (i : Nat)) := by rw [Lib.cell_of_heap hg]; rfl
      have k8 : V1.cell? ⟨g, 8, none⟩ = some (tv) := by rw [Lib.cell_of_heap hg]; rfl
      have f1 : V1.frozen? ⟨g, 1, none⟩ = false := by simp [World.frozen?, hg]
      have f5 : V1.frozen? ⟨g, 5, none⟩ = false := by simp [World.frozen?, hg]
      have f6 : V1.frozen? ⟨g, 6, none⟩ = false := by simp [World.frozen?, hg]
      have f7 : V1.frozen? ⟨g, 7, none⟩ = false := by simp [World.frozen?, hg]
      have f8 : V1.frozen? ⟨g, 8, none⟩ = false := by simp [World.frozen?, hg]
      have HG := Lib.hid hg1
      have HR := Lib.hid hR1
      have HD := Lib.hid (And.intro hD1 (And.intro hDg hW1))
      clear hg hg1 hR1 hW1 hD1 hDg
      refine (CB.out _).mono ?_
      rintro e w' ⟨rfl, rfl⟩
      go_wp2_with fail
      refine (CI.out _).mono ?_
      rintro e w' ⟨rfl, rfl⟩
      go_wp2_with fail
      refine (CF.out _).mono ?_
      rintro e w2 ⟨rfl, hb2⟩
      have HB2 := Lib.hid hb2
      clear hb2
      go_wp2
      refine HQ _ _ _ _ (by intro l h; cases h) ?_
      go_ret
      try rw [hX2]
      exact ⟨HD.out.2.2.trans (toG HB2.out), rfl⟩
    have n93 : (r == 93) = false := by simpa using r93
    by_cases r42 : r = 42
    · subst r42
      have hX2 : X = .bad 4 (l1, c1, i) := by rw [← hX]; unfold betweenS; rw [if_neg (by rw [hb]; decide)]; rw [if_neg (by first | exact r35 | decide)]; rw [if_neg (by rw [hq]; decide)]; rw [if_neg (by first | exact r91 | decide)]; rw [if_neg (by first | exact r93 | decide)]; rw [if_pos rfl]
      have CF := Lib.hid (fun V => plFault_any (l1, c1, i) 4 V)
      unfold plV at CF
      clear hX
      go_wp2_with fail
      have hk1 : Keep (fun b => b = g) w4 ((((w4.setCell ⟨g, 1, none⟩ (.int .i64 0)).setCell ⟨g, 5, none⟩ (.int .i64 (l1 : Nat))).setCell ⟨g, 6, none⟩ (.int .i64 (c1 : Nat))).setCell ⟨g, 7, none⟩ (.int .i64 (i : Nat))) := keep_set (g := g) (keep_set (g := g) (keep_set (g := g) (keep_set (g := g) (Keep.refl _ w4))))
      have hg1 := set_f (a := (l1 : Nat)) (b := (c1 : Nat)) (c := (i : Nat)) (set_1 (z := 0) hg)
      have hR1 := hR.keepg hk1
      have hW1 := hW.trans (Rows.belowg hD hDg hk1)
      have hD1 := Nat.le_trans hD hk1.size
      clear k1 k2 k3 k4 k5 k6 k7 k8 f1 f5 f6 f7 f8 hgl hk1 hg hR hW hD
      generalize (((w4.setCell ⟨g, 1, none⟩ (.int .i64 0)).setCell ⟨g, 5, none⟩ (.int .i64 (l1 : Nat))).setCell ⟨g, 6, none⟩ (.int .i64 (c1 : Nat))).setCell ⟨g, 7, none⟩ (.int .i64 (i : Nat)) = V1 at *
      have hg := hg1
      have hgl : g < V1.heap.size := (Array.getElem?_eq_some_iff.1 hg).1
      have k1 : V1.cell? ⟨g, 1, none⟩ = some (.int .i64 0) := by rw [Lib.cell_of_heap hg]; rfl
      have k2 : V1.cell? ⟨g, 2, none⟩ = some (.int .i64 (l1 : Nat)) := by rw [Lib.cell_of_heap hg]; rfl
      have k3 : V1.cell? ⟨g, 3, none⟩ = some (.int .i64 (c1 : Nat)) := by rw [Lib.cell_of_heap hg]; rfl
      have k4 : V1.cell? ⟨g, 4, none⟩ = some (.int .i64 (i : Nat)) := by rw [Lib.cell_of_heap hg]; rfl
      have k5 : V1.cell? ⟨g, 5, none⟩ = some (.int .i64 (l1 : Nat)) := by rw [Lib.cell_of_heap hg]; rfl
      have k6 : V1.cell? ⟨g, 6, none⟩ = some (.int .i64 (c1 : Nat)) := by rw [Lib.cell_of_heap hg]; rfl
      have k7 : V1.cell? ⟨g, 7, none⟩ = some (.int .i64 (i : Nat)) := by rw [Lib.cell_of_heap hg]; rfl
      have k8 : V1.cell? ⟨g, 8, none⟩ = some (tv) := by rw [Lib.cell_of_heap hg]; rfl
      have f1 : V1.frozen? ⟨g, 1, none⟩ = false := by simp [World.frozen?, hg]
      have f5 : V1.frozen? ⟨g, 5, none⟩ = false := by simp [World.frozen?, hg]
      have f6 : V1.frozen? ⟨g, 6, none⟩ = false := by simp [World.frozen?, hg]
      have f7 : V1.frozen? ⟨g, 7, none⟩ = false := by simp [World.frozen?, hg]
      have f8 : V1.frozen? ⟨g, 8, none⟩ = false := by simp [World.frozen?, hg]
      have HG := Lib.hid hg1
      have HR := Lib.hid hR1
      have HD := Lib.hid (And.intro hD1 (And.intro hDg hW1))
      clear hg hg1 hR1 hW1 hD1 hDg
      refine (CB.out _).mono ?_
      rintro e w' ⟨rfl, rfl⟩
      go_wp2_with fail
      refine (CI.out _).mono ?_
      rintro e w' ⟨rfl, rfl⟩
      go_wp2_with fail
      refine (CF.out _).mono ?_
      rintro e w2 ⟨rfl, hb2⟩
      have HB2 := Lib.hid hb2
      clear hb2
      go_wp2
      refine HQ _ _ _ _ (by intro l h; cases h) ?_
      go_ret
      try rw [hX2]
      exact ⟨HD.out.2.2.trans (toG HB2.out), rfl⟩
    have n42 : (r == 42) = false := by simpa using r42
    have hX2 : X = (plainS s ⟨4, (l1, c1, i), (l1, c1, i), [], (l3, c3, i3), bh, toks ++ [⟨1, text, (l2, c2, i2)⟩]⟩ r).out := by rw [← hX]; unfold betweenS; rw [if_neg (by rw [hb]; decide)]; rw [if_neg (by first | exact r35 | decide)]; rw [if_neg (by rw [hq]; decide)]; rw [if_neg (by first | exact r91 | decide)]; rw [if_neg (by first | exact r93 | decide)]; rw [if_neg (by first | exact r42 | decide)]
    clear hX
    go_wp2_with fail
    have hk1 : Keep (fun b => b = g) w4 ((((w4.setCell ⟨g, 1, none⟩ (.int .i64 0)).setCell ⟨g, 5, none⟩ (.int .i64 (l1 : Nat))).setCell ⟨g, 6, none⟩ (.int .i64 (c1 : Nat))).setCell ⟨g, 7, none⟩ (.int .i64 (i : Nat))) := keep_set (g := g) (keep_set (g := g) (keep_set (g := g) (keep_set (g := g) (Keep.refl _ w4))))
    have hg1 := set_f (a := (l1 : Nat)) (b := (c1 : Nat)) (c := (i : Nat)) (set_1 (z := 0) hg)
    have hR1 := hR.keepg hk1
    have hW1 := hW.trans (Rows.belowg hD hDg hk1)
    have hD1 := Nat.le_trans hD hk1.size
    clear k1 k2 k3 k4 k5 k6 k7 k8 f1 f5 f6 f7 f8 hgl hk1 hg hR hW hD
    generalize (((w4.setCell ⟨g, 1, none⟩ (.int .i64 0)).setCell ⟨g, 5, none⟩ (.int .i64 (l1 : Nat))).setCell ⟨g, 6, none⟩ (.int .i64 (c1 : Nat))).setCell ⟨g, 7, none⟩ (.int .i64 (i : Nat)) = V1 at *
    have hg := hg1
    have hgl : g < V1.heap.size := (Array.getElem?_eq_some_iff.1 hg).1
    have k1 : V1.cell? ⟨g, 1, none⟩ = some (.int .i64 0) := by rw [Lib.cell_of_heap hg]; rfl
    have k2 : V1.cell? ⟨g, 2, none⟩ = some (.int .i64 (l1 : Nat)) := by rw [Lib.cell_of_heap hg]; rfl
    have k3 : V1.cell? ⟨g, 3, none⟩ = some (.int .i64 (c1 : Nat)) := by rw [Lib.cell_of_heap hg]; rfl
    have k4 : V1.cell? ⟨g, 4, none⟩ = some (.int .i64 (i : Nat)) := by rw [Lib.cell_of_heap hg]; rfl
    have k5 : V1.cell? ⟨g, 5, none⟩ = some (.int .i64 (l1 : Nat)) := by rw [Lib.cell_of_heap hg]; rfl
    have k6 : V1.cell? ⟨g, 6, none⟩ = some (.int .i64 (c1 : Nat)) := by rw [Lib.cell_of_heap hg]; rfl
    have k7 : V1.cell? ⟨g, 7, none⟩ = some (.int .i64 (i : Nat)) := by rw [Lib.cell_of_heap hg]; rfl
    have k8 : V1.cell? ⟨g, 8, none⟩ = some (tv) := by rw [Lib.cell_of_heap hg]; rfl
    have f1 : V1.frozen? ⟨g, 1, none⟩ = false := by simp [World.frozen?, hg]
    have f5 : V1.frozen? ⟨g, 5, none⟩ = false := by simp [World.frozen?, hg]
    have f6 : V1.frozen? ⟨g, 6, none⟩ = false := by simp [World.frozen?, hg]
    have f7 : V1.frozen? ⟨g, 7, none⟩ = false := by simp [World.frozen?, hg]
    have f8 : V1.frozen? ⟨g, 8, none⟩ = false := by simp [World.frozen?, hg]
    have HG := Lib.hid hg1
    have HR := Lib.hid hR1
    have HD := Lib.hid (And.intro hD1 (And.intro hDg hW1))
    clear hg hg1 hR1 hW1 hD1 hDg
    refine (CB.out _).mono ?_
    rintro e w' ⟨rfl, rfl⟩
    go_wp2_with fail
    refine (CI.out _).mono ?_
    rintro e w' ⟨rfl, rfl⟩
    go_wp2
    refine wp_goto ?_
    refine HJ.out 3 4 _ _ _ (by rfl) ?_
    go_wp2_with fail
    have hk2 : Keep (fun b => b = g) V1 ((V1.setCell ⟨g, 1, none⟩ (.int .i64 4)).setCell ⟨g, 8, none⟩ (.slice none 0 0)) := keep_set (g := g) (keep_set (g := g) (Keep.refl _ V1))
    have hS2 : ScAt D g s ⟨4, (l1, c1, i), (l1, c1, i), [], (l3, c3, i3), bh, toks ++ [⟨1, text, (l2, c2, i2)⟩]⟩ ((V1.setCell ⟨g, 1, none⟩ (.int .i64 4)).setCell ⟨g, 8, none⟩ (.slice none 0 0)) := .of (set_8 (u := .slice none 0 0) (set_1 (z := 4) HG.out)) HD.out.2.1 (HR.out.keepg hk2).nil
    refine (CP.out _ _ _ _ _ (by simp) hS2 (HD.out.2.2.trans (Rows.belowg HD.out.1 HD.out.2.1 hk2))).mono ?_
    rintro e w3 ⟨hb3, h3⟩
    have hpp : pieceS s ⟨4, (l1, c1, i), (l1, c1, i), [], (l3, c3, i3), bh, toks ++ [⟨1, text, (l2, c2, i2)⟩]⟩ r = plainS s ⟨4, (l1, c1, i), (l1, c1, i), [], (l3, c3, i3), bh, toks ++ [⟨1, text, (l2, c2, i2)⟩]⟩ r := by simp [pieceS]
    rw [hpp] at h3
    clear hk2 hS2 hpp
    cases hp : plainS s ⟨4, (l1, c1, i), (l1, c1, i), [], (l3, c3, i3), bh, toks ++ [⟨1, text, (l2, c2, i2)⟩]⟩ r with
    | took c3 =>
      rw [hp] at h3 hX2
      obtain ⟨rfl, hS3⟩ := h3
      have HF := Lib.hid (And.intro hS3 (And.intro hb3 hX2))
      clear hS3 hb3 hX2 hp
      go_wp2
      refine HQ _ _ _ _ (by intro l h; cases h) ?_
      go_ret
      rw [HF.out.2.2]
      exact ⟨HF.out.2.1, rfl, HF.out.1⟩
    | left c3 => exact (plain_left hp hb hq r35 r91 r93 r42).elim
    | bad no p =>
      rw [hp] at h3 hX2
      subst h3
      have HF := Lib.hid (And.intro hb3 hX2)
      clear hb3 hX2 hp
      go_wp2
      refine HQ _ _ _ _ (by intro l h; cases h) ?_
      go_ret
      rw [HF.out.2]
      exact ⟨HF.out.1, rfl⟩
end Go.Proofs.YtbnnhbmnddaafaaGreatDoor
