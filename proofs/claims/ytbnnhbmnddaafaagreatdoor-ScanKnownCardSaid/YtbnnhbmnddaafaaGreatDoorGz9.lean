/- Parts of the proof of what the last text says. -/
import Derived.Test.YtbnnhbmnddaafaaGreatDoorGz8
/- The scanner's piece (written by wip/tools/gen_piece.py). -/
namespace Go.Proofs.YtbnnhbmnddaafaaGreatDoor
open Go Go.RowKit Go.Kt Go.Shelf Go.Lib
attribute [local go_sem] Oper.semAt_some

set_option maxHeartbeats 8000000 in
set_option maxRecDepth 100000 in
theorem piece_plain (s : ByteArray) (c : Sc) (r : Int) (D g : Nat) (w0 w : World) (hD0 : D ≤ w0.heap.size) (h5 : c.st ≠ 5) (h6 : c.st ≠ 6) (h7 : c.st ≠ 7) (hS : ScAt D g s c w) (hE : ∀ X, KeepG D g w0 X → SEnv X) (hW : KeepG D g w0 w) (hr : 0 ≤ r) (h92 : r = 92 → c.here.2.2 < s.size) (hi : c.here.2.2 ≤ s.size) (hs : s.size ≤ 1048576) (hm : c.text.length ≤ 8388000) :
    Calls Tryz.prog 38 #[.pointer (some ⟨g, 0, none⟩), .int .i32 r] w (PieceOut D g s w0 (plainS s c r)) := by
  have hD : D ≤ w.heap.size := Nat.le_trans hD0 hW.size
  have hE1 : ∀ X : World, KeepG D g w X → SEnv X := fun X hk => hE X (hW.trans hk)
  have HW := Lib.hid hW
  clear hE hW hD0
  obtain ⟨st, ⟨l1, c1, i⟩, ⟨l2, c2, i2⟩, text, ⟨l3, c3, i3⟩, bh, toks⟩ := c
  obtain ⟨tv, kv, hg, hDg, hR⟩ := hS
  simp only at h92 hi hm hR hg
  have hgl : g < w.heap.size := (Array.getElem?_eq_some_iff.1 hg).1
  have k1 : w.cell? ⟨g, 1, none⟩ = some (.int .i64 (st : Nat)) := by rw [Lib.cell_of_heap hg]; rfl
  have f1 : w.frozen? ⟨g, 1, none⟩ = false := by simp [World.frozen?, hg]
  have k2 : w.cell? ⟨g, 2, none⟩ = some (.int .i64 (l1 : Nat)) := by rw [Lib.cell_of_heap hg]; rfl
  have k3 : w.cell? ⟨g, 3, none⟩ = some (.int .i64 (c1 : Nat)) := by rw [Lib.cell_of_heap hg]; rfl
  have k4 : w.cell? ⟨g, 4, none⟩ = some (.int .i64 (i : Nat)) := by rw [Lib.cell_of_heap hg]; rfl
  have HG := Lib.hid hg
  have HR := Lib.hid (show Rows D g tv kv text toks w from hR)
  have HD := Lib.hid (And.intro hD hDg)
  have HE := Lib.hid hE1
  clear hR hE1 hD hDg
  have n5 : (((st : Nat) : Int) == 5) = false := by simp; exact fun h => h5 (by simp only; omega)
  have n6 : (((st : Nat) : Int) == 6) = false := by simp; exact fun h => h6 (by simp only; omega)
  have n7 : (((st : Nat) : Int) == 7) = false := by simp; exact fun h => h7 (by simp only; omega)
  clear h5 h6 h7
  by_cases r39 : r = 39
  · subst r39
    have hP : plainS s ⟨st, (l1, c1, i), (l2, c2, i2), text, (l3, c3, i3), bh, toks⟩ 39 = .took ⟨5, (l1, c1, i), (l2, c2, i2), text, (l1, c1, i), bh, toks⟩ := by skip; unfold plainS; rw [if_pos rfl]
    rw [hP]
    clear hP h92
    go_enter Tryz.func38, Tryz.ntmps38
    go_wp2
    refine wp_scope_far 4 fun F HQ HJ => ?_
    go_wp2
    refine wp_label ?_
    have k9 : w.cell? ⟨g, 9, none⟩ = some (.int .i64 (l3 : Nat)) := by rw [Lib.cell_of_heap HG.out]; rfl
    have k10 : w.cell? ⟨g, 10, none⟩ = some (.int .i64 (c3 : Nat)) := by rw [Lib.cell_of_heap HG.out]; rfl
    have k11 : w.cell? ⟨g, 11, none⟩ = some (.int .i64 (i3 : Nat)) := by rw [Lib.cell_of_heap HG.out]; rfl
    have f9 : w.frozen? ⟨g, 9, none⟩ = false := by simp [World.frozen?, HG.out]
    have f10 : w.frozen? ⟨g, 10, none⟩ = false := by simp [World.frozen?, HG.out]
    have f11 : w.frozen? ⟨g, 11, none⟩ = false := by simp [World.frozen?, HG.out]
    go_wp2
    refine HQ _ _ _ _ (by intro l h; cases h) ?_
    go_ret2
    have hk := keep_set (g := g) (k := 11) (u := .int .i64 (i : Nat)) (keep_set (g := g) (k := 10) (u := .int .i64 (c1 : Nat)) (keep_set (g := g) (k := 9) (u := .int .i64 (l1 : Nat)) (keep_set (g := g) (k := 1) (u := .int .i64 5) (keep_set (g := g) (k := 1) (u := .int .i64 4) (Keep.refl _ w)))))
    exact ⟨HW.out.trans (Rows.belowg HD.out.1 HD.out.2 hk), rfl, .of (set_q (set_1 (z := 5) (set_1 (z := 4) HG.out))) HD.out.2 (HR.out.keepg hk)⟩
  by_cases r92 : r = 92
  · subst r92
    obtain ⟨o, ho⟩ : ∃ o, unescV (s.extract i s.size) = o := ⟨_, rfl⟩
    cases o with
    | none =>
      have hP : plainS s ⟨st, (l1, c1, i), (l2, c2, i2), text, (l3, c3, i3), bh, toks⟩ 92 = .bad 9 (l1, c1, i) := by skip; unfold plainS; rw [if_neg (by decide), if_pos rfl]; simp only; rw [ho]
      rw [hP]
      have hi92 : i < s.size := h92 rfl
      clear hP h92
      go_enter Tryz.func38, Tryz.ntmps38
      go_wp2
      refine wp_scope_far 4 fun F HQ HJ => ?_
      go_wp2
      refine wp_label ?_
      have CE := Lib.hid (escape_raw s 4 l2 c2 i2 l3 c3 i3 bh l1 c1 i tv kv g (w.setCell ⟨g, 1, none⟩ (.int .i64 4)) text.length (u8V text) (set_1 HG.out) (((HR.out.keepg (keep_set (Keep.refl _ w))).1).weaken fun _ h => h.2) (by omega) hi92 hs (HE.out _ ((keep_set (g := g) (Keep.refl _ w)).weaken fun _ _ e => .inl e)))
      rw [ho] at CE
      clear ho hi92
      go_wp2_with fail
      refine CE.out.mono ?_
      rintro e w2 ⟨rfl, hb2⟩
      have HB2 := Lib.hid hb2
      clear hb2
      go_wp2
      refine HQ _ _ _ _ (by intro l h; cases h) ?_
      go_ret2
      have hb0 := Rows.belowg HD.out.1 HD.out.2 (keep_set (g := g) (k := 1) (u := .int .i64 4) (Keep.refl _ w))
      exact ⟨HW.out.trans (hb0.trans (toG HB2.out)), rfl⟩
    | some z =>
      obtain ⟨t, k⟩ := z
      have hP : plainS s ⟨st, (l1, c1, i), (l2, c2, i2), text, (l3, c3, i3), bh, toks⟩ 92 = .took ⟨7, (l1, c1, i), (l2, c2, i2), text ++ t, (l3, c3, i3), i + k, toks⟩ := by skip; unfold plainS; rw [if_neg (by decide), if_pos rfl]; simp only; rw [ho]
      rw [hP]
      have hi92 : i < s.size := h92 rfl
      clear hP h92
      go_enter Tryz.func38, Tryz.ntmps38
      go_wp2
      refine wp_scope_far 4 fun F HQ HJ => ?_
      go_wp2
      refine wp_label ?_
      have CE := Lib.hid (escape_raw s 4 l2 c2 i2 l3 c3 i3 bh l1 c1 i tv kv g (w.setCell ⟨g, 1, none⟩ (.int .i64 4)) text.length (u8V text) (set_1 HG.out) (((HR.out.keepg (keep_set (Keep.refl _ w))).1).weaken fun _ h => h.2) (by omega) hi92 hs (HE.out _ ((keep_set (g := g) (Keep.refl _ w)).weaken fun _ _ e => .inl e)))
      rw [ho] at CE
      clear ho hi92
      go_wp2_with fail
      refine CE.out.mono ?_
      rintro e w2 ⟨rfl, h2⟩
      have H2 := Lib.hid h2
      clear h2
      go_wp2
      refine HQ _ _ _ _ (by intro l h; cases h) ?_
      go_ret2
      obtain ⟨tv', hg2, ho2, hk2⟩ := H2.out
      have hk := keep_set (g := g) (k := 1) (u := .int .i64 4) (Keep.refl _ w)
      have hz : (w.setCell ⟨g, 1, none⟩ (.int .i64 4)).heap.size = w.heap.size := by simp
      have hR1 := HR.out.keepg hk
      have hD1 : D ≤ (w.setCell ⟨g, 1, none⟩ (.int .i64 4)).heap.size := by rw [hz]; exact HD.out.1
      have e1 : text.length + t.length = (text ++ t).length := by simp
      have e2 : u8V text ++ u8V t = u8V (text ++ t) := by simp [u8V]
      rw [e1, e2] at ho2
      exact ⟨HW.out.trans ((Rows.belowg HD.out.1 HD.out.2 hk).trans (hR1.belowt hD1 HD.out.2 hk2)), rfl, .of hg2 HD.out.2 (hR1.text hD1 hk2 ho2)⟩
  have n39 : (r == 39) = false := by simpa using r39
  have n92 : (r == 92) = false := by simpa using r92
  by_cases hb : isBlk r = true
  · skip
    have hP : plainS s ⟨st, (l1, c1, i), (l2, c2, i2), text, (l3, c3, i3), bh, toks⟩ r = .left ⟨4, (l1, c1, i), (l2, c2, i2), text, (l3, c3, i3), bh, toks⟩ := by skip; unfold plainS; rw [if_neg r39, if_neg r92, if_pos hb]
    rw [hP]
    have CB := Lib.hid (fun V => isBlank_any r V)
    rw [hb] at CB
    clear hP h92 hb hr
    go_enter Tryz.func38, Tryz.ntmps38
    go_wp2
    refine wp_scope_far 4 fun F HQ HJ => ?_
    go_wp2
    refine wp_label ?_
    go_wp2_with fail
    refine (CB.out _).mono ?_
    rintro e w' ⟨rfl, rfl⟩
    go_wp2
    refine HQ _ _ _ _ (by intro l h; cases h) ?_
    go_ret2
    have hk := keep_set (g := g) (k := 1) (u := .int .i64 4) (Keep.refl _ w)
    exact ⟨HW.out.trans (Rows.belowg HD.out.1 HD.out.2 hk), rfl, .of (set_1 (z := 4) HG.out) HD.out.2 (HR.out.keepg hk)⟩
  by_cases hg2 : isSgs r = true
  · skip
    have hP : plainS s ⟨st, (l1, c1, i), (l2, c2, i2), text, (l3, c3, i3), bh, toks⟩ r = .left ⟨4, (l1, c1, i), (l2, c2, i2), text, (l3, c3, i3), bh, toks⟩ := by skip; unfold plainS; rw [if_neg r39, if_neg r92, if_neg hb, if_pos hg2]
    rw [hP]
    have CB := Lib.hid (fun V => isBlank_any r V)
    rw [show isBlk r = false from by simpa using hb] at CB
    have CG := Lib.hid (fun V => isSigns_any r hr V)
    rw [hg2] at CG
    clear hP h92 hb hg2 hr
    go_enter Tryz.func38, Tryz.ntmps38
    go_wp2
    refine wp_scope_far 4 fun F HQ HJ => ?_
    go_wp2
    refine wp_label ?_
    go_wp2_with fail
    refine (CB.out _).mono ?_
    rintro e w' ⟨rfl, rfl⟩
    go_wp2_with fail
    refine (CG.out _).mono ?_
    rintro e w2 ⟨rfl, hb2⟩
    have HB2 := Lib.hid hb2
    clear hb2
    go_wp2
    refine HQ _ _ _ _ (by intro l h; cases h) ?_
    go_ret2
    have hk := keep_set (g := g) (k := 1) (u := .int .i64 4) (Keep.refl _ w)
    have hg2 := (HB2.out.block g (by simpa using hgl)).trans (set_1 (z := 4) HG.out)
    have hb0 := Rows.belowg HD.out.1 HD.out.2 hk
    exact ⟨HW.out.trans (hb0.trans (toG HB2.out)), rfl, .of hg2 HD.out.2 ((HR.out.keepg hk).below HB2.out)⟩
  have hP : plainS s ⟨st, (l1, c1, i), (l2, c2, i2), text, (l3, c3, i3), bh, toks⟩ r = .took ⟨4, (l1, c1, i), (l2, c2, i2), text ++ unitL s i, (l3, c3, i3), bh, toks⟩ := by skip; unfold plainS; rw [if_neg r39, if_neg r92, if_neg hb, if_neg hg2]
  rw [hP]
  clear hP h92
  have CB := Lib.hid (fun V => isBlank_any r V)
  rw [show isBlk r = false from by simpa using hb] at CB
  have CG := Lib.hid (fun V => isSigns_any r hr V)
  rw [show isSgs r = false from by simpa using hg2] at CG
  clear hr
  go_enter Tryz.func38, Tryz.ntmps38
  go_wp2
  refine wp_scope_far 4 fun F HQ HJ => ?_
  go_wp2
  refine wp_label ?_
  go_wp2_with fail
  refine (CB.out _).mono ?_
  rintro e w' ⟨rfl, rfl⟩
  go_wp2_with fail
  refine (CG.out _).mono ?_
  rintro e w2 ⟨rfl, hb2⟩
  have HB2 := Lib.hid hb2
  clear hb2
  go_wp2
  obtain ⟨ub, hub⟩ : ∃ ub, s.extract i (i + unitW s i) = ub := ⟨_, rfl⟩
  have huL : unitL s i = ub.data.toList := by unfold unitL; rw [hub]
  have huz : ub.size ≤ 4 := by rw [← hub, ByteArray.size_extract]; have := unitW_bd s i hi; omega
  obtain ⟨CS, hCS⟩ : ∃ CS : Value → Array Value, CS = fun u => scC s 4 (l1 : Nat) (c1 : Nat) (i : Nat) (l2 : Nat) (c2 : Nat) (i2 : Nat) u (l3 : Nat) (c3 : Nat) (i3 : Nat) (bh : Nat) kv := ⟨_, rfl⟩
  have hk01 : Keep (fun b => b = g) w (w2) := (keep_set (g := g) (k := 1) (u := .int .i64 4) (Keep.refl _ w)).then (HB2.out.mono (by simp))
  have hgW : (w2).heap[g]? = some (.cells (CS tv) 43 (0, 0)) := by rw [hCS]; exact (HB2.out.block g (by simpa using hgl)).trans (set_1 (z := 4) HG.out)
  generalize w2 = W1 at *
  have hR1 := HR.out.keepg hk01
  have hD1 : D ≤ W1.heap.size := Nat.le_trans HD.out.1 hk01.size
  have hgF : g < W1.heap.size := (Array.getElem?_eq_some_iff.1 hgW).1
  have htg : tv.ownBlock ≠ some g := fun h => (hR1.1.2 g h).2 rfl
  have htl : ∀ b, tv.ownBlock = some b → b < W1.heap.size := fun b h => (hR1.1.1.lt b h).2
  have hlm : text.length + ub.size ≤ 140737488355328 := by omega
  have hdt : ∀ b, b = g ∨ tv.ownBlock = some b → b = g ∨ D ≤ b := fun b h => by
    rcases h with h | h
    · exact .inl h
    · exact .inr (hR1.1.2 b h).1
  have CUN : Hid (∀ X : World, X.heap[g]? = some (.cells (CS tv) 43 (0, 0)) → Keep (fun b => b = g ∨ tv.ownBlock = some b) W1 X → Calls Tryz.prog 64 #[.pointer (some ⟨g, 0, none⟩)] X fun e w' => e = .returned (.string ub) ∧ Below X.heap.size X w') := Lib.hid fun X hX hk => by
    rw [← hub]
    subst hCS
    exact sunit_any s _ _ _ _ _ _ _ _ _ _ i tv kv g X hX hi (by omega) (HE.out X ((hk01.weaken fun _ _ e => hdt _ (Or.inl e)).trans (hk.weaken fun _ _ e => hdt _ e)))
  have FS4 : ∀ W : World, (Instr.fieldAt 43 (.pointer (some ⟨g, 0, none⟩)) 4).run Tryz.prog W = .ok (.pointer (some ⟨g, 8, none⟩)) W := fun W => by go_simp
  have L8 : ∀ W : World, W.heap[g]? = some (.cells (CS tv) 43 (0, 0)) → (Instr.loadAt 35 (.pointer (some ⟨g, 8, none⟩))).run Tryz.prog W = .ok tv W := fun W h => by
    subst hCS
    have q : W.cell? ⟨g, 8, none⟩ = some tv := by rw [Lib.cell_of_heap h]; rfl
    go_simp
  have ST : ∀ (W : World) (ao : Option Addr) (m cap : Nat), W.heap[g]? = some (.cells (CS tv) 43 (0, 0)) → (Instr.storeAt 35 (.pointer (some ⟨g, 8, none⟩)) (.slice ao m cap)).run Tryz.prog W = .ok () (W.setCell ⟨g, 8, none⟩ (.slice ao m cap)) := fun W ao m cap h => by
    subst hCS
    have q : W.cell? ⟨g, 8, none⟩ = some tv := by rw [Lib.cell_of_heap h]; rfl
    have q2 : W.frozen? ⟨g, 8, none⟩ = false := by simp [World.frozen?, h]
    go_simp
  have S8 : ∀ {W : World} {u : Value}, W.heap[g]? = some (.cells (CS tv) 43 (0, 0)) → (W.setCell ⟨g, 8, none⟩ u).heap[g]? = some (.cells (CS u) 43 (0, 0)) := fun h => by subst hCS; exact set_8 h
  obtain ⟨FF, hFF⟩ : ∃ FF : FldR, FF = ⟨g, W1, tv, 5, 1, text.length, text.length + ub.size, u8V text, u8V text ++ Lib.strCells ub, 43, CS, #[], 7, 10, 100, fun k => match k with | 0 => some (.pointer (some ⟨g, 0, none⟩)) | 1 => some (.pointer (some ⟨g, 0, none⟩)) | 2 => some (.pointer (some ⟨g, 0, none⟩)) | 3 => some (.pointer (some ⟨g, 8, none⟩)) | 4 => some tv | 5 => some (.pointer (some ⟨g, 0, none⟩)) | 6 => some (.string ub) | 8 => some (.pointer (some ⟨g, 0, none⟩)) | 9 => some (.pointer (some ⟨g, 8, none⟩)) | _ => none⟩ := ⟨_, rfl⟩
  have H0 : FldR.S FF (fun _ => false) W1.drew := by rw [hFF]; exact ⟨fun _ => hgW, fun _ => hR1.1.weaken fun _ h => h.2, (Keep.refl _ W1).drew⟩
  refine wp_region_done (FldR.S FF) (FldR.P FF) (by kernel_rfl) (by kernel_rfl) (by kernel_rfl) H0 ?hs ?hd
  case hs =>
   rw [hFF]
   refine DSteps.cons ?_ (DSteps.cons ?_ (DSteps.cons ?_ (DSteps.cons ?_ (DSteps.cons ?_ (DSteps.cons ?_ (DSteps.cons ?_ (DSteps.cons ?_ (DSteps.cons ?_ (DSteps.cons ?_ (DSteps.cons ?_ (DSteps.nil)))))))))))
   · intro D2 a X hDi hDa _ hX hL hd
     refine ⟨rfl, ?_⟩
     have e0 : a.eval (.tmp 0) = .pointer (some ⟨g, 0, none⟩) := hL.far 0 (by kernel_rfl)
     exact wp_value (exec_move rfl e0) ⟨_, rfl, hX.more, fun _ _ _ h => h, FldR.P.mk rfl ⟨by simp, by simp, by simp⟩⟩
   · intro D2 a X hDi hDa _ hX hL hd
     refine ⟨rfl, ?_⟩
     have e0 : a.eval (.tmp 0) = .pointer (some ⟨g, 0, none⟩) := hL.far 0 (by kernel_rfl)
     exact wp_value (exec_move rfl e0) ⟨_, rfl, hX.more, fun _ _ _ h => h, FldR.P.mk rfl ⟨by simp, by simp, by simp⟩⟩
   · intro D2 a X hDi hDa _ hX hL hd
     refine ⟨rfl, ?_⟩
     have e0 : a.eval (.tmp 20) = .pointer (some ⟨g, 0, none⟩) := (hd 1 20 (by kernel_rfl) (by kernel_rfl)).is rfl
     exact wp_value (exec_nilCheck rfl e0) ⟨_, rfl, hX.more, fun _ _ _ h => h, FldR.P.mk rfl ⟨by simp, by simp, by simp⟩⟩
   · intro D2 a X hDi hDa _ hX hL hd
     refine ⟨rfl, ?_⟩
     have e0 : a.eval (.tmp 21) = .pointer (some ⟨g, 0, none⟩) := (hd 2 21 (by kernel_rfl) (by kernel_rfl)).is rfl
     exact wp_value (exec_fieldAddr rfl e0 (FS4 X)) ⟨_, rfl, hX.more, fun _ _ _ h => h, FldR.P.mk rfl ⟨by simp, by simp, by simp⟩⟩
   · intro D2 a X hDi hDa _ hX hL hd
     refine ⟨rfl, ?_⟩
     have e0 : a.eval (.tmp 22) = .pointer (some ⟨g, 8, none⟩) := (hd 3 22 (by kernel_rfl) (by kernel_rfl)).is rfl
     exact wp_value (exec_load rfl e0 (L8 X (hX.1 (hDa 10 (by kernel_rfl))))) ⟨_, rfl, hX.more, fun _ _ _ h => h, FldR.P.mk rfl ⟨by simp, by simp, by simp⟩⟩
   · intro D2 a X hDi hDa _ hX hL hd
     refine ⟨rfl, ?_⟩
     have e0 : a.eval (.tmp 0) = .pointer (some ⟨g, 0, none⟩) := hL.far 0 (by kernel_rfl)
     exact wp_value (exec_move rfl e0) ⟨_, rfl, hX.more, fun _ _ _ h => h, FldR.P.mk rfl ⟨by simp, by simp, by simp⟩⟩
   · intro D2 a X hDi hDa _ hX hL hd
     refine ⟨rfl, ?_⟩
     have e0 : a.eval (.tmp 24) = .pointer (some ⟨g, 0, none⟩) := (hd 5 24 (by kernel_rfl) (by kernel_rfl)).is rfl
     refine wp_enter (exec_call (vs := #[.pointer (some ⟨g, 0, none⟩)]) rfl (by simp only [List.map_toArray, List.map_cons, List.map_nil, e0]) Tryz.func64 rfl rfl) ?_
     refine (CUN.out X (hX.1 (hDa 10 (by kernel_rfl))) hX.2.2).mono ?_
     rintro e X2 ⟨rfl, hb⟩
     exact ⟨_, rfl, _, rfl, (hX.below hb).more, fun _ _ _ h => h.below hb, FldR.P.mk rfl ⟨by simp, by simp, by simp⟩⟩
   · intro D2 a X hDi hDa _ hX hL hd
     refine ⟨rfl, ?_⟩
     have e0 : a.eval (.tmp 23) = tv := (hd 4 23 (by kernel_rfl) (by kernel_rfl)).is rfl
     have e1 : a.eval (.tmp 25) = .string ub := (hd 6 25 (by kernel_rfl) (by kernel_rfl)).is rfl
     have h28 := hDa 10 (by kernel_rfl)
     obtain ⟨v', X2, hrun, ho2, hk2⟩ := append_st (P := Tryz.prog) X 35 9 5 Tryz.underlying35 Tryz.underlying9 tinfo5 (hX.2.1 hDi) ub hlm
     exact wp_append_run rfl e0 e1 (hrun _) ⟨v', rfl, hX.app htg h28 hk2, fun j u hj h => h.app htl hk2 (fun e => by subst e; rw [hDi] at hj; cases hj) (fun e => by subst e; rw [h28] at hj; cases hj), FldR.P.row rfl ⟨by simp, by simp⟩ (FldR.row_of hX.2.2.size hgF htg ho2 rfl)⟩
   · intro D2 a X hDi hDa _ hX hL hd
     refine ⟨rfl, ?_⟩
     have e0 : a.eval (.tmp 19) = .pointer (some ⟨g, 0, none⟩) := (hd 0 19 (by kernel_rfl) (by kernel_rfl)).is rfl
     exact wp_value (exec_nilCheck rfl e0) ⟨_, rfl, hX.more, fun _ _ _ h => h, FldR.P.mk rfl ⟨by simp, by simp, by simp⟩⟩
   · intro D2 a X hDi hDa _ hX hL hd
     refine ⟨rfl, ?_⟩
     have e0 : a.eval (.tmp 27) = .pointer (some ⟨g, 0, none⟩) := (hd 8 27 (by kernel_rfl) (by kernel_rfl)).is rfl
     exact wp_value (exec_fieldAddr rfl e0 (FS4 X)) ⟨_, rfl, hX.more, fun _ _ _ h => h, FldR.P.mk rfl ⟨by simp, by simp, by simp⟩⟩
   · intro D2 a X hDi hDa _ hX hL hd
     refine ⟨rfl, ?_⟩
     have e0 : a.eval (.tmp 28) = .pointer (some ⟨g, 8, none⟩) := (hd 9 28 (by kernel_rfl) (by kernel_rfl)).is rfl
     obtain ⟨ao, ln, cp, he, ho⟩ := (hd 7 26 (by kernel_rfl) (by kernel_rfl)).2.2.1 rfl
     have hc := hX.1 hDi
     exact wp_skipped (exec_store rfl e0 he (ST X _ _ _ hc)) ⟨undef, rfl, hX.store, fun j u hj h => h.store hgF (fun e => by subst e; rw [hDi] at hj; cases hj), FldR.P.last rfl ⟨by simp, by simp⟩ ⟨_, FldR.Row.store ⟨ao, ln, cp, rfl, by rw [← he]; exact ho⟩, S8 hc⟩⟩
  case hd =>
   intro D2 a X hAll hX hL hP hE
   obtain ⟨_, hp⟩ := hE 10 (by decide)
   rw [hFF] at hp hX
   obtain ⟨u, ⟨ao, ln, cp, rfl, ho⟩, hu⟩ := hp.2.2.2 rfl
   have hK := hX.2.2
   obtain ⟨f, ha, hf⟩ := hL.out [19, 20, 21, 22, 23, 24, 25, 26, 27, 28] rfl
   have HF := Lib.hid (And.intro ho (And.intro hu (And.intro hK (And.intro hCS (And.intro hk01 (And.intro hR1 (And.intro huL hD1)))))))
   clear hf hAll hP hX hL hE hp ho hu hK hCS FS4 L8 ST S8 htg htl hlm hgF H0 hFF hgW hk01 hR1 huL hD1 CUN hub hdt huz
   simp only [List.foldl_cons, List.foldl_nil, List.setIfInBounds_toArray, List.set_cons_zero, List.set_cons_succ] at ha
   subst ha
   go_wp2
   refine HQ _ _ _ _ (by intro l h; cases h) ?_
   go_ret2
   obtain ⟨ho, hu, hK, hCS, hk01, hR1, huL, hD1⟩ := HF.out
   subst hCS
   have e1 : text.length + ub.size = (text ++ unitL s i).length := by rw [huL, List.length_append]; rfl
   have e2 : u8V text ++ Lib.strCells ub = u8V (text ++ unitL s i) := by rw [huL]; simp [u8V, Lib.strCells]
   simp only at ho hu hK
   rw [e1, e2] at ho
   exact ⟨HW.out.trans ((Rows.belowg HD.out.1 HD.out.2 hk01).trans (hR1.belowt hD1 HD.out.2 hK)), rfl, .of hu HD.out.2 (hR1.text hD1 hK ho)⟩
set_option maxHeartbeats 8000000 in
set_option maxRecDepth 100000 in
theorem piece_quoted (s : ByteArray) (c : Sc) (r : Int) (D g : Nat) (w0 w : World) (hD0 : D ≤ w0.heap.size) (h5 : c.st = 5) (hS : ScAt D g s c w) (hE : ∀ X, KeepG D g w0 X → SEnv X) (hW : KeepG D g w0 w) (hr : 0 ≤ r) (h92 : r = 92 → c.here.2.2 < s.size) (hi : c.here.2.2 ≤ s.size) (hs : s.size ≤ 1048576) (hm : c.text.length ≤ 8388000) :
    Calls Tryz.prog 38 #[.pointer (some ⟨g, 0, none⟩), .int .i32 r] w (PieceOut D g s w0 (quotedS s c r)) := by
  have hD : D ≤ w.heap.size := Nat.le_trans hD0 hW.size
  have hE1 : ∀ X : World, KeepG D g w X → SEnv X := fun X hk => hE X (hW.trans hk)
  have HW := Lib.hid hW
  clear hE hW hD0
  obtain ⟨st, ⟨l1, c1, i⟩, ⟨l2, c2, i2⟩, text, ⟨l3, c3, i3⟩, bh, toks⟩ := c
  obtain ⟨tv, kv, hg, hDg, hR⟩ := hS
  simp only at h92 hi hm hR hg
  have hgl : g < w.heap.size := (Array.getElem?_eq_some_iff.1 hg).1
  have k1 : w.cell? ⟨g, 1, none⟩ = some (.int .i64 (st : Nat)) := by rw [Lib.cell_of_heap hg]; rfl
  have f1 : w.frozen? ⟨g, 1, none⟩ = false := by simp [World.frozen?, hg]
  have k2 : w.cell? ⟨g, 2, none⟩ = some (.int .i64 (l1 : Nat)) := by rw [Lib.cell_of_heap hg]; rfl
  have k3 : w.cell? ⟨g, 3, none⟩ = some (.int .i64 (c1 : Nat)) := by rw [Lib.cell_of_heap hg]; rfl
  have k4 : w.cell? ⟨g, 4, none⟩ = some (.int .i64 (i : Nat)) := by rw [Lib.cell_of_heap hg]; rfl
  have HG := Lib.hid hg
  have HR := Lib.hid (show Rows D g tv kv text toks w from hR)
  have HD := Lib.hid (And.intro hD hDg)
  have HE := Lib.hid hE1
  clear hR hE1 hD hDg
  simp only at h5
  subst h5
  have k1 : w.cell? ⟨g, 1, none⟩ = some (.int .i64 5) := k1
  by_cases r39 : r = 39
  · subst r39
    have hP : quotedS s ⟨5, (l1, c1, i), (l2, c2, i2), text, (l3, c3, i3), bh, toks⟩ 39 = .took ⟨6, (l1, c1, i), (l2, c2, i2), text, (l3, c3, i3), bh, toks⟩ := by unfold quotedS; rw [if_pos rfl]
    rw [hP]
    clear hP h92
    go_enter Tryz.func38, Tryz.ntmps38
    go_wp2
    refine wp_scope_far 4 fun F HQ HJ => ?_
    go_wp2
    refine wp_goto ?_
    refine HJ.out 3 0 _ _ _ (by rfl) ?_
    go_wp2
    refine HQ _ _ _ _ (by intro l h; cases h) ?_
    go_ret2
    have hk := keep_set (g := g) (k := 1) (u := .int .i64 6) (Keep.refl _ w)
    exact ⟨HW.out.trans (Rows.belowg HD.out.1 HD.out.2 hk), rfl, .of (set_1 (z := 6) HG.out) HD.out.2 (HR.out.keepg hk)⟩
  have n39 : (r == 39) = false := by simpa using r39
  have hP : quotedS s ⟨5, (l1, c1, i), (l2, c2, i2), text, (l3, c3, i3), bh, toks⟩ r = .took ⟨5, (l1, c1, i), (l2, c2, i2), text ++ unitL s i, (l3, c3, i3), bh, toks⟩ := by skip; unfold quotedS; rw [if_neg r39]
  rw [hP]
  clear hP h92
  go_enter Tryz.func38, Tryz.ntmps38
  go_wp2
  refine wp_scope_far 4 fun F HQ HJ => ?_
  go_wp2
  refine wp_goto ?_
  refine HJ.out 3 0 _ _ _ (by rfl) ?_
  go_wp2
  obtain ⟨ub, hub⟩ : ∃ ub, s.extract i (i + unitW s i) = ub := ⟨_, rfl⟩
  have huL : unitL s i = ub.data.toList := by unfold unitL; rw [hub]
  have huz : ub.size ≤ 4 := by rw [← hub, ByteArray.size_extract]; have := unitW_bd s i hi; omega
  obtain ⟨CS, hCS⟩ : ∃ CS : Value → Array Value, CS = fun u => scC s (5 : Nat) (l1 : Nat) (c1 : Nat) (i : Nat) (l2 : Nat) (c2 : Nat) (i2 : Nat) u (l3 : Nat) (c3 : Nat) (i3 : Nat) (bh : Nat) kv := ⟨_, rfl⟩
  have hk01 : Keep (fun b => b = g) w (w) := Keep.refl _ w
  have hgW : (w).heap[g]? = some (.cells (CS tv) 43 (0, 0)) := by rw [hCS]; exact HG.out
  generalize w = W1 at *
  have hR1 := HR.out.keepg hk01
  have hD1 : D ≤ W1.heap.size := Nat.le_trans HD.out.1 hk01.size
  have hgF : g < W1.heap.size := (Array.getElem?_eq_some_iff.1 hgW).1
  have htg : tv.ownBlock ≠ some g := fun h => (hR1.1.2 g h).2 rfl
  have htl : ∀ b, tv.ownBlock = some b → b < W1.heap.size := fun b h => (hR1.1.1.lt b h).2
  have hlm : text.length + ub.size ≤ 140737488355328 := by omega
  have hdt : ∀ b, b = g ∨ tv.ownBlock = some b → b = g ∨ D ≤ b := fun b h => by
    rcases h with h | h
    · exact .inl h
    · exact .inr (hR1.1.2 b h).1
  have CUN : Hid (∀ X : World, X.heap[g]? = some (.cells (CS tv) 43 (0, 0)) → Keep (fun b => b = g ∨ tv.ownBlock = some b) W1 X → Calls Tryz.prog 64 #[.pointer (some ⟨g, 0, none⟩)] X fun e w' => e = .returned (.string ub) ∧ Below X.heap.size X w') := Lib.hid fun X hX hk => by
    rw [← hub]
    subst hCS
    exact sunit_any s _ _ _ _ _ _ _ _ _ _ i tv kv g X hX hi (by omega) (HE.out X ((hk01.weaken fun _ _ e => hdt _ (Or.inl e)).trans (hk.weaken fun _ _ e => hdt _ e)))
  have FS4 : ∀ W : World, (Instr.fieldAt 43 (.pointer (some ⟨g, 0, none⟩)) 4).run Tryz.prog W = .ok (.pointer (some ⟨g, 8, none⟩)) W := fun W => by go_simp
  have L8 : ∀ W : World, W.heap[g]? = some (.cells (CS tv) 43 (0, 0)) → (Instr.loadAt 35 (.pointer (some ⟨g, 8, none⟩))).run Tryz.prog W = .ok tv W := fun W h => by
    subst hCS
    have q : W.cell? ⟨g, 8, none⟩ = some tv := by rw [Lib.cell_of_heap h]; rfl
    go_simp
  have ST : ∀ (W : World) (ao : Option Addr) (m cap : Nat), W.heap[g]? = some (.cells (CS tv) 43 (0, 0)) → (Instr.storeAt 35 (.pointer (some ⟨g, 8, none⟩)) (.slice ao m cap)).run Tryz.prog W = .ok () (W.setCell ⟨g, 8, none⟩ (.slice ao m cap)) := fun W ao m cap h => by
    subst hCS
    have q : W.cell? ⟨g, 8, none⟩ = some tv := by rw [Lib.cell_of_heap h]; rfl
    have q2 : W.frozen? ⟨g, 8, none⟩ = false := by simp [World.frozen?, h]
    go_simp
  have S8 : ∀ {W : World} {u : Value}, W.heap[g]? = some (.cells (CS tv) 43 (0, 0)) → (W.setCell ⟨g, 8, none⟩ u).heap[g]? = some (.cells (CS u) 43 (0, 0)) := fun h => by subst hCS; exact set_8 h
  obtain ⟨FF, hFF⟩ : ∃ FF : FldR, FF = ⟨g, W1, tv, 5, 1, text.length, text.length + ub.size, u8V text, u8V text ++ Lib.strCells ub, 43, CS, #[], 7, 10, 100, fun k => match k with | 0 => some (.pointer (some ⟨g, 0, none⟩)) | 1 => some (.pointer (some ⟨g, 0, none⟩)) | 2 => some (.pointer (some ⟨g, 0, none⟩)) | 3 => some (.pointer (some ⟨g, 8, none⟩)) | 4 => some tv | 5 => some (.pointer (some ⟨g, 0, none⟩)) | 6 => some (.string ub) | 8 => some (.pointer (some ⟨g, 0, none⟩)) | 9 => some (.pointer (some ⟨g, 8, none⟩)) | _ => none⟩ := ⟨_, rfl⟩
  have H0 : FldR.S FF (fun _ => false) W1.drew := by rw [hFF]; exact ⟨fun _ => hgW, fun _ => hR1.1.weaken fun _ h => h.2, (Keep.refl _ W1).drew⟩
  refine wp_region_done (FldR.S FF) (FldR.P FF) (by kernel_rfl) (by kernel_rfl) (by kernel_rfl) H0 ?hs ?hd
  case hs =>
   rw [hFF]
   refine DSteps.cons ?_ (DSteps.cons ?_ (DSteps.cons ?_ (DSteps.cons ?_ (DSteps.cons ?_ (DSteps.cons ?_ (DSteps.cons ?_ (DSteps.cons ?_ (DSteps.cons ?_ (DSteps.cons ?_ (DSteps.cons ?_ (DSteps.nil)))))))))))
   · intro D2 a X hDi hDa _ hX hL hd
     refine ⟨rfl, ?_⟩
     have e0 : a.eval (.tmp 0) = .pointer (some ⟨g, 0, none⟩) := hL.far 0 (by kernel_rfl)
     exact wp_value (exec_move rfl e0) ⟨_, rfl, hX.more, fun _ _ _ h => h, FldR.P.mk rfl ⟨by simp, by simp, by simp⟩⟩
   · intro D2 a X hDi hDa _ hX hL hd
     refine ⟨rfl, ?_⟩
     have e0 : a.eval (.tmp 0) = .pointer (some ⟨g, 0, none⟩) := hL.far 0 (by kernel_rfl)
     exact wp_value (exec_move rfl e0) ⟨_, rfl, hX.more, fun _ _ _ h => h, FldR.P.mk rfl ⟨by simp, by simp, by simp⟩⟩
   · intro D2 a X hDi hDa _ hX hL hd
     refine ⟨rfl, ?_⟩
     have e0 : a.eval (.tmp 60) = .pointer (some ⟨g, 0, none⟩) := (hd 1 60 (by kernel_rfl) (by kernel_rfl)).is rfl
     exact wp_value (exec_nilCheck rfl e0) ⟨_, rfl, hX.more, fun _ _ _ h => h, FldR.P.mk rfl ⟨by simp, by simp, by simp⟩⟩
   · intro D2 a X hDi hDa _ hX hL hd
     refine ⟨rfl, ?_⟩
     have e0 : a.eval (.tmp 61) = .pointer (some ⟨g, 0, none⟩) := (hd 2 61 (by kernel_rfl) (by kernel_rfl)).is rfl
     exact wp_value (exec_fieldAddr rfl e0 (FS4 X)) ⟨_, rfl, hX.more, fun _ _ _ h => h, FldR.P.mk rfl ⟨by simp, by simp, by simp⟩⟩
   · intro D2 a X hDi hDa _ hX hL hd
     refine ⟨rfl, ?_⟩
     have e0 : a.eval (.tmp 62) = .pointer (some ⟨g, 8, none⟩) := (hd 3 62 (by kernel_rfl) (by kernel_rfl)).is rfl
     exact wp_value (exec_load rfl e0 (L8 X (hX.1 (hDa 10 (by kernel_rfl))))) ⟨_, rfl, hX.more, fun _ _ _ h => h, FldR.P.mk rfl ⟨by simp, by simp, by simp⟩⟩
   · intro D2 a X hDi hDa _ hX hL hd
     refine ⟨rfl, ?_⟩
     have e0 : a.eval (.tmp 0) = .pointer (some ⟨g, 0, none⟩) := hL.far 0 (by kernel_rfl)
     exact wp_value (exec_move rfl e0) ⟨_, rfl, hX.more, fun _ _ _ h => h, FldR.P.mk rfl ⟨by simp, by simp, by simp⟩⟩
   · intro D2 a X hDi hDa _ hX hL hd
     refine ⟨rfl, ?_⟩
     have e0 : a.eval (.tmp 64) = .pointer (some ⟨g, 0, none⟩) := (hd 5 64 (by kernel_rfl) (by kernel_rfl)).is rfl
     refine wp_enter (exec_call (vs := #[.pointer (some ⟨g, 0, none⟩)]) rfl (by simp only [List.map_toArray, List.map_cons, List.map_nil, e0]) Tryz.func64 rfl rfl) ?_
     refine (CUN.out X (hX.1 (hDa 10 (by kernel_rfl))) hX.2.2).mono ?_
     rintro e X2 ⟨rfl, hb⟩
     exact ⟨_, rfl, _, rfl, (hX.below hb).more, fun _ _ _ h => h.below hb, FldR.P.mk rfl ⟨by simp, by simp, by simp⟩⟩
   · intro D2 a X hDi hDa _ hX hL hd
     refine ⟨rfl, ?_⟩
     have e0 : a.eval (.tmp 63) = tv := (hd 4 63 (by kernel_rfl) (by kernel_rfl)).is rfl
     have e1 : a.eval (.tmp 65) = .string ub := (hd 6 65 (by kernel_rfl) (by kernel_rfl)).is rfl
     have h28 := hDa 10 (by kernel_rfl)
     obtain ⟨v', X2, hrun, ho2, hk2⟩ := append_st (P := Tryz.prog) X 35 9 5 Tryz.underlying35 Tryz.underlying9 tinfo5 (hX.2.1 hDi) ub hlm
     exact wp_append_run rfl e0 e1 (hrun _) ⟨v', rfl, hX.app htg h28 hk2, fun j u hj h => h.app htl hk2 (fun e => by subst e; rw [hDi] at hj; cases hj) (fun e => by subst e; rw [h28] at hj; cases hj), FldR.P.row rfl ⟨by simp, by simp⟩ (FldR.row_of hX.2.2.size hgF htg ho2 rfl)⟩
   · intro D2 a X hDi hDa _ hX hL hd
     refine ⟨rfl, ?_⟩
     have e0 : a.eval (.tmp 59) = .pointer (some ⟨g, 0, none⟩) := (hd 0 59 (by kernel_rfl) (by kernel_rfl)).is rfl
     exact wp_value (exec_nilCheck rfl e0) ⟨_, rfl, hX.more, fun _ _ _ h => h, FldR.P.mk rfl ⟨by simp, by simp, by simp⟩⟩
   · intro D2 a X hDi hDa _ hX hL hd
     refine ⟨rfl, ?_⟩
     have e0 : a.eval (.tmp 67) = .pointer (some ⟨g, 0, none⟩) := (hd 8 67 (by kernel_rfl) (by kernel_rfl)).is rfl
     exact wp_value (exec_fieldAddr rfl e0 (FS4 X)) ⟨_, rfl, hX.more, fun _ _ _ h => h, FldR.P.mk rfl ⟨by simp, by simp, by simp⟩⟩
   · intro D2 a X hDi hDa _ hX hL hd
     refine ⟨rfl, ?_⟩
     have e0 : a.eval (.tmp 68) = .pointer (some ⟨g, 8, none⟩) := (hd 9 68 (by kernel_rfl) (by kernel_rfl)).is rfl
     obtain ⟨ao, ln, cp, he, ho⟩ := (hd 7 66 (by kernel_rfl) (by kernel_rfl)).2.2.1 rfl
     have hc := hX.1 hDi
     exact wp_skipped (exec_store rfl e0 he (ST X _ _ _ hc)) ⟨undef, rfl, hX.store, fun j u hj h => h.store hgF (fun e => by subst e; rw [hDi] at hj; cases hj), FldR.P.last rfl ⟨by simp, by simp⟩ ⟨_, FldR.Row.store ⟨ao, ln, cp, rfl, by rw [← he]; exact ho⟩, S8 hc⟩⟩
  case hd =>
   intro D2 a X hAll hX hL hP hE
   obtain ⟨_, hp⟩ := hE 10 (by decide)
   rw [hFF] at hp hX
   obtain ⟨u, ⟨ao, ln, cp, rfl, ho⟩, hu⟩ := hp.2.2.2 rfl
   have hK := hX.2.2
   obtain ⟨f, ha, hf⟩ := hL.out [59, 60, 61, 62, 63, 64, 65, 66, 67, 68] rfl
   have HF := Lib.hid (And.intro ho (And.intro hu (And.intro hK (And.intro hCS (And.intro hk01 (And.intro hR1 (And.intro huL hD1)))))))
   clear hf hAll hP hX hL hE hp ho hu hK hCS FS4 L8 ST S8 htg htl hlm hgF H0 hFF hgW hk01 hR1 huL hD1 CUN hub hdt huz
   simp only [List.foldl_cons, List.foldl_nil, List.setIfInBounds_toArray, List.set_cons_zero, List.set_cons_succ] at ha
   subst ha
   go_wp2
   refine HQ _ _ _ _ (by intro l h; cases h) ?_
   go_ret2
   obtain ⟨ho, hu, hK, hCS, hk01, hR1, huL, hD1⟩ := HF.out
   subst hCS
   have e1 : text.length + ub.size = (text ++ unitL s i).length := by rw [huL, List.length_append]; rfl
   have e2 : u8V text ++ Lib.strCells ub = u8V (text ++ unitL s i) := by rw [huL]; simp [u8V, Lib.strCells]
   simp only at ho hu hK
   rw [e1, e2] at ho
   exact ⟨HW.out.trans ((Rows.belowg HD.out.1 HD.out.2 hk01).trans (hR1.belowt hD1 HD.out.2 hK)), rfl, .of hu HD.out.2 (hR1.text hD1 hK ho)⟩
set_option maxHeartbeats 8000000 in
set_option maxRecDepth 100000 in
theorem piece_closing (s : ByteArray) (c : Sc) (r : Int) (D g : Nat) (w0 w : World) (hD0 : D ≤ w0.heap.size) (h5 : c.st = 6) (hS : ScAt D g s c w) (hE : ∀ X, KeepG D g w0 X → SEnv X) (hW : KeepG D g w0 w) (hr : 0 ≤ r) (h92 : r = 92 → c.here.2.2 < s.size) (hi : c.here.2.2 ≤ s.size) (hs : s.size ≤ 1048576) (hm : c.text.length ≤ 8388000) :
    Calls Tryz.prog 38 #[.pointer (some ⟨g, 0, none⟩), .int .i32 r] w (PieceOut D g s w0 (closingS s c r)) := by
  have hD : D ≤ w.heap.size := Nat.le_trans hD0 hW.size
  have hE1 : ∀ X : World, KeepG D g w X → SEnv X := fun X hk => hE X (hW.trans hk)
  have HW := Lib.hid hW
  clear hE hW hD0
  obtain ⟨st, ⟨l1, c1, i⟩, ⟨l2, c2, i2⟩, text, ⟨l3, c3, i3⟩, bh, toks⟩ := c
  obtain ⟨tv, kv, hg, hDg, hR⟩ := hS
  simp only at h92 hi hm hR hg
  have hgl : g < w.heap.size := (Array.getElem?_eq_some_iff.1 hg).1
  have k1 : w.cell? ⟨g, 1, none⟩ = some (.int .i64 (st : Nat)) := by rw [Lib.cell_of_heap hg]; rfl
  have f1 : w.frozen? ⟨g, 1, none⟩ = false := by simp [World.frozen?, hg]
  have k2 : w.cell? ⟨g, 2, none⟩ = some (.int .i64 (l1 : Nat)) := by rw [Lib.cell_of_heap hg]; rfl
  have k3 : w.cell? ⟨g, 3, none⟩ = some (.int .i64 (c1 : Nat)) := by rw [Lib.cell_of_heap hg]; rfl
  have k4 : w.cell? ⟨g, 4, none⟩ = some (.int .i64 (i : Nat)) := by rw [Lib.cell_of_heap hg]; rfl
  have HG := Lib.hid hg
  have HR := Lib.hid (show Rows D g tv kv text toks w from hR)
  have HD := Lib.hid (And.intro hD hDg)
  have HE := Lib.hid hE1
  clear hR hE1 hD hDg
  simp only at h5
  subst h5
  have k1 : w.cell? ⟨g, 1, none⟩ = some (.int .i64 6) := k1
  by_cases r39 : r = 39
  · subst r39
    have hP : closingS s ⟨6, (l1, c1, i), (l2, c2, i2), text, (l3, c3, i3), bh, toks⟩ 39 = .took ⟨5, (l1, c1, i), (l2, c2, i2), text ++ [39], (l3, c3, i3), bh, toks⟩ := by unfold closingS; rw [if_pos rfl]
    rw [hP]
    clear hP h92
    obtain ⟨ti, hti, hz, hs1, hb1⟩ := info_parts tinfo5
    have hbA : Below w.heap.size w (w.alloc (.cells #[.int .u8 39] 5)) := (Below.refl _ w).alloc (Nat.le_refl _) _
    have hRA := HR.out.below hbA
    have hbl : (w.alloc (.cells #[.int .u8 39] 5)).heap[w.heap.size]? = some (.cells #[.int .u8 39] 5 (0, 0)) := World.alloc_heap_new w _
    have hlm : (text.length + 1) * 1 ≤ 140737488355328 := by omega
    obtain ⟨g2, cap, w2, hr2, ho2, hgr, hat, _⟩ := run_append_lies (P := Tryz.prog) (w.alloc (.cells #[.int .u8 39] 5)) 35 35 0 5 ti (.int .u8 0) 1 1 Tryz.underlying35 hti hz hs1 hb1 rfl (by decide) tv text.length (u8V text) hRA.1.1 ⟨w.heap.size, 0, none⟩ 1 1 [.int .u8 39] rfl (World.news_of_block hbl) (by intro u hu; simp at hu; subst hu; rfl) (by decide) (by unfold maxLen; omega) hlm (Nat.zero_le _) _ rfl
    have hrA : ∀ ty, (Builtin.append_ #[35, 35] ty #[tv, .slice (some ⟨w.heap.size, 0, none⟩) 1 1]).run Tryz.prog (w.alloc (.cells #[.int .u8 39] 5)) = .ok (.slice (some ⟨g2, 0, none⟩) (text.length + 1) cap) w2 := fun ty => hr2
    have hk2 : Keep (fun b => tv.ownBlock = some b) (w.alloc (.cells #[.int .u8 39] 5)) w2 := keep_grown hgr
    have htg : tv.ownBlock ≠ some g := fun h => (hRA.1.2 g h).2 rfl
    have hgA : (w.alloc (.cells #[.int .u8 39] 5)).heap[g]? = some (.cells (scC s (6 : Nat) (l1 : Nat) (c1 : Nat) (i : Nat) (l2 : Nat) (c2 : Nat) (i2 : Nat) tv (l3 : Nat) (c3 : Nat) (i3 : Nat) (bh : Nat) kv) 43 (0, 0)) := (hbA.block g hgl).trans HG.out
    have hg2 := hk2.heap hgA htg
    have q1 : w2.cell? ⟨g, 1, none⟩ = some (.int .i64 6) := by rw [Lib.cell_of_heap hg2]; rfl
    have e1 : w2.frozen? ⟨g, 1, none⟩ = false := by simp [World.frozen?, hg2]
    have q8 : w2.cell? ⟨g, 8, none⟩ = some tv := by rw [Lib.cell_of_heap hg2]; rfl
    have e8 : w2.frozen? ⟨g, 8, none⟩ = false := by simp [World.frozen?, hg2]
    have a8 : (w.alloc (.cells #[.int .u8 39] 5)).cell? ⟨g, 8, none⟩ = some tv := by rw [Lib.cell_of_heap hgA]; rfl
    have k8 : w.cell? ⟨g, 8, none⟩ = some tv := by rw [Lib.cell_of_heap HG.out]; rfl
    have hzA : (w.alloc (.cells #[.int .u8 39] 5)).heap.size = w.heap.size + 1 := by simp
    have HRun := Lib.hid hrA
    have HF := Lib.hid (And.intro ho2 (And.intro hk2 (And.intro hg2 (And.intro hat (And.intro htg (And.intro hRA (And.intro hbA hzA)))))))
    clear hrA ho2 hgr hat hk2 hg2 hgA htg hti hz hs1 hb1 hbl hRA hbA hr2 hlm hzA a8
    go_enter Tryz.func38, Tryz.ntmps38
    go_wp2
    refine wp_scope_far 4 fun F HQ HJ => ?_
    go_wp2
    refine wp_goto ?_
    refine HJ.out 3 1 _ _ _ (by rfl) ?_
    go_wp2_with (at_builtin; refine wpList_append_eq rfl rfl rfl rfl HRun.out ?_)
    refine HQ _ _ _ _ (by intro l h; cases h) ?_
    go_ret2
    obtain ⟨ho2, hk2, hg2, hat, htg, hRA, hbA, hzA⟩ := HF.out
    have hk3 := keep_set (g := g) (k := 1) (u := .int .i64 5) (keep_set (g := g) (k := 8) (u := .slice (some ⟨g2, 0, none⟩) (text.length + 1) cap) (Keep.refl _ w2))
    have hk4 : Keep (fun b => b = g ∨ tv.ownBlock = some b) w _ := ((Keep.of_all hbA).trans (hk2.weaken fun _ _ h => .inr h)).trans (hk3.weaken fun _ _ h => .inl h)
    have hoo : OwnS (fun b => (tv.ownBlock = some b ∨ w.heap.size ≤ b) ∧ b ≠ g) 5 1 (.slice (some ⟨g2, 0, none⟩) (text.length + 1) cap) (text.length + 1) (u8V text ++ [.int .u8 39]) w2 := ⟨ho2, fun b hb => by
      have : g2 = b := by simpa [Value.ownBlock] using hb
      subst this
      rcases hat with h | h
      · exact ⟨.inl h, fun e => htg (e ▸ h)⟩
      · exact ⟨.inr (by omega), by omega⟩⟩
    have ho3 := hoo.keep hk3 (fun b e h => h.2 e)
    have x1 : text.length + 1 = (text ++ [39]).length := by simp
    have x2 : u8V text ++ [.int .u8 39] = u8V (text ++ [39]) := by simp [u8V]
    rw [x2] at ho3
    exact ⟨HW.out.trans (HR.out.belowt HD.out.1 HD.out.2 hk4), rfl, .of (set_1 (z := 5) (set_8 (u := .slice (some ⟨g2, 0, none⟩) (text.length + 1) cap) hg2)) HD.out.2 (HR.out.text HD.out.1 hk4 (by rw [← x1]; exact ho3))⟩
  have m39 : (r != 39) = true := by simpa using r39
  by_cases r92 : r = 92
  · subst r92
    obtain ⟨o, ho⟩ : ∃ o, unescV (s.extract i s.size) = o := ⟨_, rfl⟩
    cases o with
    | none =>
      have hP : closingS s ⟨6, (l1, c1, i), (l2, c2, i2), text, (l3, c3, i3), bh, toks⟩ 92 = .bad 9 (l1, c1, i) := by unfold closingS; rw [if_neg (by first | exact r39 | decide)]; unfold plainS; rw [if_neg (by decide), if_pos rfl]; simp only; rw [ho]
      rw [hP]
      have hi92 : i < s.size := h92 rfl
      clear hP h92
      go_enter Tryz.func38, Tryz.ntmps38
      go_wp2
      refine wp_scope_far 4 fun F HQ HJ => ?_
      go_wp2
      refine wp_goto ?_
      refine HJ.out 3 1 _ _ _ (by rfl) ?_
      go_wp2
      refine wp_goto ?_
      refine HJ.out 2 3 _ _ _ (by rfl) ?_
      have CE := Lib.hid (escape_raw s 4 l2 c2 i2 l3 c3 i3 bh l1 c1 i tv kv g (w.setCell ⟨g, 1, none⟩ (.int .i64 4)) text.length (u8V text) (set_1 HG.out) (((HR.out.keepg (keep_set (Keep.refl _ w))).1).weaken fun _ h => h.2) (by omega) hi92 hs (HE.out _ ((keep_set (g := g) (Keep.refl _ w)).weaken fun _ _ e => .inl e)))
      rw [ho] at CE
      clear ho hi92
      go_wp2_with fail
      refine CE.out.mono ?_
      rintro e w2 ⟨rfl, hb2⟩
      have HB2 := Lib.hid hb2
      clear hb2
      go_wp2
      refine HQ _ _ _ _ (by intro l h; cases h) ?_
      go_ret2
      have hb0 := Rows.belowg HD.out.1 HD.out.2 (keep_set (g := g) (k := 1) (u := .int .i64 4) (Keep.refl _ w))
      exact ⟨HW.out.trans (hb0.trans (toG HB2.out)), rfl⟩
    | some z =>
      obtain ⟨t, k⟩ := z
      have hP : closingS s ⟨6, (l1, c1, i), (l2, c2, i2), text, (l3, c3, i3), bh, toks⟩ 92 = .took ⟨7, (l1, c1, i), (l2, c2, i2), text ++ t, (l3, c3, i3), i + k, toks⟩ := by unfold closingS; rw [if_neg (by first | exact r39 | decide)]; unfold plainS; rw [if_neg (by decide), if_pos rfl]; simp only; rw [ho]
      rw [hP]
      have hi92 : i < s.size := h92 rfl
      clear hP h92
      go_enter Tryz.func38, Tryz.ntmps38
      go_wp2
      refine wp_scope_far 4 fun F HQ HJ => ?_
      go_wp2
      refine wp_goto ?_
      refine HJ.out 3 1 _ _ _ (by rfl) ?_
      go_wp2
      refine wp_goto ?_
      refine HJ.out 2 3 _ _ _ (by rfl) ?_
      have CE := Lib.hid (escape_raw s 4 l2 c2 i2 l3 c3 i3 bh l1 c1 i tv kv g (w.setCell ⟨g, 1, none⟩ (.int .i64 4)) text.length (u8V text) (set_1 HG.out) (((HR.out.keepg (keep_set (Keep.refl _ w))).1).weaken fun _ h => h.2) (by omega) hi92 hs (HE.out _ ((keep_set (g := g) (Keep.refl _ w)).weaken fun _ _ e => .inl e)))
      rw [ho] at CE
      clear ho hi92
      go_wp2_with fail
      refine CE.out.mono ?_
      rintro e w2 ⟨rfl, h2⟩
      have H2 := Lib.hid h2
      clear h2
      go_wp2
      refine HQ _ _ _ _ (by intro l h; cases h) ?_
      go_ret2
      obtain ⟨tv', hg2, ho2, hk2⟩ := H2.out
      have hk := keep_set (g := g) (k := 1) (u := .int .i64 4) (Keep.refl _ w)
      have hz : (w.setCell ⟨g, 1, none⟩ (.int .i64 4)).heap.size = w.heap.size := by simp
      have hR1 := HR.out.keepg hk
      have hD1 : D ≤ (w.setCell ⟨g, 1, none⟩ (.int .i64 4)).heap.size := by rw [hz]; exact HD.out.1
      have e1 : text.length + t.length = (text ++ t).length := by simp
      have e2 : u8V text ++ u8V t = u8V (text ++ t) := by simp [u8V]
      rw [e1, e2] at ho2
      exact ⟨HW.out.trans ((Rows.belowg HD.out.1 HD.out.2 hk).trans (hR1.belowt hD1 HD.out.2 hk2)), rfl, .of hg2 HD.out.2 (hR1.text hD1 hk2 ho2)⟩
  have n39 : (r == 39) = false := by simpa using r39
  have n92 : (r == 92) = false := by simpa using r92
  by_cases hb : isBlk r = true
  · skip
    have hP : closingS s ⟨6, (l1, c1, i), (l2, c2, i2), text, (l3, c3, i3), bh, toks⟩ r = .left ⟨4, (l1, c1, i), (l2, c2, i2), text, (l3, c3, i3), bh, toks⟩ := by unfold closingS; rw [if_neg (by first | exact r39 | decide)]; unfold plainS; rw [if_neg r39, if_neg r92, if_pos hb]
    rw [hP]
    have CB := Lib.hid (fun V => isBlank_any r V)
    rw [hb] at CB
    clear hP h92 hb hr
    go_enter Tryz.func38, Tryz.ntmps38
    go_wp2
    refine wp_scope_far 4 fun F HQ HJ => ?_
    go_wp2
    refine wp_goto ?_
    refine HJ.out 3 1 _ _ _ (by rfl) ?_
    go_wp2
    refine wp_goto ?_
    refine HJ.out 2 3 _ _ _ (by rfl) ?_
    go_wp2_with fail
    refine (CB.out _).mono ?_
    rintro e w' ⟨rfl, rfl⟩
    go_wp2
    refine HQ _ _ _ _ (by intro l h; cases h) ?_
    go_ret2
    have hk := keep_set (g := g) (k := 1) (u := .int .i64 4) (Keep.refl _ w)
    exact ⟨HW.out.trans (Rows.belowg HD.out.1 HD.out.2 hk), rfl, .of (set_1 (z := 4) HG.out) HD.out.2 (HR.out.keepg hk)⟩
  by_cases hg2 : isSgs r = true
  · skip
    have hP : closingS s ⟨6, (l1, c1, i), (l2, c2, i2), text, (l3, c3, i3), bh, toks⟩ r = .left ⟨4, (l1, c1, i), (l2, c2, i2), text, (l3, c3, i3), bh, toks⟩ := by unfold closingS; rw [if_neg (by first | exact r39 | decide)]; unfold plainS; rw [if_neg r39, if_neg r92, if_neg hb, if_pos hg2]
    rw [hP]
    have CB := Lib.hid (fun V => isBlank_any r V)
    rw [show isBlk r = false from by simpa using hb] at CB
    have CG := Lib.hid (fun V => isSigns_any r hr V)
    rw [hg2] at CG
    clear hP h92 hb hg2 hr
    go_enter Tryz.func38, Tryz.ntmps38
    go_wp2
    refine wp_scope_far 4 fun F HQ HJ => ?_
    go_wp2
    refine wp_goto ?_
    refine HJ.out 3 1 _ _ _ (by rfl) ?_
    go_wp2
    refine wp_goto ?_
    refine HJ.out 2 3 _ _ _ (by rfl) ?_
    go_wp2_with fail
    refine (CB.out _).mono ?_
    rintro e w' ⟨rfl, rfl⟩
    go_wp2_with fail
    refine (CG.out _).mono ?_
    rintro e w2 ⟨rfl, hb2⟩
    have HB2 := Lib.hid hb2
    clear hb2
    go_wp2
    refine HQ _ _ _ _ (by intro l h; cases h) ?_
    go_ret2
    have hk := keep_set (g := g) (k := 1) (u := .int .i64 4) (Keep.refl _ w)
    have hg2 := (HB2.out.block g (by simpa using hgl)).trans (set_1 (z := 4) HG.out)
    have hb0 := Rows.belowg HD.out.1 HD.out.2 hk
    exact ⟨HW.out.trans (hb0.trans (toG HB2.out)), rfl, .of hg2 HD.out.2 ((HR.out.keepg hk).below HB2.out)⟩
  have hP : closingS s ⟨6, (l1, c1, i), (l2, c2, i2), text, (l3, c3, i3), bh, toks⟩ r = .took ⟨4, (l1, c1, i), (l2, c2, i2), text ++ unitL s i, (l3, c3, i3), bh, toks⟩ := by unfold closingS; rw [if_neg (by first | exact r39 | decide)]; unfold plainS; rw [if_neg r39, if_neg r92, if_neg hb, if_neg hg2]
  rw [hP]
  clear hP h92
  have CB := Lib.hid (fun V => isBlank_any r V)
  rw [show isBlk r = false from by simpa using hb] at CB
  have CG := Lib.hid (fun V => isSigns_any r hr V)
  rw [show isSgs r = false from by simpa using hg2] at CG
  clear hr
  go_enter Tryz.func38, Tryz.ntmps38
  go_wp2
  refine wp_scope_far 4 fun F HQ HJ => ?_
  go_wp2
  refine wp_goto ?_
  refine HJ.out 3 1 _ _ _ (by rfl) ?_
  go_wp2
  refine wp_goto ?_
  refine HJ.out 2 3 _ _ _ (by rfl) ?_
  go_wp2_with fail
  refine (CB.out _).mono ?_
  rintro e w' ⟨rfl, rfl⟩
  go_wp2_with fail
  refine (CG.out _).mono ?_
  rintro e w2 ⟨rfl, hb2⟩
  have HB2 := Lib.hid hb2
  clear hb2
  go_wp2
  obtain ⟨ub, hub⟩ : ∃ ub, s.extract i (i + unitW s i) = ub := ⟨_, rfl⟩
  have huL : unitL s i = ub.data.toList := by unfold unitL; rw [hub]
  have huz : ub.size ≤ 4 := by rw [← hub, ByteArray.size_extract]; have := unitW_bd s i hi; omega
  obtain ⟨CS, hCS⟩ : ∃ CS : Value → Array Value, CS = fun u => scC s 4 (l1 : Nat) (c1 : Nat) (i : Nat) (l2 : Nat) (c2 : Nat) (i2 : Nat) u (l3 : Nat) (c3 : Nat) (i3 : Nat) (bh : Nat) kv := ⟨_, rfl⟩
  have hk01 : Keep (fun b => b = g) w (w2) := (keep_set (g := g) (k := 1) (u := .int .i64 4) (Keep.refl _ w)).then (HB2.out.mono (by simp))
  have hgW : (w2).heap[g]? = some (.cells (CS tv) 43 (0, 0)) := by rw [hCS]; exact (HB2.out.block g (by simpa using hgl)).trans (set_1 (z := 4) HG.out)
  generalize w2 = W1 at *
  have hR1 := HR.out.keepg hk01
  have hD1 : D ≤ W1.heap.size := Nat.le_trans HD.out.1 hk01.size
  have hgF : g < W1.heap.size := (Array.getElem?_eq_some_iff.1 hgW).1
  have htg : tv.ownBlock ≠ some g := fun h => (hR1.1.2 g h).2 rfl
  have htl : ∀ b, tv.ownBlock = some b → b < W1.heap.size := fun b h => (hR1.1.1.lt b h).2
  have hlm : text.length + ub.size ≤ 140737488355328 := by omega
  have hdt : ∀ b, b = g ∨ tv.ownBlock = some b → b = g ∨ D ≤ b := fun b h => by
    rcases h with h | h
    · exact .inl h
    · exact .inr (hR1.1.2 b h).1
  have CUN : Hid (∀ X : World, X.heap[g]? = some (.cells (CS tv) 43 (0, 0)) → Keep (fun b => b = g ∨ tv.ownBlock = some b) W1 X → Calls Tryz.prog 64 #[.pointer (some ⟨g, 0, none⟩)] X fun e w' => e = .returned (.string ub) ∧ Below X.heap.size X w') := Lib.hid fun X hX hk => by
    rw [← hub]
    subst hCS
    exact sunit_any s _ _ _ _ _ _ _ _ _ _ i tv kv g X hX hi (by omega) (HE.out X ((hk01.weaken fun _ _ e => hdt _ (Or.inl e)).trans (hk.weaken fun _ _ e => hdt _ e)))
  have FS4 : ∀ W : World, (Instr.fieldAt 43 (.pointer (some ⟨g, 0, none⟩)) 4).run Tryz.prog W = .ok (.pointer (some ⟨g, 8, none⟩)) W := fun W => by go_simp
  have L8 : ∀ W : World, W.heap[g]? = some (.cells (CS tv) 43 (0, 0)) → (Instr.loadAt 35 (.pointer (some ⟨g, 8, none⟩))).run Tryz.prog W = .ok tv W := fun W h => by
    subst hCS
    have q : W.cell? ⟨g, 8, none⟩ = some tv := by rw [Lib.cell_of_heap h]; rfl
    go_simp
  have ST : ∀ (W : World) (ao : Option Addr) (m cap : Nat), W.heap[g]? = some (.cells (CS tv) 43 (0, 0)) → (Instr.storeAt 35 (.pointer (some ⟨g, 8, none⟩)) (.slice ao m cap)).run Tryz.prog W = .ok () (W.setCell ⟨g, 8, none⟩ (.slice ao m cap)) := fun W ao m cap h => by
    subst hCS
    have q : W.cell? ⟨g, 8, none⟩ = some tv := by rw [Lib.cell_of_heap h]; rfl
    have q2 : W.frozen? ⟨g, 8, none⟩ = false := by simp [World.frozen?, h]
    go_simp
  have S8 : ∀ {W : World} {u : Value}, W.heap[g]? = some (.cells (CS tv) 43 (0, 0)) → (W.setCell ⟨g, 8, none⟩ u).heap[g]? = some (.cells (CS u) 43 (0, 0)) := fun h => by subst hCS; exact set_8 h
  obtain ⟨FF, hFF⟩ : ∃ FF : FldR, FF = ⟨g, W1, tv, 5, 1, text.length, text.length + ub.size, u8V text, u8V text ++ Lib.strCells ub, 43, CS, #[], 7, 10, 100, fun k => match k with | 0 => some (.pointer (some ⟨g, 0, none⟩)) | 1 => some (.pointer (some ⟨g, 0, none⟩)) | 2 => some (.pointer (some ⟨g, 0, none⟩)) | 3 => some (.pointer (some ⟨g, 8, none⟩)) | 4 => some tv | 5 => some (.pointer (some ⟨g, 0, none⟩)) | 6 => some (.string ub) | 8 => some (.pointer (some ⟨g, 0, none⟩)) | 9 => some (.pointer (some ⟨g, 8, none⟩)) | _ => none⟩ := ⟨_, rfl⟩
  have H0 : FldR.S FF (fun _ => false) W1.drew := by rw [hFF]; exact ⟨fun _ => hgW, fun _ => hR1.1.weaken fun _ h => h.2, (Keep.refl _ W1).drew⟩
  refine wp_region_done (FldR.S FF) (FldR.P FF) (by kernel_rfl) (by kernel_rfl) (by kernel_rfl) H0 ?hs ?hd
  case hs =>
   rw [hFF]
   refine DSteps.cons ?_ (DSteps.cons ?_ (DSteps.cons ?_ (DSteps.cons ?_ (DSteps.cons ?_ (DSteps.cons ?_ (DSteps.cons ?_ (DSteps.cons ?_ (DSteps.cons ?_ (DSteps.cons ?_ (DSteps.cons ?_ (DSteps.nil)))))))))))
   · intro D2 a X hDi hDa _ hX hL hd
     refine ⟨rfl, ?_⟩
     have e0 : a.eval (.tmp 0) = .pointer (some ⟨g, 0, none⟩) := hL.far 0 (by kernel_rfl)
     exact wp_value (exec_move rfl e0) ⟨_, rfl, hX.more, fun _ _ _ h => h, FldR.P.mk rfl ⟨by simp, by simp, by simp⟩⟩
   · intro D2 a X hDi hDa _ hX hL hd
     refine ⟨rfl, ?_⟩
     have e0 : a.eval (.tmp 0) = .pointer (some ⟨g, 0, none⟩) := hL.far 0 (by kernel_rfl)
     exact wp_value (exec_move rfl e0) ⟨_, rfl, hX.more, fun _ _ _ h => h, FldR.P.mk rfl ⟨by simp, by simp, by simp⟩⟩
   · intro D2 a X hDi hDa _ hX hL hd
     refine ⟨rfl, ?_⟩
     have e0 : a.eval (.tmp 20) = .pointer (some ⟨g, 0, none⟩) := (hd 1 20 (by kernel_rfl) (by kernel_rfl)).is rfl
     exact wp_value (exec_nilCheck rfl e0) ⟨_, rfl, hX.more, fun _ _ _ h => h, FldR.P.mk rfl ⟨by simp, by simp, by simp⟩⟩
   · intro D2 a X hDi hDa _ hX hL hd
     refine ⟨rfl, ?_⟩
     have e0 : a.eval (.tmp 21) = .pointer (some ⟨g, 0, none⟩) := (hd 2 21 (by kernel_rfl) (by kernel_rfl)).is rfl
     exact wp_value (exec_fieldAddr rfl e0 (FS4 X)) ⟨_, rfl, hX.more, fun _ _ _ h => h, FldR.P.mk rfl ⟨by simp, by simp, by simp⟩⟩
   · intro D2 a X hDi hDa _ hX hL hd
     refine ⟨rfl, ?_⟩
     have e0 : a.eval (.tmp 22) = .pointer (some ⟨g, 8, none⟩) := (hd 3 22 (by kernel_rfl) (by kernel_rfl)).is rfl
     exact wp_value (exec_load rfl e0 (L8 X (hX.1 (hDa 10 (by kernel_rfl))))) ⟨_, rfl, hX.more, fun _ _ _ h => h, FldR.P.mk rfl ⟨by simp, by simp, by simp⟩⟩
   · intro D2 a X hDi hDa _ hX hL hd
     refine ⟨rfl, ?_⟩
     have e0 : a.eval (.tmp 0) = .pointer (some ⟨g, 0, none⟩) := hL.far 0 (by kernel_rfl)
     exact wp_value (exec_move rfl e0) ⟨_, rfl, hX.more, fun _ _ _ h => h, FldR.P.mk rfl ⟨by simp, by simp, by simp⟩⟩
   · intro D2 a X hDi hDa _ hX hL hd
     refine ⟨rfl, ?_⟩
     have e0 : a.eval (.tmp 24) = .pointer (some ⟨g, 0, none⟩) := (hd 5 24 (by kernel_rfl) (by kernel_rfl)).is rfl
     refine wp_enter (exec_call (vs := #[.pointer (some ⟨g, 0, none⟩)]) rfl (by simp only [List.map_toArray, List.map_cons, List.map_nil, e0]) Tryz.func64 rfl rfl) ?_
     refine (CUN.out X (hX.1 (hDa 10 (by kernel_rfl))) hX.2.2).mono ?_
     rintro e X2 ⟨rfl, hb⟩
     exact ⟨_, rfl, _, rfl, (hX.below hb).more, fun _ _ _ h => h.below hb, FldR.P.mk rfl ⟨by simp, by simp, by simp⟩⟩
   · intro D2 a X hDi hDa _ hX hL hd
     refine ⟨rfl, ?_⟩
     have e0 : a.eval (.tmp 23) = tv := (hd 4 23 (by kernel_rfl) (by kernel_rfl)).is rfl
     have e1 : a.eval (.tmp 25) = .string ub := (hd 6 25 (by kernel_rfl) (by kernel_rfl)).is rfl
     have h28 := hDa 10 (by kernel_rfl)
     obtain ⟨v', X2, hrun, ho2, hk2⟩ := append_st (P := Tryz.prog) X 35 9 5 Tryz.underlying35 Tryz.underlying9 tinfo5 (hX.2.1 hDi) ub hlm
     exact wp_append_run rfl e0 e1 (hrun _) ⟨v', rfl, hX.app htg h28 hk2, fun j u hj h => h.app htl hk2 (fun e => by subst e; rw [hDi] at hj; cases hj) (fun e => by subst e; rw [h28] at hj; cases hj), FldR.P.row rfl ⟨by simp, by simp⟩ (FldR.row_of hX.2.2.size hgF htg ho2 rfl)⟩
   · intro D2 a X hDi hDa _ hX hL hd
     refine ⟨rfl, ?_⟩
     have e0 : a.eval (.tmp 19) = .pointer (some ⟨g, 0, none⟩) := (hd 0 19 (by kernel_rfl) (by kernel_rfl)).is rfl
     exact wp_value (exec_nilCheck rfl e0) ⟨_, rfl, hX.more, fun _ _ _ h => h, FldR.P.mk rfl ⟨by simp, by simp, by simp⟩⟩
   · intro D2 a X hDi hDa _ hX hL hd
     refine ⟨rfl, ?_⟩
     have e0 : a.eval (.tmp 27) = .pointer (some ⟨g, 0, none⟩) := (hd 8 27 (by kernel_rfl) (by kernel_rfl)).is rfl
     exact wp_value (exec_fieldAddr rfl e0 (FS4 X)) ⟨_, rfl, hX.more, fun _ _ _ h => h, FldR.P.mk rfl ⟨by simp, by simp, by simp⟩⟩
   · intro D2 a X hDi hDa _ hX hL hd
     refine ⟨rfl, ?_⟩
     have e0 : a.eval (.tmp 28) = .pointer (some ⟨g, 8, none⟩) := (hd 9 28 (by kernel_rfl) (by kernel_rfl)).is rfl
     obtain ⟨ao, ln, cp, he, ho⟩ := (hd 7 26 (by kernel_rfl) (by kernel_rfl)).2.2.1 rfl
     have hc := hX.1 hDi
     exact wp_skipped (exec_store rfl e0 he (ST X _ _ _ hc)) ⟨undef, rfl, hX.store, fun j u hj h => h.store hgF (fun e => by subst e; rw [hDi] at hj; cases hj), FldR.P.last rfl ⟨by simp, by simp⟩ ⟨_, FldR.Row.store ⟨ao, ln, cp, rfl, by rw [← he]; exact ho⟩, S8 hc⟩⟩
  case hd =>
   intro D2 a X hAll hX hL hP hE
   obtain ⟨_, hp⟩ := hE 10 (by decide)
   rw [hFF] at hp hX
   obtain ⟨u, ⟨ao, ln, cp, rfl, ho⟩, hu⟩ := hp.2.2.2 rfl
   have hK := hX.2.2
   obtain ⟨f, ha, hf⟩ := hL.out [19, 20, 21, 22, 23, 24, 25, 26, 27, 28] rfl
   have HF := Lib.hid (And.intro ho (And.intro hu (And.intro hK (And.intro hCS (And.intro hk01 (And.intro hR1 (And.intro huL hD1)))))))
   clear hf hAll hP hX hL hE hp ho hu hK hCS FS4 L8 ST S8 htg htl hlm hgF H0 hFF hgW hk01 hR1 huL hD1 CUN hub hdt huz
   simp only [List.foldl_cons, List.foldl_nil, List.setIfInBounds_toArray, List.set_cons_zero, List.set_cons_succ] at ha
   subst ha
   go_wp2
   refine HQ _ _ _ _ (by intro l h; cases h) ?_
   go_ret2
   obtain ⟨ho, hu, hK, hCS, hk01, hR1, huL, hD1⟩ := HF.out
   subst hCS
   have e1 : text.length + ub.size = (text ++ unitL s i).length := by rw [huL, List.length_append]; rfl
   have e2 : u8V text ++ Lib.strCells ub = u8V (text ++ unitL s i) := by rw [huL]; simp [u8V, Lib.strCells]
   simp only at ho hu hK
   rw [e1, e2] at ho
   exact ⟨HW.out.trans ((Rows.belowg HD.out.1 HD.out.2 hk01).trans (hR1.belowt hD1 HD.out.2 hK)), rfl, .of hu HD.out.2 (hR1.text hD1 hK ho)⟩
set_option maxHeartbeats 8000000 in
set_option maxRecDepth 100000 in
theorem piece_escape (s : ByteArray) (c : Sc) (r : Int) (D g : Nat) (w0 w : World) (hD0 : D ≤ w0.heap.size) (h5 : c.st = 7) (hS : ScAt D g s c w) (hE : ∀ X, KeepG D g w0 X → SEnv X) (hW : KeepG D g w0 w) (hr : 0 ≤ r) (h92 : r = 92 → c.here.2.2 < s.size) (hi : c.here.2.2 ≤ s.size) (hs : s.size ≤ 1048576) (hm : c.text.length ≤ 8388000) :
    Calls Tryz.prog 38 #[.pointer (some ⟨g, 0, none⟩), .int .i32 r] w (PieceOut D g s w0 (escapeS s c r)) := by
  have hD : D ≤ w.heap.size := Nat.le_trans hD0 hW.size
  have hE1 : ∀ X : World, KeepG D g w X → SEnv X := fun X hk => hE X (hW.trans hk)
  have HW := Lib.hid hW
  clear hE hW hD0
  obtain ⟨st, ⟨l1, c1, i⟩, ⟨l2, c2, i2⟩, text, ⟨l3, c3, i3⟩, bh, toks⟩ := c
  obtain ⟨tv, kv, hg, hDg, hR⟩ := hS
  simp only at h92 hi hm hR hg
  have hgl : g < w.heap.size := (Array.getElem?_eq_some_iff.1 hg).1
  have k1 : w.cell? ⟨g, 1, none⟩ = some (.int .i64 (st : Nat)) := by rw [Lib.cell_of_heap hg]; rfl
  have f1 : w.frozen? ⟨g, 1, none⟩ = false := by simp [World.frozen?, hg]
  have k2 : w.cell? ⟨g, 2, none⟩ = some (.int .i64 (l1 : Nat)) := by rw [Lib.cell_of_heap hg]; rfl
  have k3 : w.cell? ⟨g, 3, none⟩ = some (.int .i64 (c1 : Nat)) := by rw [Lib.cell_of_heap hg]; rfl
  have k4 : w.cell? ⟨g, 4, none⟩ = some (.int .i64 (i : Nat)) := by rw [Lib.cell_of_heap hg]; rfl
  have HG := Lib.hid hg
  have HR := Lib.hid (show Rows D g tv kv text toks w from hR)
  have HD := Lib.hid (And.intro hD hDg)
  have HE := Lib.hid hE1
  clear hR hE1 hD hDg
  simp only at h5
  subst h5
  have k1 : w.cell? ⟨g, 1, none⟩ = some (.int .i64 7) := k1
  have k12 : w.cell? ⟨g, 12, none⟩ = some (.int .i64 (bh : Nat)) := by rw [Lib.cell_of_heap HG.out]; rfl
  by_cases hbh : bh ≤ i
  case neg =>
    have hP : escapeS s ⟨7, (l1, c1, i), (l2, c2, i2), text, (l3, c3, i3), bh, toks⟩ r = .took ⟨7, (l1, c1, i), (l2, c2, i2), text, (l3, c3, i3), bh, toks⟩ := by unfold escapeS; rw [if_neg hbh]
    rw [hP]
    have nbh : ¬ (bh : Int) ≤ (i : Int) := by omega
    clear hP h92 hbh
    go_enter Tryz.func38, Tryz.ntmps38
    go_wp2
    refine wp_scope_far 4 fun F HQ HJ => ?_
    go_wp2
    refine wp_goto ?_
    refine HJ.out 3 2 _ _ _ (by rfl) ?_
    go_wp2_with fail
    go_quiet (fail)
    go_wp2
    refine HQ _ _ _ _ (by intro l h; cases h) ?_
    go_ret2
    have hb := below_drewN (Below.refl w.heap.size w) nq
    exact ⟨HW.out.trans (toG hb), rfl, .of ((hb.block g hgl).trans HG.out) HD.out.2 (HR.out.below hb)⟩
  have ybh : (bh : Int) ≤ (i : Int) := by omega
  by_cases r39 : r = 39
  · subst r39
    have hP : escapeS s ⟨7, (l1, c1, i), (l2, c2, i2), text, (l3, c3, i3), bh, toks⟩ 39 = .took ⟨5, (l1, c1, i), (l2, c2, i2), text, (l1, c1, i), bh, toks⟩ := by unfold escapeS; rw [if_pos hbh]; unfold plainS; rw [if_pos rfl]
    rw [hP]
    clear hP h92
    go_enter Tryz.func38, Tryz.ntmps38
    go_wp2
    refine wp_scope_far 4 fun F HQ HJ => ?_
    go_wp2
    refine wp_goto ?_
    refine HJ.out 3 2 _ _ _ (by rfl) ?_
    go_wp2_with fail
    go_quiet (fail)
    go_wp2
    refine wp_goto ?_
    refine HJ.out 2 3 _ _ _ (by rfl) ?_
    have hbV := below_drewN (Below.refl w.heap.size w) nq
    have hW1 := HW.out.trans (toG hbV)
    have hgV := (hbV.block g hgl).trans HG.out
    have h39 := HR.out.below hbV
    have hDV := Nat.le_trans HD.out.1 hbV.size
    have hEV : ∀ X : World, KeepG D g (w.drewN nq) X → SEnv X := fun X hk => HE.out X ((Keep.of_all hbV).trans hk)
    have hDg := HD.out.2
    clear HW HG HR HD HE k1 k2 k3 k4 k12 f1 hgl
    generalize w.drewN nq = V at *
    have hgl : g < V.heap.size := (Array.getElem?_eq_some_iff.1 hgV).1
    have k1 : V.cell? ⟨g, 1, none⟩ = some (.int .i64 7) := by rw [Lib.cell_of_heap hgV]; rfl
    have f1 : V.frozen? ⟨g, 1, none⟩ = false := by simp [World.frozen?, hgV]
    have k2 : V.cell? ⟨g, 2, none⟩ = some (.int .i64 (l1 : Nat)) := by rw [Lib.cell_of_heap hgV]; rfl
    have k3 : V.cell? ⟨g, 3, none⟩ = some (.int .i64 (c1 : Nat)) := by rw [Lib.cell_of_heap hgV]; rfl
    have k4 : V.cell? ⟨g, 4, none⟩ = some (.int .i64 (i : Nat)) := by rw [Lib.cell_of_heap hgV]; rfl
    have HG := Lib.hid hgV
    have HR := Lib.hid h39
    have HD := Lib.hid (And.intro hDV hDg)
    have HE := Lib.hid hEV
    have HW := Lib.hid hW1
    clear hgV h39 hDV hEV hDg hW1 hbV
    have k9 : V.cell? ⟨g, 9, none⟩ = some (.int .i64 (l3 : Nat)) := by rw [Lib.cell_of_heap HG.out]; rfl
    have k10 : V.cell? ⟨g, 10, none⟩ = some (.int .i64 (c3 : Nat)) := by rw [Lib.cell_of_heap HG.out]; rfl
    have k11 : V.cell? ⟨g, 11, none⟩ = some (.int .i64 (i3 : Nat)) := by rw [Lib.cell_of_heap HG.out]; rfl
    have f9 : V.frozen? ⟨g, 9, none⟩ = false := by simp [World.frozen?, HG.out]
    have f10 : V.frozen? ⟨g, 10, none⟩ = false := by simp [World.frozen?, HG.out]
    have f11 : V.frozen? ⟨g, 11, none⟩ = false := by simp [World.frozen?, HG.out]
    go_wp2
    refine HQ _ _ _ _ (by intro l h; cases h) ?_
    go_ret2
    have hk := keep_set (g := g) (k := 11) (u := .int .i64 (i : Nat)) (keep_set (g := g) (k := 10) (u := .int .i64 (c1 : Nat)) (keep_set (g := g) (k := 9) (u := .int .i64 (l1 : Nat)) (keep_set (g := g) (k := 1) (u := .int .i64 5) (keep_set (g := g) (k := 1) (u := .int .i64 4) (Keep.refl _ V)))))
    exact ⟨HW.out.trans (Rows.belowg HD.out.1 HD.out.2 hk), rfl, .of (set_q (set_1 (z := 5) (set_1 (z := 4) HG.out))) HD.out.2 (HR.out.keepg hk)⟩
  by_cases r92 : r = 92
  · subst r92
    obtain ⟨o, ho⟩ : ∃ o, unescV (s.extract i s.size) = o := ⟨_, rfl⟩
    cases o with
    | none =>
      have hP : escapeS s ⟨7, (l1, c1, i), (l2, c2, i2), text, (l3, c3, i3), bh, toks⟩ 92 = .bad 9 (l1, c1, i) := by unfold escapeS; rw [if_pos hbh]; unfold plainS; rw [if_neg (by decide), if_pos rfl]; simp only; rw [ho]
      rw [hP]
      have hi92 : i < s.size := h92 rfl
      clear hP h92
      go_enter Tryz.func38, Tryz.ntmps38
      go_wp2
      refine wp_scope_far 4 fun F HQ HJ => ?_
      go_wp2
      refine wp_goto ?_
      refine HJ.out 3 2 _ _ _ (by rfl) ?_
      go_wp2_with fail
      go_quiet (fail)
      go_wp2
      refine wp_goto ?_
      refine HJ.out 2 3 _ _ _ (by rfl) ?_
      have hbV := below_drewN (Below.refl w.heap.size w) nq
      have hW1 := HW.out.trans (toG hbV)
      have hgV := (hbV.block g hgl).trans HG.out
      have h92 := HR.out.below hbV
      have hDV := Nat.le_trans HD.out.1 hbV.size
      have hEV : ∀ X : World, KeepG D g (w.drewN nq) X → SEnv X := fun X hk => HE.out X ((Keep.of_all hbV).trans hk)
      have hDg := HD.out.2
      clear HW HG HR HD HE k1 k2 k3 k4 k12 f1 hgl
      generalize w.drewN nq = V at *
      have hgl : g < V.heap.size := (Array.getElem?_eq_some_iff.1 hgV).1
      have k1 : V.cell? ⟨g, 1, none⟩ = some (.int .i64 7) := by rw [Lib.cell_of_heap hgV]; rfl
      have f1 : V.frozen? ⟨g, 1, none⟩ = false := by simp [World.frozen?, hgV]
      have k2 : V.cell? ⟨g, 2, none⟩ = some (.int .i64 (l1 : Nat)) := by rw [Lib.cell_of_heap hgV]; rfl
      have k3 : V.cell? ⟨g, 3, none⟩ = some (.int .i64 (c1 : Nat)) := by rw [Lib.cell_of_heap hgV]; rfl
      have k4 : V.cell? ⟨g, 4, none⟩ = some (.int .i64 (i : Nat)) := by rw [Lib.cell_of_heap hgV]; rfl
      have HG := Lib.hid hgV
      have HR := Lib.hid h92
      have HD := Lib.hid (And.intro hDV hDg)
      have HE := Lib.hid hEV
      have HW := Lib.hid hW1
      clear hgV h92 hDV hEV hDg hW1 hbV
      have CE := Lib.hid (escape_raw s 4 l2 c2 i2 l3 c3 i3 bh l1 c1 i tv kv g (V.setCell ⟨g, 1, none⟩ (.int .i64 4)) text.length (u8V text) (set_1 HG.out) (((HR.out.keepg (keep_set (Keep.refl _ V))).1).weaken fun _ h => h.2) (by omega) hi92 hs (HE.out _ ((keep_set (g := g) (Keep.refl _ V)).weaken fun _ _ e => .inl e)))
      rw [ho] at CE
      clear ho hi92
      go_wp2_with fail
      refine CE.out.mono ?_
      rintro e w2 ⟨rfl, hb2⟩
      have HB2 := Lib.hid hb2
      clear hb2
      go_wp2
      refine HQ _ _ _ _ (by intro l h; cases h) ?_
      go_ret2
      have hb0 := Rows.belowg HD.out.1 HD.out.2 (keep_set (g := g) (k := 1) (u := .int .i64 4) (Keep.refl _ V))
      exact ⟨HW.out.trans (hb0.trans (toG HB2.out)), rfl⟩
    | some z =>
      obtain ⟨t, k⟩ := z
      have hP : escapeS s ⟨7, (l1, c1, i), (l2, c2, i2), text, (l3, c3, i3), bh, toks⟩ 92 = .took ⟨7, (l1, c1, i), (l2, c2, i2), text ++ t, (l3, c3, i3), i + k, toks⟩ := by unfold escapeS; rw [if_pos hbh]; unfold plainS; rw [if_neg (by decide), if_pos rfl]; simp only; rw [ho]
      rw [hP]
      have hi92 : i < s.size := h92 rfl
      clear hP h92
      go_enter Tryz.func38, Tryz.ntmps38
      go_wp2
      refine wp_scope_far 4 fun F HQ HJ => ?_
      go_wp2
      refine wp_goto ?_
      refine HJ.out 3 2 _ _ _ (by rfl) ?_
      go_wp2_with fail
      go_quiet (fail)
      go_wp2
      refine wp_goto ?_
      refine HJ.out 2 3 _ _ _ (by rfl) ?_
      have hbV := below_drewN (Below.refl w.heap.size w) nq
      have hW1 := HW.out.trans (toG hbV)
      have hgV := (hbV.block g hgl).trans HG.out
      have h92 := HR.out.below hbV
      have hDV := Nat.le_trans HD.out.1 hbV.size
      have hEV : ∀ X : World, KeepG D g (w.drewN nq) X → SEnv X := fun X hk => HE.out X ((Keep.of_all hbV).trans hk)
      have hDg := HD.out.2
      clear HW HG HR HD HE k1 k2 k3 k4 k12 f1 hgl
      generalize w.drewN nq = V at *
      have hgl : g < V.heap.size := (Array.getElem?_eq_some_iff.1 hgV).1
      have k1 : V.cell? ⟨g, 1, none⟩ = some (.int .i64 7) := by rw [Lib.cell_of_heap hgV]; rfl
      have f1 : V.frozen? ⟨g, 1, none⟩ = false := by simp [World.frozen?, hgV]
      have k2 : V.cell? ⟨g, 2, none⟩ = some (.int .i64 (l1 : Nat)) := by rw [Lib.cell_of_heap hgV]; rfl
      have k3 : V.cell? ⟨g, 3, none⟩ = some (.int .i64 (c1 : Nat)) := by rw [Lib.cell_of_heap hgV]; rfl
      have k4 : V.cell? ⟨g, 4, none⟩ = some (.int .i64 (i : Nat)) := by rw [Lib.cell_of_heap hgV]; rfl
      have HG := Lib.hid hgV
      have HR := Lib.hid h92
      have HD := Lib.hid (And.intro hDV hDg)
      have HE := Lib.hid hEV
      have HW := Lib.hid hW1
      clear hgV h92 hDV hEV hDg hW1 hbV
      have CE := Lib.hid (escape_raw s 4 l2 c2 i2 l3 c3 i3 bh l1 c1 i tv kv g (V.setCell ⟨g, 1, none⟩ (.int .i64 4)) text.length (u8V text) (set_1 HG.out) (((HR.out.keepg (keep_set (Keep.refl _ V))).1).weaken fun _ h => h.2) (by omega) hi92 hs (HE.out _ ((keep_set (g := g) (Keep.refl _ V)).weaken fun _ _ e => .inl e)))
      rw [ho] at CE
      clear ho hi92
      go_wp2_with fail
      refine CE.out.mono ?_
      rintro e w2 ⟨rfl, h2⟩
      have H2 := Lib.hid h2
      clear h2
      go_wp2
      refine HQ _ _ _ _ (by intro l h; cases h) ?_
      go_ret2
      obtain ⟨tv', hg2, ho2, hk2⟩ := H2.out
      have hk := keep_set (g := g) (k := 1) (u := .int .i64 4) (Keep.refl _ V)
      have hz : (V.setCell ⟨g, 1, none⟩ (.int .i64 4)).heap.size = V.heap.size := by simp
      have hR1 := HR.out.keepg hk
      have hD1 : D ≤ (V.setCell ⟨g, 1, none⟩ (.int .i64 4)).heap.size := by rw [hz]; exact HD.out.1
      have e1 : text.length + t.length = (text ++ t).length := by simp
      have e2 : u8V text ++ u8V t = u8V (text ++ t) := by simp [u8V]
      rw [e1, e2] at ho2
      exact ⟨HW.out.trans ((Rows.belowg HD.out.1 HD.out.2 hk).trans (hR1.belowt hD1 HD.out.2 hk2)), rfl, .of hg2 HD.out.2 (hR1.text hD1 hk2 ho2)⟩
  have n39 : (r == 39) = false := by simpa using r39
  have n92 : (r == 92) = false := by simpa using r92
  by_cases hb : isBlk r = true
  · skip
    have hP : escapeS s ⟨7, (l1, c1, i), (l2, c2, i2), text, (l3, c3, i3), bh, toks⟩ r = .left ⟨4, (l1, c1, i), (l2, c2, i2), text, (l3, c3, i3), bh, toks⟩ := by unfold escapeS; rw [if_pos hbh]; unfold plainS; rw [if_neg r39, if_neg r92, if_pos hb]
    rw [hP]
    have CB := Lib.hid (fun V => isBlank_any r V)
    rw [hb] at CB
    clear hP h92 hb hr
    go_enter Tryz.func38, Tryz.ntmps38
    go_wp2
    refine wp_scope_far 4 fun F HQ HJ => ?_
    go_wp2
    refine wp_goto ?_
    refine HJ.out 3 2 _ _ _ (by rfl) ?_
    go_wp2_with fail
    go_quiet (fail)
    go_wp2
    refine wp_goto ?_
    refine HJ.out 2 3 _ _ _ (by rfl) ?_
    have hbV := below_drewN (Below.refl w.heap.size w) nq
    have hW1 := HW.out.trans (toG hbV)
    have hgV := (hbV.block g hgl).trans HG.out
    have hr := HR.out.below hbV
    have hDV := Nat.le_trans HD.out.1 hbV.size
    have hEV : ∀ X : World, KeepG D g (w.drewN nq) X → SEnv X := fun X hk => HE.out X ((Keep.of_all hbV).trans hk)
    have hDg := HD.out.2
    clear HW HG HR HD HE k1 k2 k3 k4 k12 f1 hgl
    generalize w.drewN nq = V at *
    have hgl : g < V.heap.size := (Array.getElem?_eq_some_iff.1 hgV).1
    have k1 : V.cell? ⟨g, 1, none⟩ = some (.int .i64 7) := by rw [Lib.cell_of_heap hgV]; rfl
    have f1 : V.frozen? ⟨g, 1, none⟩ = false := by simp [World.frozen?, hgV]
    have k2 : V.cell? ⟨g, 2, none⟩ = some (.int .i64 (l1 : Nat)) := by rw [Lib.cell_of_heap hgV]; rfl
    have k3 : V.cell? ⟨g, 3, none⟩ = some (.int .i64 (c1 : Nat)) := by rw [Lib.cell_of_heap hgV]; rfl
    have k4 : V.cell? ⟨g, 4, none⟩ = some (.int .i64 (i : Nat)) := by rw [Lib.cell_of_heap hgV]; rfl
    have HG := Lib.hid hgV
    have HR := Lib.hid hr
    have HD := Lib.hid (And.intro hDV hDg)
    have HE := Lib.hid hEV
    have HW := Lib.hid hW1
    clear hgV hr hDV hEV hDg hW1 hbV
    go_wp2_with fail
    refine (CB.out _).mono ?_
    rintro e w' ⟨rfl, rfl⟩
    go_wp2
    refine HQ _ _ _ _ (by intro l h; cases h) ?_
    go_ret2
    have hk := keep_set (g := g) (k := 1) (u := .int .i64 4) (Keep.refl _ V)
    exact ⟨HW.out.trans (Rows.belowg HD.out.1 HD.out.2 hk), rfl, .of (set_1 (z := 4) HG.out) HD.out.2 (HR.out.keepg hk)⟩
  by_cases hg2 : isSgs r = true
  · skip
    have hP : escapeS s ⟨7, (l1, c1, i), (l2, c2, i2), text, (l3, c3, i3), bh, toks⟩ r = .left ⟨4, (l1, c1, i), (l2, c2, i2), text, (l3, c3, i3), bh, toks⟩ := by unfold escapeS; rw [if_pos hbh]; unfold plainS; rw [if_neg r39, if_neg r92, if_neg hb, if_pos hg2]
    rw [hP]
    have CB := Lib.hid (fun V => isBlank_any r V)
    rw [show isBlk r = false from by simpa using hb] at CB
    have CG := Lib.hid (fun V => isSigns_any r hr V)
    rw [hg2] at CG
    clear hP h92 hb hg2 hr
    go_enter Tryz.func38, Tryz.ntmps38
    go_wp2
    refine wp_scope_far 4 fun F HQ HJ => ?_
    go_wp2
    refine wp_goto ?_
    refine HJ.out 3 2 _ _ _ (by rfl) ?_
    go_wp2_with fail
    go_quiet (fail)
    go_wp2
    refine wp_goto ?_
    refine HJ.out 2 3 _ _ _ (by rfl) ?_
    have hbV := below_drewN (Below.refl w.heap.size w) nq
    have hW1 := HW.out.trans (toG hbV)
    have hgV := (hbV.block g hgl).trans HG.out
    have hr := HR.out.below hbV
    have hDV := Nat.le_trans HD.out.1 hbV.size
    have hEV : ∀ X : World, KeepG D g (w.drewN nq) X → SEnv X := fun X hk => HE.out X ((Keep.of_all hbV).trans hk)
    have hDg := HD.out.2
    clear HW HG HR HD HE k1 k2 k3 k4 k12 f1 hgl
    generalize w.drewN nq = V at *
    have hgl : g < V.heap.size := (Array.getElem?_eq_some_iff.1 hgV).1
    have k1 : V.cell? ⟨g, 1, none⟩ = some (.int .i64 7) := by rw [Lib.cell_of_heap hgV]; rfl
    have f1 : V.frozen? ⟨g, 1, none⟩ = false := by simp [World.frozen?, hgV]
    have k2 : V.cell? ⟨g, 2, none⟩ = some (.int .i64 (l1 : Nat)) := by rw [Lib.cell_of_heap hgV]; rfl
    have k3 : V.cell? ⟨g, 3, none⟩ = some (.int .i64 (c1 : Nat)) := by rw [Lib.cell_of_heap hgV]; rfl
    have k4 : V.cell? ⟨g, 4, none⟩ = some (.int .i64 (i : Nat)) := by rw [Lib.cell_of_heap hgV]; rfl
    have HG := Lib.hid hgV
    have HR := Lib.hid hr
    have HD := Lib.hid (And.intro hDV hDg)
    have HE := Lib.hid hEV
    have HW := Lib.hid hW1
    clear hgV hr hDV hEV hDg hW1 hbV
    go_wp2_with fail
    refine (CB.out _).mono ?_
    rintro e w' ⟨rfl, rfl⟩
    go_wp2_with fail
    refine (CG.out _).mono ?_
    rintro e w2 ⟨rfl, hb2⟩
    have HB2 := Lib.hid hb2
    clear hb2
    go_wp2
    refine HQ _ _ _ _ (by intro l h; cases h) ?_
    go_ret2
    have hk := keep_set (g := g) (k := 1) (u := .int .i64 4) (Keep.refl _ V)
    have hg2 := (HB2.out.block g (by simpa using hgl)).trans (set_1 (z := 4) HG.out)
    have hb0 := Rows.belowg HD.out.1 HD.out.2 hk
    exact ⟨HW.out.trans (hb0.trans (toG HB2.out)), rfl, .of hg2 HD.out.2 ((HR.out.keepg hk).below HB2.out)⟩
  have hP : escapeS s ⟨7, (l1, c1, i), (l2, c2, i2), text, (l3, c3, i3), bh, toks⟩ r = .took ⟨4, (l1, c1, i), (l2, c2, i2), text ++ unitL s i, (l3, c3, i3), bh, toks⟩ := by unfold escapeS; rw [if_pos hbh]; unfold plainS; rw [if_neg r39, if_neg r92, if_neg hb, if_neg hg2]
  rw [hP]
  clear hP h92
  have CB := Lib.hid (fun V => isBlank_any r V)
  rw [show isBlk r = false from by simpa using hb] at CB
  have CG := Lib.hid (fun V => isSigns_any r hr V)
  rw [show isSgs r = false from by simpa using hg2] at CG
  clear hr
  go_enter Tryz.func38, Tryz.ntmps38
  go_wp2
  refine wp_scope_far 4 fun F HQ HJ => ?_
  go_wp2
  refine wp_goto ?_
  refine HJ.out 3 2 _ _ _ (by rfl) ?_
  go_wp2_with fail
  go_quiet (fail)
  go_wp2
  refine wp_goto ?_
  refine HJ.out 2 3 _ _ _ (by rfl) ?_
  have hbV := below_drewN (Below.refl w.heap.size w) nq
  have hW1 := HW.out.trans (toG hbV)
  have hgV := (hbV.block g hgl).trans HG.out
  have hr := HR.out.below hbV
  have hDV := Nat.le_trans HD.out.1 hbV.size
  have hEV : ∀ X : World, KeepG D g (w.drewN nq) X → SEnv X := fun X hk => HE.out X ((Keep.of_all hbV).trans hk)
  have hDg := HD.out.2
  clear HW HG HR HD HE k1 k2 k3 k4 k12 f1 hgl
  generalize w.drewN nq = V at *
  have hgl : g < V.heap.size := (Array.getElem?_eq_some_iff.1 hgV).1
  have k1 : V.cell? ⟨g, 1, none⟩ = some (.int .i64 7) := by rw [Lib.cell_of_heap hgV]; rfl
  have f1 : V.frozen? ⟨g, 1, none⟩ = false := by simp [World.frozen?, hgV]
  have k2 : V.cell? ⟨g, 2, none⟩ = some (.int .i64 (l1 : Nat)) := by rw [Lib.cell_of_heap hgV]; rfl
  have k3 : V.cell? ⟨g, 3, none⟩ = some (.int .i64 (c1 : Nat)) := by rw [Lib.cell_of_heap hgV]; rfl
  have k4 : V.cell? ⟨g, 4, none⟩ = some (.int .i64 (i : Nat)) := by rw [Lib.cell_of_heap hgV]; rfl
  have HG := Lib.hid hgV
  have HR := Lib.hid hr
  have HD := Lib.hid (And.intro hDV hDg)
  have HE := Lib.hid hEV
  have HW := Lib.hid hW1
  clear hgV hr hDV hEV hDg hW1 hbV
  go_wp2_with fail
  refine (CB.out _).mono ?_
  rintro e w' ⟨rfl, rfl⟩
  go_wp2_with fail
  refine (CG.out _).mono ?_
  rintro e w2 ⟨rfl, hb2⟩
  have HB2 := Lib.hid hb2
  clear hb2
  go_wp2
  obtain ⟨ub, hub⟩ : ∃ ub, s.extract i (i + unitW s i) = ub := ⟨_, rfl⟩
  have huL : unitL s i = ub.data.toList := by unfold unitL; rw [hub]
  have huz : ub.size ≤ 4 := by rw [← hub, ByteArray.size_extract]; have := unitW_bd s i hi; omega
  obtain ⟨CS, hCS⟩ : ∃ CS : Value → Array Value, CS = fun u => scC s 4 (l1 : Nat) (c1 : Nat) (i : Nat) (l2 : Nat) (c2 : Nat) (i2 : Nat) u (l3 : Nat) (c3 : Nat) (i3 : Nat) (bh : Nat) kv := ⟨_, rfl⟩
  have hk01 : Keep (fun b => b = g) V (w2) := (keep_set (g := g) (k := 1) (u := .int .i64 4) (Keep.refl _ V)).then (HB2.out.mono (by simp))
  have hgW : (w2).heap[g]? = some (.cells (CS tv) 43 (0, 0)) := by rw [hCS]; exact (HB2.out.block g (by simpa using hgl)).trans (set_1 (z := 4) HG.out)
  generalize w2 = W1 at *
  have hR1 := HR.out.keepg hk01
  have hD1 : D ≤ W1.heap.size := Nat.le_trans HD.out.1 hk01.size
  have hgF : g < W1.heap.size := (Array.getElem?_eq_some_iff.1 hgW).1
  have htg : tv.ownBlock ≠ some g := fun h => (hR1.1.2 g h).2 rfl
  have htl : ∀ b, tv.ownBlock = some b → b < W1.heap.size := fun b h => (hR1.1.1.lt b h).2
  have hlm : text.length + ub.size ≤ 140737488355328 := by omega
  have hdt : ∀ b, b = g ∨ tv.ownBlock = some b → b = g ∨ D ≤ b := fun b h => by
    rcases h with h | h
    · exact .inl h
    · exact .inr (hR1.1.2 b h).1
  have CUN : Hid (∀ X : World, X.heap[g]? = some (.cells (CS tv) 43 (0, 0)) → Keep (fun b => b = g ∨ tv.ownBlock = some b) W1 X → Calls Tryz.prog 64 #[.pointer (some ⟨g, 0, none⟩)] X fun e w' => e = .returned (.string ub) ∧ Below X.heap.size X w') := Lib.hid fun X hX hk => by
    rw [← hub]
    subst hCS
    exact sunit_any s _ _ _ _ _ _ _ _ _ _ i tv kv g X hX hi (by omega) (HE.out X ((hk01.weaken fun _ _ e => hdt _ (Or.inl e)).trans (hk.weaken fun _ _ e => hdt _ e)))
  have FS4 : ∀ W : World, (Instr.fieldAt 43 (.pointer (some ⟨g, 0, none⟩)) 4).run Tryz.prog W = .ok (.pointer (some ⟨g, 8, none⟩)) W := fun W => by go_simp
  have L8 : ∀ W : World, W.heap[g]? = some (.cells (CS tv) 43 (0, 0)) → (Instr.loadAt 35 (.pointer (some ⟨g, 8, none⟩))).run Tryz.prog W = .ok tv W := fun W h => by
    subst hCS
    have q : W.cell? ⟨g, 8, none⟩ = some tv := by rw [Lib.cell_of_heap h]; rfl
    go_simp
  have ST : ∀ (W : World) (ao : Option Addr) (m cap : Nat), W.heap[g]? = some (.cells (CS tv) 43 (0, 0)) → (Instr.storeAt 35 (.pointer (some ⟨g, 8, none⟩)) (.slice ao m cap)).run Tryz.prog W = .ok () (W.setCell ⟨g, 8, none⟩ (.slice ao m cap)) := fun W ao m cap h => by
    subst hCS
    have q : W.cell? ⟨g, 8, none⟩ = some tv := by rw [Lib.cell_of_heap h]; rfl
    have q2 : W.frozen? ⟨g, 8, none⟩ = false := by simp [World.frozen?, h]
    go_simp
  have S8 : ∀ {W : World} {u : Value}, W.heap[g]? = some (.cells (CS tv) 43 (0, 0)) → (W.setCell ⟨g, 8, none⟩ u).heap[g]? = some (.cells (CS u) 43 (0, 0)) := fun h => by subst hCS; exact set_8 h
  obtain ⟨FF, hFF⟩ : ∃ FF : FldR, FF = ⟨g, W1, tv, 5, 1, text.length, text.length + ub.size, u8V text, u8V text ++ Lib.strCells ub, 43, CS, #[], 7, 10, 100, fun k => match k with | 0 => some (.pointer (some ⟨g, 0, none⟩)) | 1 => some (.pointer (some ⟨g, 0, none⟩)) | 2 => some (.pointer (some ⟨g, 0, none⟩)) | 3 => some (.pointer (some ⟨g, 8, none⟩)) | 4 => some tv | 5 => some (.pointer (some ⟨g, 0, none⟩)) | 6 => some (.string ub) | 8 => some (.pointer (some ⟨g, 0, none⟩)) | 9 => some (.pointer (some ⟨g, 8, none⟩)) | _ => none⟩ := ⟨_, rfl⟩
  have H0 : FldR.S FF (fun _ => false) W1.drew := by rw [hFF]; exact ⟨fun _ => hgW, fun _ => hR1.1.weaken fun _ h => h.2, (Keep.refl _ W1).drew⟩
  refine wp_region_done (FldR.S FF) (FldR.P FF) (by kernel_rfl) (by kernel_rfl) (by kernel_rfl) H0 ?hs ?hd
  case hs =>
   rw [hFF]
   refine DSteps.cons ?_ (DSteps.cons ?_ (DSteps.cons ?_ (DSteps.cons ?_ (DSteps.cons ?_ (DSteps.cons ?_ (DSteps.cons ?_ (DSteps.cons ?_ (DSteps.cons ?_ (DSteps.cons ?_ (DSteps.cons ?_ (DSteps.nil)))))))))))
   · intro D2 a X hDi hDa _ hX hL hd
     refine ⟨rfl, ?_⟩
     have e0 : a.eval (.tmp 0) = .pointer (some ⟨g, 0, none⟩) := hL.far 0 (by kernel_rfl)
     exact wp_value (exec_move rfl e0) ⟨_, rfl, hX.more, fun _ _ _ h => h, FldR.P.mk rfl ⟨by simp, by simp, by simp⟩⟩
   · intro D2 a X hDi hDa _ hX hL hd
     refine ⟨rfl, ?_⟩
     have e0 : a.eval (.tmp 0) = .pointer (some ⟨g, 0, none⟩) := hL.far 0 (by kernel_rfl)
     exact wp_value (exec_move rfl e0) ⟨_, rfl, hX.more, fun _ _ _ h => h, FldR.P.mk rfl ⟨by simp, by simp, by simp⟩⟩
   · intro D2 a X hDi hDa _ hX hL hd
     refine ⟨rfl, ?_⟩
     have e0 : a.eval (.tmp 20) = .pointer (some ⟨g, 0, none⟩) := (hd 1 20 (by kernel_rfl) (by kernel_rfl)).is rfl
     exact wp_value (exec_nilCheck rfl e0) ⟨_, rfl, hX.more, fun _ _ _ h => h, FldR.P.mk rfl ⟨by simp, by simp, by simp⟩⟩
   · intro D2 a X hDi hDa _ hX hL hd
     refine ⟨rfl, ?_⟩
     have e0 : a.eval (.tmp 21) = .pointer (some ⟨g, 0, none⟩) := (hd 2 21 (by kernel_rfl) (by kernel_rfl)).is rfl
     exact wp_value (exec_fieldAddr rfl e0 (FS4 X)) ⟨_, rfl, hX.more, fun _ _ _ h => h, FldR.P.mk rfl ⟨by simp, by simp, by simp⟩⟩
   · intro D2 a X hDi hDa _ hX hL hd
     refine ⟨rfl, ?_⟩
     have e0 : a.eval (.tmp 22) = .pointer (some ⟨g, 8, none⟩) := (hd 3 22 (by kernel_rfl) (by kernel_rfl)).is rfl
     exact wp_value (exec_load rfl e0 (L8 X (hX.1 (hDa 10 (by kernel_rfl))))) ⟨_, rfl, hX.more, fun _ _ _ h => h, FldR.P.mk rfl ⟨by simp, by simp, by simp⟩⟩
   · intro D2 a X hDi hDa _ hX hL hd
     refine ⟨rfl, ?_⟩
     have e0 : a.eval (.tmp 0) = .pointer (some ⟨g, 0, none⟩) := hL.far 0 (by kernel_rfl)
     exact wp_value (exec_move rfl e0) ⟨_, rfl, hX.more, fun _ _ _ h => h, FldR.P.mk rfl ⟨by simp, by simp, by simp⟩⟩
   · intro D2 a X hDi hDa _ hX hL hd
     refine ⟨rfl, ?_⟩
     have e0 : a.eval (.tmp 24) = .pointer (some ⟨g, 0, none⟩) := (hd 5 24 (by kernel_rfl) (by kernel_rfl)).is rfl
     refine wp_enter (exec_call (vs := #[.pointer (some ⟨g, 0, none⟩)]) rfl (by simp only [List.map_toArray, List.map_cons, List.map_nil, e0]) Tryz.func64 rfl rfl) ?_
     refine (CUN.out X (hX.1 (hDa 10 (by kernel_rfl))) hX.2.2).mono ?_
     rintro e X2 ⟨rfl, hb⟩
     exact ⟨_, rfl, _, rfl, (hX.below hb).more, fun _ _ _ h => h.below hb, FldR.P.mk rfl ⟨by simp, by simp, by simp⟩⟩
   · intro D2 a X hDi hDa _ hX hL hd
     refine ⟨rfl, ?_⟩
     have e0 : a.eval (.tmp 23) = tv := (hd 4 23 (by kernel_rfl) (by kernel_rfl)).is rfl
     have e1 : a.eval (.tmp 25) = .string ub := (hd 6 25 (by kernel_rfl) (by kernel_rfl)).is rfl
     have h28 := hDa 10 (by kernel_rfl)
     obtain ⟨v', X2, hrun, ho2, hk2⟩ := append_st (P := Tryz.prog) X 35 9 5 Tryz.underlying35 Tryz.underlying9 tinfo5 (hX.2.1 hDi) ub hlm
     exact wp_append_run rfl e0 e1 (hrun _) ⟨v', rfl, hX.app htg h28 hk2, fun j u hj h => h.app htl hk2 (fun e => by subst e; rw [hDi] at hj; cases hj) (fun e => by subst e; rw [h28] at hj; cases hj), FldR.P.row rfl ⟨by simp, by simp⟩ (FldR.row_of hX.2.2.size hgF htg ho2 rfl)⟩
   · intro D2 a X hDi hDa _ hX hL hd
     refine ⟨rfl, ?_⟩
     have e0 : a.eval (.tmp 19) = .pointer (some ⟨g, 0, none⟩) := (hd 0 19 (by kernel_rfl) (by kernel_rfl)).is rfl
     exact wp_value (exec_nilCheck rfl e0) ⟨_, rfl, hX.more, fun _ _ _ h => h, FldR.P.mk rfl ⟨by simp, by simp, by simp⟩⟩
   · intro D2 a X hDi hDa _ hX hL hd
     refine ⟨rfl, ?_⟩
     have e0 : a.eval (.tmp 27) = .pointer (some ⟨g, 0, none⟩) := (hd 8 27 (by kernel_rfl) (by kernel_rfl)).is rfl
     exact wp_value (exec_fieldAddr rfl e0 (FS4 X)) ⟨_, rfl, hX.more, fun _ _ _ h => h, FldR.P.mk rfl ⟨by simp, by simp, by simp⟩⟩
   · intro D2 a X hDi hDa _ hX hL hd
     refine ⟨rfl, ?_⟩
     have e0 : a.eval (.tmp 28) = .pointer (some ⟨g, 8, none⟩) := (hd 9 28 (by kernel_rfl) (by kernel_rfl)).is rfl
     obtain ⟨ao, ln, cp, he, ho⟩ := (hd 7 26 (by kernel_rfl) (by kernel_rfl)).2.2.1 rfl
     have hc := hX.1 hDi
     exact wp_skipped (exec_store rfl e0 he (ST X _ _ _ hc)) ⟨undef, rfl, hX.store, fun j u hj h => h.store hgF (fun e => by subst e; rw [hDi] at hj; cases hj), FldR.P.last rfl ⟨by simp, by simp⟩ ⟨_, FldR.Row.store ⟨ao, ln, cp, rfl, by rw [← he]; exact ho⟩, S8 hc⟩⟩
  case hd =>
   intro D2 a X hAll hX hL hP hE
   obtain ⟨_, hp⟩ := hE 10 (by decide)
   rw [hFF] at hp hX
   obtain ⟨u, ⟨ao, ln, cp, rfl, ho⟩, hu⟩ := hp.2.2.2 rfl
   have hK := hX.2.2
   obtain ⟨f, ha, hf⟩ := hL.out [19, 20, 21, 22, 23, 24, 25, 26, 27, 28] rfl
   have HF := Lib.hid (And.intro ho (And.intro hu (And.intro hK (And.intro hCS (And.intro hk01 (And.intro hR1 (And.intro huL hD1)))))))
   clear hf hAll hP hX hL hE hp ho hu hK hCS FS4 L8 ST S8 htg htl hlm hgF H0 hFF hgW hk01 hR1 huL hD1 CUN hub hdt huz
   simp only [List.foldl_cons, List.foldl_nil, List.setIfInBounds_toArray, List.set_cons_zero, List.set_cons_succ] at ha
   subst ha
   go_wp2
   refine HQ _ _ _ _ (by intro l h; cases h) ?_
   go_ret2
   obtain ⟨ho, hu, hK, hCS, hk01, hR1, huL, hD1⟩ := HF.out
   subst hCS
   have e1 : text.length + ub.size = (text ++ unitL s i).length := by rw [huL, List.length_append]; rfl
   have e2 : u8V text ++ Lib.strCells ub = u8V (text ++ unitL s i) := by rw [huL]; simp [u8V, Lib.strCells]
   simp only at ho hu hK
   rw [e1, e2] at ho
   exact ⟨HW.out.trans ((Rows.belowg HD.out.1 HD.out.2 hk01).trans (hR1.belowt hD1 HD.out.2 hK)), rfl, .of hu HD.out.2 (hR1.text hD1 hK ho)⟩
end Go.Proofs.YtbnnhbmnddaafaaGreatDoor
