/- Parts of the proof of what the last text says. -/
import Derived.Test.YtlfdpdlhppgakaaGreatDoorQb4
import Derived.Laws.IdiomStrings
import Derived.Test.YtlfdpdlhppgakaaGreatDoorQb1
import Derived.LaidHandle
import Derived.Test.YtlfdpdlhppgakaaGreatDoorQb2
import Derived.Test.YtlfdpdlhppgakaaGreatDoorCards
/- The scanner's piece (written by wip/tools/gen_piece.py). -/
namespace Go.Proofs.YtlfdpdlhppgakaaGreatDoor
open Go Go.RowKit Go.Kt Go.Shelf Go.Lib
attribute [local go_sem] Oper.semAt_some

set_option maxHeartbeats 8000000 in
set_option maxRecDepth 100000 in
theorem piece_plain (s : ByteArray) (c : Sc) (r : Int) (D g : Nat) (w0 w : World) (hD0 : D ≤ w0.heap.size) (h5 : c.st ≠ 5) (h6 : c.st ≠ 6) (h7 : c.st ≠ 7) (hS : ScAt D g s c w) (hE : ∀ X, KeepG D g w0 X → SEnv X) (hW : KeepG D g w0 w) (hr : 0 ≤ r) (h92 : r = 92 → c.here.2.2 < s.size) (hi : c.here.2.2 ≤ s.size) (hs : s.size ≤ 1048576) (hm : c.text.length ≤ 8388000) :
    Calls Tryz.prog 47 #[.pointer (some ⟨g, 0, none⟩), .int .i32 r] w (PieceOut D g s w0 (plainS s c r)) := by
  have hD : D ≤ w.heap.size := Nat.le_trans hD0 hW.size
  have hE1 : ∀ X : World, KeepG D g w X → SEnv X := fun X hk => hE X (hW.trans hk)
  have HW := Lib.hid hW
  clear hE hW hD0
  obtain ⟨st, ⟨l1, c1, i⟩, ⟨l2, c2, i2⟩, text, ⟨l3, c3, i3⟩, bh, toks⟩ := c
  obtain ⟨tv, kv, hg, hDg, hR⟩ := hS
  simp only at h92 hi hm hR hg
  have hgl : g < w.heap.size := (Array.getElem?_eq_some_iff.1 hg).1
  have k1 : w.cell? ⟨g, 1, none⟩ = some (.int .i64 (st : Nat)) := by rw [Lib.cell_of_heap hg]; rfl
  have f1 : w.frozen? ⟨g, 1, none⟩ = false := by simp [World.frozen?, hg]
  have k2 : w.cell? ⟨g, 2, none⟩ = some (.int .i64 (l1 : Nat)) := by rw [Lib.cell_of_heap hg]; rfl
  have k3 : w.cell? ⟨g, 3, none⟩ = some (.int .i64 (c1 : Nat)) := by rw [Lib.cell_of_heap hg]; rfl
  have k4 : w.cell? ⟨g, 4, none⟩ = some (.int .i64 (i : Nat)) := by rw [Lib.cell_of_heap hg]; rfl
  have HG := Lib.hid hg
  have HR := Lib.hid (show Rows D g tv kv text toks w from hR)
  have HD := Lib.hid (And.intro hD hDg)
  have HE := Lib.hid hE1
  clear hR hE1 hD hDg
  have n5 : (((st : Nat) : Int) == 5) = false := by simp; exact fun h => h5 (by simp only; omega)
  have n6 : (((st : Nat) : Int) == 6) = false := by simp; exact fun h => h6 (by simp only; omega)
  have n7 : (((st : Nat) : Int) == 7) = false := by simp; exact fun h => h7 (by simp only; omega)
  clear h5 h6 h7
  by_cases r39 : r = 39
  · subst r39
    have hP : plainS s ⟨st, (l1, c1, i), (l2, c2, i2), text, (l3, c3, i3), bh, toks⟩ 39 = .took ⟨5, (l1, c1, i), (l2, c2, i2), text, (l1, c1, i), bh, toks⟩ := by skip; unfold plainS; rw [if_pos rfl]
    rw [hP]
    clear hP h92
    go_enter Tryz.func47, Tryz.ntmps47
    go_wp2
    refine wp_scope_far 4 fun F HQ HJ => ?_
    go_wp2
    refine wp_label ?_
    have k9 : w.cell? ⟨g, 9, none⟩ = some (.int .i64 (l3 : Nat)) := by rw [Lib.cell_of_heap HG.out]; rfl
    have k10 : w.cell? ⟨g, 10, none⟩ = some (.int .i64 (c3 : Nat)) := by rw [Lib.cell_of_heap HG.out]; rfl
    have k11 : w.cell? ⟨g, 11, none⟩ = some (.int .i64 (i3 : Nat)) := by rw [Lib.cell_of_heap HG.out]; rfl
    have f9 : w.frozen? ⟨g, 9, none⟩ = false := by simp [World.frozen?, HG.out]
    have f10 : w.frozen? ⟨g, 10, none⟩ = false := by simp [World.frozen?, HG.out]
    have f11 : w.frozen? ⟨g, 11, none⟩ = false := by simp [World.frozen?, HG.out]
    go_wp2
    refine HQ _ _ _ _ (by intro l h; cases h) ?_
    go_ret2
    have hk := keep_set (g := g) (k := 11) (u := .int .i64 (i : Nat)) (keep_set (g := g) (k := 10) (u := .int .i64 (c1 : Nat)) (keep_set (g := g) (k := 9) (u := .int .i64 (l1 : Nat)) (keep_set (g := g) (k := 1) (u := .int .i64 5) (keep_set (g := g) (k := 1) (u := .int .i64 4) (Keep.refl _ w)))))
    exact ⟨HW.out.trans (Rows.belowg HD.out.1 HD.out.2 hk), rfl, .of (set_q (set_1 (z := 5) (set_1 (z := 4) HG.out))) HD.out.2 (HR.out.keepg hk)⟩
  by_cases r92 : r = 92
  · subst r92
    obtain ⟨o, ho⟩ : ∃ o, unescV (s.extract i s.size) = o := ⟨_, rfl⟩
    cases o with
    | none =>
      have hP : plainS s ⟨st, (l1, c1, i), (l2, c2, i2), text, (l3, c3, i3), bh, toks⟩ 92 = .bad 9 (l1, c1, i) := by skip; unfold plainS; rw [if_neg (by decide), if_pos rfl]; simp only; rw [ho]
      rw [hP]
      have hi92 : i < s.size := h92 rfl
      clear hP h92
      go_enter Tryz.func47, Tryz.ntmps47
      go_wp2
      refine wp_scope_far 4 fun F HQ HJ => ?_
      go_wp2
      refine wp_label ?_
      have CE := Lib.hid (escape_raw s 4 l2 c2 i2 l3 c3 i3 bh l1 c1 i tv kv g (w.setCell ⟨g, 1, none⟩ (.int .i64 4)) text.length (u8V text) (set_1 HG.out) (((HR.out.keepg (keep_set (Keep.refl _ w))).1).weaken fun _ h => h.2) (by omega) hi92 hs (HE.out _ ((keep_set (g := g) (Keep.refl _ w)).weaken fun _ _ e => .inl e)))
      rw [ho] at CE
      clear ho hi92
      go_wp2_with fail
      refine CE.out.mono ?_
      rintro e w2 ⟨rfl, hb2⟩
      have HB2 := Lib.hid hb2
      clear hb2
      go_wp2
      refine HQ _ _ _ _ (by intro l h; cases h) ?_
      go_ret2
      have hb0 := Rows.belowg HD.out.1 HD.out.2 (keep_set (g := g) (k := 1) (u := .int .i64 4) (Keep.refl _ w))
      exact ⟨HW.out.trans (hb0.trans (toG HB2.out)), rfl⟩
    | some z =>
      obtain ⟨t, k⟩ := z
      have hP : plainS s ⟨st, (l1, c1, i), (l2, c2, i2), text, (l3, c3, i3), bh, toks⟩ 92 = .took ⟨7, (l1, c1, i), (l2, c2, i2), text ++ t, (l3, c3, i3), i + k, toks⟩ := by skip; unfold plainS; rw [if_neg (by decide), if_pos rfl]; simp only; rw [ho]
      rw [hP]
      have hi92 : i < s.size := h92 rfl
      clear hP h92
      go_enter Tryz.func47, Tryz.ntmps47
      go_wp2
      refine wp_scope_far 4 fun F HQ HJ => ?_
      go_wp2
      refine wp_label ?_
      have CE := Lib.hid (escape_raw s 4 l2 c2 i2 l3 c3 i3 bh l1 c1 i tv kv g (w.setCell ⟨g, 1, none⟩ (.int .i64 4)) text.length (u8V text) (set_1 HG.out) (((HR.out.keepg (keep_set (Keep.refl _ w))).1).weaken fun _ h => h.2) (by omega) hi92 hs (HE.out _ ((keep_set (g := g) (Keep.refl _ w)).weaken fun _ _ e => .inl e)))
      rw [ho] at CE
      clear ho hi92
      go_wp2_with fail
      refine CE.out.mono ?_
      rintro e w2 ⟨rfl, h2⟩
      have H2 := Lib.hid h2
      clear h2
      go_wp2
      refine HQ _ _ _ _ (by intro l h; cases h) ?_
      go_ret2
      obtain ⟨tv', hg2, ho2, hk2⟩ := H2.out
      have hk := keep_set (g := g) (k := 1) (u := .int .i64 4) (Keep.refl _ w)
      have hz : (w.setCell ⟨g, 1, none⟩ (.int .i64 4)).heap.size = w.heap.size := by simp
      have hR1 := HR.out.keepg hk
      have hD1 : D ≤ (w.setCell ⟨g, 1, none⟩ (.int .i64 4)).heap.size := by rw [hz]; exact HD.out.1
      have e1 : text.length + t.length = (text ++ t).length := by simp
      have e2 : u8V text ++ u8V t = u8V (text ++ t) := by simp [u8V]
      rw [e1, e2] at ho2
      exact ⟨HW.out.trans ((Rows.belowg HD.out.1 HD.out.2 hk).trans (hR1.belowt hD1 HD.out.2 hk2)), rfl, .of hg2 HD.out.2 (hR1.text hD1 hk2 ho2)⟩
  have n39 : (r == 39) = false := by simpa using r39
  have n92 : (r == 92) = false := by simpa using r92
  by_cases hb : isBlk r = true
  · skip
    have hP : plainS s ⟨st, (l1, c1, i), (l2, c2, i2), text, (l3, c3, i3), bh, toks⟩ r = .left ⟨4, (l1, c1, i), (l2, c2, i2), text, (l3, c3, i3), bh, toks⟩ := by skip; unfold plainS; rw [if_neg r39, if_neg r92, if_pos hb]
    rw [hP]
    have CB := Lib.hid (fun V => isBlank_any r V)
    rw [hb] at CB
    clear hP h92 hb hr
    go_enter Tryz.func47, Tryz.ntmps47
    go_wp2
    refine wp_scope_far 4 fun F HQ HJ => ?_
    go_wp2
    refine wp_label ?_
    go_wp2_with fail
    refine (CB.out _).mono ?_
    rintro e w' ⟨rfl, rfl⟩
    go_wp2
    refine HQ _ _ _ _ (by intro l h; cases h) ?_
    go_ret2
    have hk := keep_set (g := g) (k := 1) (u := .int .i64 4) (Keep.refl _ w)
    exact ⟨HW.out.trans (Rows.belowg HD.out.1 HD.out.2 hk), rfl, .of (set_1 (z := 4) HG.out) HD.out.2 (HR.out.keepg hk)⟩
  by_cases hg2 : isSgs r = true
  · skip
    have hP : plainS s ⟨st, (l1, c1, i), (l2, c2, i2), text, (l3, c3, i3), bh, toks⟩ r = .left ⟨4, (l1, c1, i), (l2, c2, i2), text, (l3, c3, i3), bh, toks⟩ := by skip; unfold plainS; rw [if_neg r39, if_neg r92, if_neg hb, if_pos hg2]
    rw [hP]
    have CB := Lib.hid (fun V => isBlank_any r V)
    rw [show isBlk r = false from by simpa using hb] at CB
    have CG := Lib.hid (fun V => isSigns_any r hr V)
    rw [hg2] at CG
    clear hP h92 hb hg2 hr
    go_enter Tryz.func47, Tryz.ntmps47
    go_wp2
    refine wp_scope_far 4 fun F HQ HJ => ?_
    go_wp2
    refine wp_label ?_
    go_wp2_with fail
    refine (CB.out _).mono ?_
    rintro e w' ⟨rfl, rfl⟩
    go_wp2_with fail
    refine (CG.out _).mono ?_
    rintro e w2 ⟨rfl, hb2⟩
    have HB2 := Lib.hid hb2
    clear hb2
    go_wp2
    refine HQ _ _ _ _ (by intro l h; cases h) ?_
    go_ret2
    have hk := keep_set (g := g) (k := 1) (u := .int .i64 4) (Keep.refl _ w)
    have hg2 := (HB2.out.block g (by simpa using hgl)).trans (set_1 (z := 4) HG.out)
    have hb0 := Rows.belowg HD.out.1 HD.out.2 hk
    exact ⟨HW.out.trans (hb0.trans (toG HB2.out)), rfl, .of hg2 HD.out.2 ((HR.out.keepg hk).below HB2.out)⟩
  have hP : plainS s ⟨st, (l1, c1, i), (l2, c2, i2), text, (l3, c3, i3), bh, toks⟩ r = .took ⟨4, (l1, c1, i), (l2, c2, i2), text ++ unitL s i, (l3, c3, i3), bh, toks⟩ := by skip; unfold plainS; rw [if_neg r39, if_neg r92, if_neg hb, if_neg hg2]
  rw [hP]
  clear hP h92
  have CB := Lib.hid (fun V => isBlank_any r V)
  rw [show isBlk r = false from by simpa using hb] at CB
  have CG := Lib.hid (fun V => isSigns_any r hr V)
  rw [show isSgs r = false from by simpa using hg2] at CG
  clear hr
  go_enter Tryz.func47, Tryz.ntmps47
  go_wp2
  refine wp_scope_far 4 fun F HQ HJ => ?_
  go_wp2
  refine wp_label ?_
  go_wp2_with fail
  refine (CB.out _).mono ?_
  rintro e w' ⟨rfl, rfl⟩
  go_wp2_with fail
  refine (CG.out _).mono ?_
  rintro e w2 ⟨rfl, hb2⟩
  have HB2 := Lib.hid hb2
  clear hb2
  go_wp2
  obtain ⟨ub, hub⟩ : ∃ ub, s.extract i (i + unitW s i) = ub := ⟨_, rfl⟩
  have huL : unitL s i = ub.data.toList := by unfold unitL; rw [hub]
  have huz : ub.size ≤ 4 := by rw [← hub, ByteArray.size_extract]; have := unitW_bd s i hi; omega
  obtain ⟨CS, hCS⟩ : ∃ CS : Value → Array Value, CS = fun u => scC s 4 (l1 : Nat) (c1 : Nat) (i : Nat) (l2 : Nat) (c2 : Nat) (i2 : Nat) u (l3 : Nat) (c3 : Nat) (i3 : Nat) (bh : Nat) kv := ⟨_, rfl⟩
  have hk01 : Keep (fun b => b = g) w (w2) := (keep_set (g := g) (k := 1) (u := .int .i64 4) (Keep.refl _ w)).then (HB2.out.mono (by simp))
  have hgW : (w2).heap[g]? = some (.cells (CS tv) 53 (0, 0)) := by rw [hCS]; exact (HB2.out.block g (by simpa using hgl)).trans (set_1 (z := 4) HG.out)
  generalize w2 = W1 at *
  have hR1 := HR.out.keepg hk01
  have hD1 : D ≤ W1.heap.size := Nat.le_trans HD.out.1 hk01.size
  have hgF : g < W1.heap.size := (Array.getElem?_eq_some_iff.1 hgW).1
  have htg : tv.ownBlock ≠ some g := fun h => (hR1.1.2 g h).2 rfl
  have htl : ∀ b, tv.ownBlock = some b → b < W1.heap.size := fun b h => (hR1.1.1.lt b h).2
  have hlm : text.length + ub.size ≤ 140737488355328 := by omega
  have hdt : ∀ b, b = g ∨ tv.ownBlock = some b → b = g ∨ D ≤ b := fun b h => by
    rcases h with h | h
    · exact .inl h
    · exact .inr (hR1.1.2 b h).1
  have CUN : Hid (∀ X : World, X.heap[g]? = some (.cells (CS tv) 53 (0, 0)) → Keep (fun b => b = g ∨ tv.ownBlock = some b) W1 X → Calls Tryz.prog 73 #[.pointer (some ⟨g, 0, none⟩)] X fun e w' => e = .returned (.string ub) ∧ Below X.heap.size X w') := Lib.hid fun X hX hk => by
    rw [← hub]
    subst hCS
    exact sunit_any s _ _ _ _ _ _ _ _ _ _ i tv kv g X hX hi (by omega) (HE.out X ((hk01.weaken fun _ _ e => hdt _ (Or.inl e)).trans (hk.weaken fun _ _ e => hdt _ e)))
  have FS4 : ∀ W : World, (Instr.fieldAt 53 (.pointer (some ⟨g, 0, none⟩)) 4).run Tryz.prog W = .ok (.pointer (some ⟨g, 8, none⟩)) W := fun W => by go_simp
  have L8 : ∀ W : World, W.heap[g]? = some (.cells (CS tv) 53 (0, 0)) → (Instr.loadAt 51 (.pointer (some ⟨g, 8, none⟩))).run Tryz.prog W = .ok tv W := fun W h => by
    subst hCS
    have q : W.cell? ⟨g, 8, none⟩ = some tv := by rw [Lib.cell_of_heap h]; rfl
    go_simp
  have ST : ∀ (W : World) (ao : Option Addr) (m cap : Nat), W.heap[g]? = some (.cells (CS tv) 53 (0, 0)) → (Instr.storeAt 51 (.pointer (some ⟨g, 8, none⟩)) (.slice ao m cap)).run Tryz.prog W = .ok () (W.setCell ⟨g, 8, none⟩ (.slice ao m cap)) := fun W ao m cap h => by
    subst hCS
    have q : W.cell? ⟨g, 8, none⟩ = some tv := by rw [Lib.cell_of_heap h]; rfl
    have q2 : W.frozen? ⟨g, 8, none⟩ = false := by simp [World.frozen?, h]
    go_simp
  have S8 : ∀ {W : World} {u : Value}, W.heap[g]? = some (.cells (CS tv) 53 (0, 0)) → (W.setCell ⟨g, 8, none⟩ u).heap[g]? = some (.cells (CS u) 53 (0, 0)) := fun h => by subst hCS; exact set_8 h
  obtain ⟨FF, hFF⟩ : ∃ FF : FldR, FF = ⟨g, W1, tv, 5, 1, text.length, text.length + ub.size, u8V text, u8V text ++ Lib.strCells ub, 53, CS, #[], 7, 10, 100, fun k => match k with | 0 => some (.pointer (some ⟨g, 0, none⟩)) | 1 => some (.pointer (some ⟨g, 0, none⟩)) | 2 => some (.pointer (some ⟨g, 0, none⟩)) | 3 => some (.pointer (some ⟨g, 8, none⟩)) | 4 => some tv | 5 => some (.pointer (some ⟨g, 0, none⟩)) | 6 => some (.string ub) | 8 => some (.pointer (some ⟨g, 0, none⟩)) | 9 => some (.pointer (some ⟨g, 8, none⟩)) | _ => none⟩ := ⟨_, rfl⟩
  have H0 : FldR.S FF (fun _ => false) W1.drew := by rw [hFF]; exact ⟨fun _ => hgW, fun _ => hR1.1.weaken fun _ h => h.2, (Keep.refl _ W1).drew⟩
  refine wp_region_done (FldR.S FF) (FldR.P FF) (by kernel_rfl) (by kernel_rfl) (by kernel_rfl) H0 ?hs ?hd
  case hs =>
   rw [hFF]
   refine DSteps.cons ?_ (DSteps.cons ?_ (DSteps.cons ?_ (DSteps.cons ?_ (DSteps.cons ?_ (DSteps.cons ?_ (DSteps.cons ?_ (DSteps.cons ?_ (DSteps.cons ?_ (DSteps.cons ?_ (DSteps.cons ?_ (DSteps.nil)))))))))))
   · intro D2 a X hDi hDa _ hX hL hd
     refine ⟨rfl, ?_⟩
     have e0 : a.eval (.tmp 0) = .pointer (some ⟨g, 0, none⟩) := hL.far 0 (by kernel_rfl)
     exact wp_value (exec_move rfl e0) ⟨_, rfl, hX.more, fun _ _ _ h => h, FldR.P.mk rfl ⟨by simp, by simp, by simp⟩⟩
   · intro D2 a X hDi hDa _ hX hL hd
     refine ⟨rfl, ?_⟩
     have e0 : a.eval (.tmp 0) = .pointer (some ⟨g, 0, none⟩) := hL.far 0 (by kernel_rfl)
     exact wp_value (exec_move rfl e0) ⟨_, rfl, hX.more, fun _ _ _ h => h, FldR.P.mk rfl ⟨by simp, by simp, by simp⟩⟩
   · intro D2 a X hDi hDa _ hX hL hd
     refine ⟨rfl, ?_⟩
     have e0 : a.eval (.tmp 20) = .pointer (some ⟨g, 0, none⟩) := (hd 1 20 (by kernel_rfl) (by kernel_rfl)).is rfl
     exact wp_value (exec_nilCheck rfl e0) ⟨_, rfl, hX.more, fun _ _ _ h => h, FldR.P.mk rfl ⟨by simp, by simp, by simp⟩⟩
   · intro D2 a X hDi hDa _ hX hL hd
     refine ⟨rfl, ?_⟩
     have e0 : a.eval (.tmp 21) = .pointer (some ⟨g, 0, none⟩) := (hd 2 21 (by kernel_rfl) (by kernel_rfl)).is rfl
     exact wp_value (exec_fieldAddr rfl e0 (FS4 X)) ⟨_, rfl, hX.more, fun _ _ _ h => h, FldR.P.mk rfl ⟨by simp, by simp, by simp⟩⟩
   · intro D2 a X hDi hDa _ hX hL hd
     refine ⟨rfl, ?_⟩
     have e0 : a.eval (.tmp 22) = .pointer (some ⟨g, 8, none⟩) := (hd 3 22 (by kernel_rfl) (by kernel_rfl)).is rfl
     exact wp_value (exec_load rfl e0 (L8 X (hX.1 (hDa 10 (by kernel_rfl))))) ⟨_, rfl, hX.more, fun _ _ _ h => h, FldR.P.mk rfl ⟨by simp, by simp, by simp⟩⟩
   · intro D2 a X hDi hDa _ hX hL hd
     refine ⟨rfl, ?_⟩
     have e0 : a.eval (.tmp 0) = .pointer (some ⟨g, 0, none⟩) := hL.far 0 (by kernel_rfl)
     exact wp_value (exec_move rfl e0) ⟨_, rfl, hX.more, fun _ _ _ h => h, FldR.P.mk rfl ⟨by simp, by simp, by simp⟩⟩
   · intro D2 a X hDi hDa _ hX hL hd
     refine ⟨rfl, ?_⟩
     have e0 : a.eval (.tmp 24) = .pointer (some ⟨g, 0, none⟩) := (hd 5 24 (by kernel_rfl) (by kernel_rfl)).is rfl
     refine wp_enter (exec_call (vs := #[.pointer (some ⟨g, 0, none⟩)]) rfl (by simp only [List.map_toArray, List.map_cons, List.map_nil, e0]) Tryz.func73 rfl rfl) ?_
     refine (CUN.out X (hX.1 (hDa 10 (by kernel_rfl))) hX.2.2).mono ?_
     rintro e X2 ⟨rfl, hb⟩
     exact ⟨_, rfl, _, rfl, (hX.below hb).more, fun _ _ _ h => h.below hb, FldR.P.mk rfl ⟨by simp, by simp, by simp⟩⟩
   · intro D2 a X hDi hDa _ hX hL hd
     refine ⟨rfl, ?_⟩
     have e0 : a.eval (.tmp 23) = tv := (hd 4 23 (by kernel_rfl) (by kernel_rfl)).is rfl
     have e1 : a.eval (.tmp 25) = .string ub := (hd 6 25 (by kernel_rfl) (by kernel_rfl)).is rfl
     have h28 := hDa 10 (by kernel_rfl)
     obtain ⟨v', X2, hrun, ho2, hk2⟩ := append_st (P := Tryz.prog) X 51 9 5 Tryz.underlying51 Tryz.underlying9 tinfo5 (hX.2.1 hDi) ub hlm
     exact wp_append_run rfl e0 e1 (hrun _) ⟨v', rfl, hX.app htg h28 hk2, fun j u hj h => h.app htl hk2 (fun e => by subst e; rw [hDi] at hj; cases hj) (fun e => by subst e; rw [h28] at hj; cases hj), FldR.P.row rfl ⟨by simp, by simp⟩ (FldR.row_of (A := W1) hX.2.2.size hgF htg ho2 rfl)⟩
   · intro D2 a X hDi hDa _ hX hL hd
     refine ⟨rfl, ?_⟩
     have e0 : a.eval (.tmp 19) = .pointer (some ⟨g, 0, none⟩) := (hd 0 19 (by kernel_rfl) (by kernel_rfl)).is rfl
     exact wp_value (exec_nilCheck rfl e0) ⟨_, rfl, hX.more, fun _ _ _ h => h, FldR.P.mk rfl ⟨by simp, by simp, by simp⟩⟩
   · intro D2 a X hDi hDa _ hX hL hd
     refine ⟨rfl, ?_⟩
     have e0 : a.eval (.tmp 27) = .pointer (some ⟨g, 0, none⟩) := (hd 8 27 (by kernel_rfl) (by kernel_rfl)).is rfl
     exact wp_value (exec_fieldAddr rfl e0 (FS4 X)) ⟨_, rfl, hX.more, fun _ _ _ h => h, FldR.P.mk rfl ⟨by simp, by simp, by simp⟩⟩
   · intro D2 a X hDi hDa _ hX hL hd
     refine ⟨rfl, ?_⟩
     have e0 : a.eval (.tmp 28) = .pointer (some ⟨g, 8, none⟩) := (hd 9 28 (by kernel_rfl) (by kernel_rfl)).is rfl
     obtain ⟨ao, ln, cp, he, ho⟩ := (hd 7 26 (by kernel_rfl) (by kernel_rfl)).2.2.1 rfl
     have hc := hX.1 hDi
     exact wp_skipped (exec_store rfl e0 he (ST X _ _ _ hc)) ⟨undef, rfl, hX.store, fun j u hj h => h.store hgF (fun e => by subst e; rw [hDi] at hj; cases hj), FldR.P.last rfl ⟨by simp, by simp⟩ ⟨_, FldR.Row.store ⟨ao, ln, cp, rfl, by rw [← he]; exact ho⟩, S8 hc⟩⟩
  case hd =>
   intro D2 a X hAll hX hL hP hE
   obtain ⟨_, hp⟩ := hE 10 (by decide)
   rw [hFF] at hp hX
   obtain ⟨u, ⟨ao, ln, cp, rfl, ho⟩, hu⟩ := hp.2.2.2 rfl
   have hK := hX.2.2
   obtain ⟨f, ha, hf⟩ := hL.out [19, 20, 21, 22, 23, 24, 25, 26, 27, 28] rfl
   have HF := Lib.hid (And.intro ho (And.intro hu (And.intro hK (And.intro hCS (And.intro hk01 (And.intro hR1 (And.intro huL hD1)))))))
   clear hf hAll hP hX hL hE hp ho hu hK hCS FS4 L8 ST S8 htg htl hlm hgF H0 hFF hgW hk01 hR1 huL hD1 CUN hub hdt huz
   simp only [List.foldl_cons, List.foldl_nil, List.setIfInBounds_toArray, List.set_cons_zero, List.set_cons_succ] at ha
   subst ha
   go_wp2
   refine HQ _ _ _ _ (by intro l h; cases h) ?_
   go_ret2
   obtain ⟨ho, hu, hK, hCS, hk01, hR1, huL, hD1⟩ := HF.out
   subst hCS
   have e1 : text.length + ub.size = (text ++ unitL s i).length := by rw [huL, List.length_append]; rfl
   have e2 : u8V text ++ Lib.strCells ub = u8V (text ++ unitL s i) := by rw [huL]; simp [u8V, Lib.strCells]
   simp only at ho hu hK
   rw [e1, e2] at ho
   exact ⟨HW.out.trans ((Rows.belowg HD.out.1 HD.out.2 hk01).trans (hR1.belowt hD1 HD.out.2 hK)), rfl, .of hu HD.out.2 (hR1.text hD1 hK ho)⟩
set_option maxHeartbeats 8000000 in
set_option maxRecDepth 100000 in
theorem piece_quoted (s : ByteArray) (c : Sc) (r : Int) (D g : Nat) (w0 w : World) (hD0 : D ≤ w0.heap.size) (h5 : c.st = 5) (hS : ScAt D g s c w) (hE : ∀ X, KeepG D g w0 X → SEnv X) (hW : KeepG D g w0 w) (hr : 0 ≤ r) (h92 : r = 92 → c.here.2.2 < s.size) (hi : c.here.2.2 ≤ s.size) (hs : s.size ≤ 1048576) (hm : c.text.length ≤ 8388000) :
    Calls Tryz.prog 47 #[.pointer (some ⟨g, 0, none⟩), .int .i32 r] w (PieceOut D g s w0 (quotedS s c r)) := by
  have hD : D ≤ w.heap.size := Nat.le_trans hD0 hW.size
  have hE1 : ∀ X : World, KeepG D g w X → SEnv X := fun X hk => hE X (hW.trans hk)
  have HW := Lib.hid hW
  clear hE hW hD0
  obtain ⟨st, ⟨l1, c1, i⟩, ⟨l2, c2, i2⟩, text, ⟨l3, c3, i3⟩, bh, toks⟩ := c
  obtain ⟨tv, kv, hg, hDg, hR⟩ := hS
  simp only at h92 hi hm hR hg
  have hgl : g < w.heap.size := (Array.getElem?_eq_some_iff.1 hg).1
  have k1 : w.cell? ⟨g, 1, none⟩ = some (.int .i64 (st : Nat)) := by rw [Lib.cell_of_heap hg]; rfl
  have f1 : w.frozen? ⟨g, 1, none⟩ = false := by simp [World.frozen?, hg]
  have k2 : w.cell? ⟨g, 2, none⟩ = some (.int .i64 (l1 : Nat)) := by rw [Lib.cell_of_heap hg]; rfl
  have k3 : w.cell? ⟨g, 3, none⟩ = some (.int .i64 (c1 : Nat)) := by rw [Lib.cell_of_heap hg]; rfl
  have k4 : w.cell? ⟨g, 4, none⟩ = some (.int .i64 (i : Nat)) := by rw [Lib.cell_of_heap hg]; rfl
  have HG := Lib.hid hg
  have HR := Lib.hid (show Rows D g tv kv text toks w from hR)
  have HD := Lib.hid (And.intro hD hDg)
  have HE := Lib.hid hE1
  clear hR hE1 hD hDg
  simp only at h5
  subst h5
  have k1 : w.cell? ⟨g, 1, none⟩ = some (.int .i64 5) := k1
  by_cases r39 : r = 39
  · subst r39
    have hP : quotedS s ⟨5, (l1, c1, i), (l2, c2, i2), text, (l3, c3, i3), bh, toks⟩ 39 = .took ⟨6, (l1, c1, i), (l2, c2, i2), text, (l3, c3, i3), bh, toks⟩ := by unfold quotedS; rw [if_pos rfl]
    rw [hP]
    clear hP h92
    go_enter Tryz.func47, Tryz.ntmps47
    go_wp2
    refine wp_scope_far 4 fun F HQ HJ => ?_
    go_wp2
    refine wp_goto ?_
    refine HJ.out 3 0 _ _ _ (by rfl) ?_
    go_wp2
    refine HQ _ _ _ _ (by intro l h; cases h) ?_
    go_ret2
    have hk := keep_set (g := g) (k := 1) (u := .int .i64 6) (Keep.refl _ w)
    exact ⟨HW.out.trans (Rows.belowg HD.out.1 HD.out.2 hk), rfl, .of (set_1 (z := 6) HG.out) HD.out.2 (HR.out.keepg hk)⟩
  have n39 : (r == 39) = false := by simpa using r39
  have hP : quotedS s ⟨5, (l1, c1, i), (l2, c2, i2), text, (l3, c3, i3), bh, toks⟩ r = .took ⟨5, (l1, c1, i), (l2, c2, i2), text ++ unitL s i, (l3, c3, i3), bh, toks⟩ := by skip; unfold quotedS; rw [if_neg r39]
  rw [hP]
  clear hP h92
  go_enter Tryz.func47, Tryz.ntmps47
  go_wp2
  refine wp_scope_far 4 fun F HQ HJ => ?_
  go_wp2
  refine wp_goto ?_
  refine HJ.out 3 0 _ _ _ (by rfl) ?_
  go_wp2
  obtain ⟨ub, hub⟩ : ∃ ub, s.extract i (i + unitW s i) = ub := ⟨_, rfl⟩
  have huL : unitL s i = ub.data.toList := by unfold unitL; rw [hub]
  have huz : ub.size ≤ 4 := by rw [← hub, ByteArray.size_extract]; have := unitW_bd s i hi; omega
  obtain ⟨CS, hCS⟩ : ∃ CS : Value → Array Value, CS = fun u => scC s (5 : Nat) (l1 : Nat) (c1 : Nat) (i : Nat) (l2 : Nat) (c2 : Nat) (i2 : Nat) u (l3 : Nat) (c3 : Nat) (i3 : Nat) (bh : Nat) kv := ⟨_, rfl⟩
  have hk01 : Keep (fun b => b = g) w (w) := Keep.refl _ w
  have hgW : (w).heap[g]? = some (.cells (CS tv) 53 (0, 0)) := by rw [hCS]; exact HG.out
  generalize w = W1 at *
  have hR1 := HR.out.keepg hk01
  have hD1 : D ≤ W1.heap.size := Nat.le_trans HD.out.1 hk01.size
  have hgF : g < W1.heap.size := (Array.getElem?_eq_some_iff.1 hgW).1
  have htg : tv.ownBlock ≠ some g := fun h => (hR1.1.2 g h).2 rfl
  have htl : ∀ b, tv.ownBlock = some b → b < W1.heap.size := fun b h => (hR1.1.1.lt b h).2
  have hlm : text.length + ub.size ≤ 140737488355328 := by omega
  have hdt : ∀ b, b = g ∨ tv.ownBlock = some b → b = g ∨ D ≤ b := fun b h => by
    rcases h with h | h
    · exact .inl h
    · exact .inr (hR1.1.2 b h).1
  have CUN : Hid (∀ X : World, X.heap[g]? = some (.cells (CS tv) 53 (0, 0)) → Keep (fun b => b = g ∨ tv.ownBlock = some b) W1 X → Calls Tryz.prog 73 #[.pointer (some ⟨g, 0, none⟩)] X fun e w' => e = .returned (.string ub) ∧ Below X.heap.size X w') := Lib.hid fun X hX hk => by
    rw [← hub]
    subst hCS
    exact sunit_any s _ _ _ _ _ _ _ _ _ _ i tv kv g X hX hi (by omega) (HE.out X ((hk01.weaken fun _ _ e => hdt _ (Or.inl e)).trans (hk.weaken fun _ _ e => hdt _ e)))
  have FS4 : ∀ W : World, (Instr.fieldAt 53 (.pointer (some ⟨g, 0, none⟩)) 4).run Tryz.prog W = .ok (.pointer (some ⟨g, 8, none⟩)) W := fun W => by go_simp
  have L8 : ∀ W : World, W.heap[g]? = some (.cells (CS tv) 53 (0, 0)) → (Instr.loadAt 51 (.pointer (some ⟨g, 8, none⟩))).run Tryz.prog W = .ok tv W := fun W h => by
    subst hCS
    have q : W.cell? ⟨g, 8, none⟩ = some tv := by rw [Lib.cell_of_heap h]; rfl
    go_simp
  have ST : ∀ (W : World) (ao : Option Addr) (m cap : Nat), W.heap[g]? = some (.cells (CS tv) 53 (0, 0)) → (Instr.storeAt 51 (.pointer (some ⟨g, 8, none⟩)) (.slice ao m cap)).run Tryz.prog W = .ok () (W.setCell ⟨g, 8, none⟩ (.slice ao m cap)) := fun W ao m cap h => by
    subst hCS
    have q : W.cell? ⟨g, 8, none⟩ = some tv := by rw [Lib.cell_of_heap h]; rfl
    have q2 : W.frozen? ⟨g, 8, none⟩ = false := by simp [World.frozen?, h]
    go_simp
  have S8 : ∀ {W : World} {u : Value}, W.heap[g]? = some (.cells (CS tv) 53 (0, 0)) → (W.setCell ⟨g, 8, none⟩ u).heap[g]? = some (.cells (CS u) 53 (0, 0)) := fun h => by subst hCS; exact set_8 h
  obtain ⟨FF, hFF⟩ : ∃ FF : FldR, FF = ⟨g, W1, tv, 5, 1, text.length, text.length + ub.size, u8V text, u8V text ++ Lib.strCells ub, 53, CS, #[], 7, 10, 100, fun k => match k with | 0 => some (.pointer (some ⟨g, 0, none⟩)) | 1 => some (.pointer (some ⟨g, 0, none⟩)) | 2 => some (.pointer (some ⟨g, 0, none⟩)) | 3 => some (.pointer (some ⟨g, 8, none⟩)) | 4 => some tv | 5 => some (.pointer (some ⟨g, 0, none⟩)) | 6 => some (.string ub) | 8 => some (.pointer (some ⟨g, 0, none⟩)) | 9 => some (.pointer (some ⟨g, 8, none⟩)) | _ => none⟩ := ⟨_, rfl⟩
  have H0 : FldR.S FF (fun _ => false) W1.drew := by rw [hFF]; exact ⟨fun _ => hgW, fun _ => hR1.1.weaken fun _ h => h.2, (Keep.refl _ W1).drew⟩
  refine wp_region_done (FldR.S FF) (FldR.P FF) (by kernel_rfl) (by kernel_rfl) (by kernel_rfl) H0 ?hs ?hd
  case hs =>
   rw [hFF]
   refine DSteps.cons ?_ (DSteps.cons ?_ (DSteps.cons ?_ (DSteps.cons ?_ (DSteps.cons ?_ (DSteps.cons ?_ (DSteps.cons ?_ (DSteps.cons ?_ (DSteps.cons ?_ (DSteps.cons ?_ (DSteps.cons ?_ (DSteps.nil)))))))))))
   · intro D2 a X hDi hDa _ hX hL hd
     refine ⟨rfl, ?_⟩
     have e0 : a.eval (.tmp 0) = .pointer (some ⟨g, 0, none⟩) := hL.far 0 (by kernel_rfl)
     exact wp_value (exec_move rfl e0) ⟨_, rfl, hX.more, fun _ _ _ h => h, FldR.P.mk rfl ⟨by simp, by simp, by simp⟩⟩
   · intro D2 a X hDi hDa _ hX hL hd
     refine ⟨rfl, ?_⟩
     have e0 : a.eval (.tmp 0) = .pointer (some ⟨g, 0, none⟩) := hL.far 0 (by kernel_rfl)
     exact wp_value (exec_move rfl e0) ⟨_, rfl, hX.more, fun _ _ _ h => h, FldR.P.mk rfl ⟨by simp, by simp, by simp⟩⟩
   · intro D2 a X hDi hDa _ hX hL hd
     refine ⟨rfl, ?_⟩
     have e0 : a.eval (.tmp 60) = .pointer (some ⟨g, 0, none⟩) := (hd 1 60 (by kernel_rfl) (by kernel_rfl)).is rfl
     exact wp_value (exec_nilCheck rfl e0) ⟨_, rfl, hX.more, fun _ _ _ h => h, FldR.P.mk rfl ⟨by simp, by simp, by simp⟩⟩
   · intro D2 a X hDi hDa _ hX hL hd
     refine ⟨rfl, ?_⟩
     have e0 : a.eval (.tmp 61) = .pointer (some ⟨g, 0, none⟩) := (hd 2 61 (by kernel_rfl) (by kernel_rfl)).is rfl
     exact wp_value (exec_fieldAddr rfl e0 (FS4 X)) ⟨_, rfl, hX.more, fun _ _ _ h => h, FldR.P.mk rfl ⟨by simp, by simp, by simp⟩⟩
   · intro D2 a X hDi hDa _ hX hL hd
     refine ⟨rfl, ?_⟩
     have e0 : a.eval (.tmp 62) = .pointer (some ⟨g, 8, none⟩) := (hd 3 62 (by kernel_rfl) (by kernel_rfl)).is rfl
     exact wp_value (exec_load rfl e0 (L8 X (hX.1 (hDa 10 (by kernel_rfl))))) ⟨_, rfl, hX.more, fun _ _ _ h => h, FldR.P.mk rfl ⟨by simp, by simp, by simp⟩⟩
   · intro D2 a X hDi hDa _ hX hL hd
     refine ⟨rfl, ?_⟩
     have e0 : a.eval (.tmp 0) = .pointer (some ⟨g, 0, none⟩) := hL.far 0 (by kernel_rfl)
     exact wp_value (exec_move rfl e0) ⟨_, rfl, hX.more, fun _ _ _ h => h, FldR.P.mk rfl ⟨by simp, by simp, by simp⟩⟩
   · intro D2 a X hDi hDa _ hX hL hd
     refine ⟨rfl, ?_⟩
     have e0 : a.eval (.tmp 64) = .pointer (some ⟨g, 0, none⟩) := (hd 5 64 (by kernel_rfl) (by kernel_rfl)).is rfl
     refine wp_enter (exec_call (vs := #[.pointer (some ⟨g, 0, none⟩)]) rfl (by simp only [List.map_toArray, List.map_cons, List.map_nil, e0]) Tryz.func73 rfl rfl) ?_
     refine (CUN.out X (hX.1 (hDa 10 (by kernel_rfl))) hX.2.2).mono ?_
     rintro e X2 ⟨rfl, hb⟩
     exact ⟨_, rfl, _, rfl, (hX.below hb).more, fun _ _ _ h => h.below hb, FldR.P.mk rfl ⟨by simp, by simp, by simp⟩⟩
   · intro D2 a X hDi hDa _ hX hL hd
     refine ⟨rfl, ?_⟩
     have e0 : a.eval (.tmp 63) = tv := (hd 4 63 (by kernel_rfl) (by kernel_rfl)).is rfl
     have e1 : a.eval (.tmp 65) = .string ub := (hd 6 65 (by kernel_rfl) (by kernel_rfl)).is rfl
     have h28 := hDa 10 (by kernel_rfl)
     obtain ⟨v', X2, hrun, ho2, hk2⟩ := append_st (P := Tryz.prog) X 51 9 5 Tryz.underlying51 Tryz.underlying9 tinfo5 (hX.2.1 hDi) ub hlm
     exact wp_append_run rfl e0 e1 (hrun _) ⟨v', rfl, hX.app htg h28 hk2, fun j u hj h => h.app htl hk2 (fun e => by subst e; rw [hDi] at hj; cases hj) (fun e => by subst e; rw [h28] at hj; cases hj), FldR.P.row rfl ⟨by simp, by simp⟩ (FldR.row_of (A := W1) hX.2.2.size hgF htg ho2 rfl)⟩
   · intro D2 a X hDi hDa _ hX hL hd
     refine ⟨rfl, ?_⟩
     have e0 : a.eval (.tmp 59) = .pointer (some ⟨g, 0, none⟩) := (hd 0 59 (by kernel_rfl) (by kernel_rfl)).is rfl
     exact wp_value (exec_nilCheck rfl e0) ⟨_, rfl, hX.more, fun _ _ _ h => h, FldR.P.mk rfl ⟨by simp, by simp, by simp⟩⟩
   · intro D2 a X hDi hDa _ hX hL hd
     refine ⟨rfl, ?_⟩
     have e0 : a.eval (.tmp 67) = .pointer (some ⟨g, 0, none⟩) := (hd 8 67 (by kernel_rfl) (by kernel_rfl)).is rfl
     exact wp_value (exec_fieldAddr rfl e0 (FS4 X)) ⟨_, rfl, hX.more, fun _ _ _ h => h, FldR.P.mk rfl ⟨by simp, by simp, by simp⟩⟩
   · intro D2 a X hDi hDa _ hX hL hd
     refine ⟨rfl, ?_⟩
     have e0 : a.eval (.tmp 68) = .pointer (some ⟨g, 8, none⟩) := (hd 9 68 (by kernel_rfl) (by kernel_rfl)).is rfl
     obtain ⟨ao, ln, cp, he, ho⟩ := (hd 7 66 (by kernel_rfl) (by kernel_rfl)).2.2.1 rfl
     have hc := hX.1 hDi
     exact wp_skipped (exec_store rfl e0 he (ST X _ _ _ hc)) ⟨undef, rfl, hX.store, fun j u hj h => h.store hgF (fun e => by subst e; rw [hDi] at hj; cases hj), FldR.P.last rfl ⟨by simp, by simp⟩ ⟨_, FldR.Row.store ⟨ao, ln, cp, rfl, by rw [← he]; exact ho⟩, S8 hc⟩⟩
  case hd =>
   intro D2 a X hAll hX hL hP hE
   obtain ⟨_, hp⟩ := hE 10 (by decide)
   rw [hFF] at hp hX
   obtain ⟨u, ⟨ao, ln, cp, rfl, ho⟩, hu⟩ := hp.2.2.2 rfl
   have hK := hX.2.2
   obtain ⟨f, ha, hf⟩ := hL.out [59, 60, 61, 62, 63, 64, 65, 66, 67, 68] rfl
   have HF := Lib.hid (And.intro ho (And.intro hu (And.intro hK (And.intro hCS (And.intro hk01 (And.intro hR1 (And.intro huL hD1)))))))
   clear hf hAll hP hX hL hE hp ho hu hK hCS FS4 L8 ST S8 htg htl hlm hgF H0 hFF hgW hk01 hR1 huL hD1 CUN hub hdt huz
   simp only [List.foldl_cons, List.foldl_nil, List.setIfInBounds_toArray, List.set_cons_zero, List.set_cons_succ] at ha
   subst ha
   go_wp2
   refine HQ _ _ _ _ (by intro l h; cases h) ?_
   go_ret2
   obtain ⟨ho, hu, hK, hCS, hk01, hR1, huL, hD1⟩ := HF.out
   subst hCS
   have e1 : text.length + ub.size = (text ++ unitL s i).length := by rw [huL, List.length_append]; rfl
   have e2 : u8V text ++ Lib.strCells ub = u8V (text ++ unitL s i) := by rw [huL]; simp [u8V, Lib.strCells]
   simp only at ho hu hK
   rw [e1, e2] at ho
   exact ⟨HW.out.trans ((Rows.belowg HD.out.1 HD.out.2 hk01).trans (hR1.belowt hD1 HD.out.2 hK)), rfl, .of hu HD.out.2 (hR1.text hD1 hK ho)⟩
set_option maxHeartbeats 8000000 in
set_option maxRecDepth 100000 in
theorem piece_closing (s : ByteArray) (c : Sc) (r : Int) (D g : Nat) (w0 w : World) (hD0 : D ≤ w0.heap.size) (h5 : c.st = 6) (hS : ScAt D g s c w) (hE : ∀ X, KeepG D g w0 X → SEnv X) (hW : KeepG D g w0 w) (hr : 0 ≤ r) (h92 : r = 92 → c.here.2.2 < s.size) (hi : c.here.2.2 ≤ s.size) (hs : s.size ≤ 1048576) (hm : c.text.length ≤ 8388000) :
    Calls Tryz.prog 47 #[.pointer (some ⟨g, 0, none⟩), .int .i32 r] w (PieceOut D g s w0 (closingS s c r)) := by
  have hD : D ≤ w.heap.size := Nat.le_trans hD0 hW.size
  have hE1 : ∀ X : World, KeepG D g w X → SEnv X := fun X hk => hE X (hW.trans hk)
  have HW := Lib.hid hW
  clear hE hW hD0
  obtain ⟨st, ⟨l1, c1, i⟩, ⟨l2, c2, i2⟩, text, ⟨l3, c3, i3⟩, bh, toks⟩ := c
  obtain ⟨tv, kv, hg, hDg, hR⟩ := hS
  simp only at h92 hi hm hR hg
  have hgl : g < w.heap.size := (Array.getElem?_eq_some_iff.1 hg).1
  have k1 : w.cell? ⟨g, 1, none⟩ = some (.int .i64 (st : Nat)) := by rw [Lib.cell_of_heap hg]; rfl
  have f1 : w.frozen? ⟨g, 1, none⟩ = false := by simp [World.frozen?, hg]
  have k2 : w.cell? ⟨g, 2, none⟩ = some (.int .i64 (l1 : Nat)) := by rw [Lib.cell_of_heap hg]; rfl
  have k3 : w.cell? ⟨g, 3, none⟩ = some (.int .i64 (c1 : Nat)) := by rw [Lib.cell_of_heap hg]; rfl
  have k4 : w.cell? ⟨g, 4, none⟩ = some (.int .i64 (i : Nat)) := by rw [Lib.cell_of_heap hg]; rfl
  have HG := Lib.hid hg
  have HR := Lib.hid (show Rows D g tv kv text toks w from hR)
  have HD := Lib.hid (And.intro hD hDg)
  have HE := Lib.hid hE1
  clear hR hE1 hD hDg
  simp only at h5
  subst h5
  have k1 : w.cell? ⟨g, 1, none⟩ = some (.int .i64 6) := k1
  by_cases r39 : r = 39
  · subst r39
    have hP : closingS s ⟨6, (l1, c1, i), (l2, c2, i2), text, (l3, c3, i3), bh, toks⟩ 39 = .took ⟨5, (l1, c1, i), (l2, c2, i2), text ++ [39], (l3, c3, i3), bh, toks⟩ := by unfold closingS; rw [if_pos rfl]
    rw [hP]
    clear hP h92
    obtain ⟨ti, hti, hz, hs1, hb1⟩ := info_parts tinfo5
    have hbA : Below w.heap.size w (w.alloc (.cells #[.int .u8 39] 5)) := (Below.refl _ w).alloc (Nat.le_refl _) _
    have hRA := HR.out.below hbA
    have hbl : (w.alloc (.cells #[.int .u8 39] 5)).heap[w.heap.size]? = some (.cells #[.int .u8 39] 5 (0, 0)) := World.alloc_heap_new w _
    have hlm : (text.length + 1) * 1 ≤ 140737488355328 := by omega
    obtain ⟨g2, cap, w2, hr2, ho2, hgr, hat, _⟩ := run_append_lies (P := Tryz.prog) (w.alloc (.cells #[.int .u8 39] 5)) 51 51 0 5 ti (.int .u8 0) 1 1 Tryz.underlying51 hti hz hs1 hb1 rfl (by decide) tv text.length (u8V text) hRA.1.1 ⟨w.heap.size, 0, none⟩ 1 1 [.int .u8 39] rfl (World.news_of_block hbl) (by intro u hu; simp at hu; subst hu; rfl) (by decide) (by unfold maxLen; omega) hlm (Nat.zero_le _) _ rfl
    have hrA : ∀ ty, (Builtin.append_ #[51, 51] ty #[tv, .slice (some ⟨w.heap.size, 0, none⟩) 1 1]).run Tryz.prog (w.alloc (.cells #[.int .u8 39] 5)) = .ok (.slice (some ⟨g2, 0, none⟩) (text.length + 1) cap) w2 := fun ty => hr2
    have hk2 : Keep (fun b => tv.ownBlock = some b) (w.alloc (.cells #[.int .u8 39] 5)) w2 := keep_grown hgr
    have htg : tv.ownBlock ≠ some g := fun h => (hRA.1.2 g h).2 rfl
    have hgA : (w.alloc (.cells #[.int .u8 39] 5)).heap[g]? = some (.cells (scC s (6 : Nat) (l1 : Nat) (c1 : Nat) (i : Nat) (l2 : Nat) (c2 : Nat) (i2 : Nat) tv (l3 : Nat) (c3 : Nat) (i3 : Nat) (bh : Nat) kv) 53 (0, 0)) := (hbA.block g hgl).trans HG.out
    have hg2 := hk2.heap hgA htg
    have q1 : w2.cell? ⟨g, 1, none⟩ = some (.int .i64 6) := by rw [Lib.cell_of_heap hg2]; rfl
    have e1 : w2.frozen? ⟨g, 1, none⟩ = false := by simp [World.frozen?, hg2]
    have q8 : w2.cell? ⟨g, 8, none⟩ = some tv := by rw [Lib.cell_of_heap hg2]; rfl
    have e8 : w2.frozen? ⟨g, 8, none⟩ = false := by simp [World.frozen?, hg2]
    have a8 : (w.alloc (.cells #[.int .u8 39] 5)).cell? ⟨g, 8, none⟩ = some tv := by rw [Lib.cell_of_heap hgA]; rfl
    have k8 : w.cell? ⟨g, 8, none⟩ = some tv := by rw [Lib.cell_of_heap HG.out]; rfl
    have hzA : (w.alloc (.cells #[.int .u8 39] 5)).heap.size = w.heap.size + 1 := by simp
    have HRun := Lib.hid hrA
    have HF := Lib.hid (And.intro ho2 (And.intro hk2 (And.intro hg2 (And.intro hat (And.intro htg (And.intro hRA (And.intro hbA hzA)))))))
    clear hrA ho2 hgr hat hk2 hg2 hgA htg hti hz hs1 hb1 hbl hRA hbA hr2 hlm hzA a8
    go_enter Tryz.func47, Tryz.ntmps47
    go_wp2
    refine wp_scope_far 4 fun F HQ HJ => ?_
    go_wp2
    refine wp_goto ?_
    refine HJ.out 3 1 _ _ _ (by rfl) ?_
    go_wp2_with (at_builtin; refine wpList_append_eq rfl rfl rfl rfl HRun.out ?_)
    refine HQ _ _ _ _ (by intro l h; cases h) ?_
    go_ret2
    obtain ⟨ho2, hk2, hg2, hat, htg, hRA, hbA, hzA⟩ := HF.out
    have hk3 := keep_set (g := g) (k := 1) (u := .int .i64 5) (keep_set (g := g) (k := 8) (u := .slice (some ⟨g2, 0, none⟩) (text.length + 1) cap) (Keep.refl _ w2))
    have hk4 : Keep (fun b => b = g ∨ tv.ownBlock = some b) w _ := ((Keep.of_all hbA).trans (hk2.weaken fun _ _ h => .inr h)).trans (hk3.weaken fun _ _ h => .inl h)
    have hoo : OwnS (fun b => (tv.ownBlock = some b ∨ w.heap.size ≤ b) ∧ b ≠ g) 5 1 (.slice (some ⟨g2, 0, none⟩) (text.length + 1) cap) (text.length + 1) (u8V text ++ [.int .u8 39]) w2 := ⟨ho2, fun b hb => by
      have : g2 = b := by simpa [Value.ownBlock] using hb
      subst this
      rcases hat with h | h
      · exact ⟨.inl h, fun e => htg (e ▸ h)⟩
      · exact ⟨.inr (by omega), by omega⟩⟩
    have ho3 := hoo.keep hk3 (fun b e h => h.2 e)
    have x1 : text.length + 1 = (text ++ [39]).length := by simp
    have x2 : u8V text ++ [.int .u8 39] = u8V (text ++ [39]) := by simp [u8V]
    rw [x2] at ho3
    exact ⟨HW.out.trans (HR.out.belowt HD.out.1 HD.out.2 hk4), rfl, .of (set_1 (z := 5) (set_8 (u := .slice (some ⟨g2, 0, none⟩) (text.length + 1) cap) hg2)) HD.out.2 (HR.out.text HD.out.1 hk4 (by rw [← x1]; exact ho3))⟩
  have m39 : (r != 39) = true := by simpa using r39
  by_cases r92 : r = 92
  · subst r92
    obtain ⟨o, ho⟩ : ∃ o, unescV (s.extract i s.size) = o := ⟨_, rfl⟩
    cases o with
    | none =>
      have hP : closingS s ⟨6, (l1, c1, i), (l2, c2, i2), text, (l3, c3, i3), bh, toks⟩ 92 = .bad 9 (l1, c1, i) := by unfold closingS; rw [if_neg (by first | exact r39 | decide)]; unfold plainS; rw [if_neg (by decide), if_pos rfl]; simp only; rw [ho]
      rw [hP]
      have hi92 : i < s.size := h92 rfl
      clear hP h92
      go_enter Tryz.func47, Tryz.ntmps47
      go_wp2
      refine wp_scope_far 4 fun F HQ HJ => ?_
      go_wp2
      refine wp_goto ?_
      refine HJ.out 3 1 _ _ _ (by rfl) ?_
      go_wp2
      refine wp_goto ?_
      refine HJ.out 2 3 _ _ _ (by rfl) ?_
      have CE := Lib.hid (escape_raw s 4 l2 c2 i2 l3 c3 i3 bh l1 c1 i tv kv g (w.setCell ⟨g, 1, none⟩ (.int .i64 4)) text.length (u8V text) (set_1 HG.out) (((HR.out.keepg (keep_set (Keep.refl _ w))).1).weaken fun _ h => h.2) (by omega) hi92 hs (HE.out _ ((keep_set (g := g) (Keep.refl _ w)).weaken fun _ _ e => .inl e)))
      rw [ho] at CE
      clear ho hi92
      go_wp2_with fail
      refine CE.out.mono ?_
      rintro e w2 ⟨rfl, hb2⟩
      have HB2 := Lib.hid hb2
      clear hb2
      go_wp2
      refine HQ _ _ _ _ (by intro l h; cases h) ?_
      go_ret2
      have hb0 := Rows.belowg HD.out.1 HD.out.2 (keep_set (g := g) (k := 1) (u := .int .i64 4) (Keep.refl _ w))
      exact ⟨HW.out.trans (hb0.trans (toG HB2.out)), rfl⟩
    | some z =>
      obtain ⟨t, k⟩ := z
      have hP : closingS s ⟨6, (l1, c1, i), (l2, c2, i2), text, (l3, c3, i3), bh, toks⟩ 92 = .took ⟨7, (l1, c1, i), (l2, c2, i2), text ++ t, (l3, c3, i3), i + k, toks⟩ := by unfold closingS; rw [if_neg (by first | exact r39 | decide)]; unfold plainS; rw [if_neg (by decide), if_pos rfl]; simp only; rw [ho]
      rw [hP]
      have hi92 : i < s.size := h92 rfl
      clear hP h92
      go_enter Tryz.func47, Tryz.ntmps47
      go_wp2
      refine wp_scope_far 4 fun F HQ HJ => ?_
      go_wp2
      refine wp_goto ?_
      refine HJ.out 3 1 _ _ _ (by rfl) ?_
      go_wp2
      refine wp_goto ?_
      refine HJ.out 2 3 _ _ _ (by rfl) ?_
      have CE := Lib.hid (escape_raw s 4 l2 c2 i2 l3 c3 i3 bh l1 c1 i tv kv g (w.setCell ⟨g, 1, none⟩ (.int .i64 4)) text.length (u8V text) (set_1 HG.out) (((HR.out.keepg (keep_set (Keep.refl _ w))).1).weaken fun _ h => h.2) (by omega) hi92 hs (HE.out _ ((keep_set (g := g) (Keep.refl _ w)).weaken fun _ _ e => .inl e)))
      rw [ho] at CE
      clear ho hi92
      go_wp2_with fail
      refine CE.out.mono ?_
      rintro e w2 ⟨rfl, h2⟩
      have H2 := Lib.hid h2
      clear h2
      go_wp2
      refine HQ _ _ _ _ (by intro l h; cases h) ?_
      go_ret2
      obtain ⟨tv', hg2, ho2, hk2⟩ := H2.out
      have hk := keep_set (g := g) (k := 1) (u := .int .i64 4) (Keep.refl _ w)
      have hz : (w.setCell ⟨g, 1, none⟩ (.int .i64 4)).heap.size = w.heap.size := by simp
      have hR1 := HR.out.keepg hk
      have hD1 : D ≤ (w.setCell ⟨g, 1, none⟩ (.int .i64 4)).heap.size := by rw [hz]; exact HD.out.1
      have e1 : text.length + t.length = (text ++ t).length := by simp
      have e2 : u8V text ++ u8V t = u8V (text ++ t) := by simp [u8V]
      rw [e1, e2] at ho2
      exact ⟨HW.out.trans ((Rows.belowg HD.out.1 HD.out.2 hk).trans (hR1.belowt hD1 HD.out.2 hk2)), rfl, .of hg2 HD.out.2 (hR1.text hD1 hk2 ho2)⟩
  have n39 : (r == 39) = false := by simpa using r39
  have n92 : (r == 92) = false := by simpa using r92
  by_cases hb : isBlk r = true
  · skip
    have hP : closingS s ⟨6, (l1, c1, i), (l2, c2, i2), text, (l3, c3, i3), bh, toks⟩ r = .left ⟨4, (l1, c1, i), (l2, c2, i2), text, (l3, c3, i3), bh, toks⟩ := by unfold closingS; rw [if_neg (by first | exact r39 | decide)]; unfold plainS; rw [if_neg r39, if_neg r92, if_pos hb]
    rw [hP]
    have CB := Lib.hid (fun V => isBlank_any r V)
    rw [hb] at CB
    clear hP h92 hb hr
    go_enter Tryz.func47, Tryz.ntmps47
    go_wp2
    refine wp_scope_far 4 fun F HQ HJ => ?_
    go_wp2
    refine wp_goto ?_
    refine HJ.out 3 1 _ _ _ (by rfl) ?_
    go_wp2
    refine wp_goto ?_
    refine HJ.out 2 3 _ _ _ (by rfl) ?_
    go_wp2_with fail
    refine (CB.out _).mono ?_
    rintro e w' ⟨rfl, rfl⟩
    go_wp2
    refine HQ _ _ _ _ (by intro l h; cases h) ?_
    go_ret2
    have hk := keep_set (g := g) (k := 1) (u := .int .i64 4) (Keep.refl _ w)
    exact ⟨HW.out.trans (Rows.belowg HD.out.1 HD.out.2 hk), rfl, .of (set_1 (z := 4) HG.out) HD.out.2 (HR.out.keepg hk)⟩
  by_cases hg2 : isSgs r = true
  · skip
    have hP : closingS s ⟨6, (l1, c1, i), (l2, c2, i2), text, (l3, c3, i3), bh, toks⟩ r = .left ⟨4, (l1, c1, i), (l2, c2, i2), text, (l3, c3, i3), bh, toks⟩ := by unfold closingS; rw [if_neg (by first | exact r39 | decide)]; unfold plainS; rw [if_neg r39, if_neg r92, if_neg hb, if_pos hg2]
    rw [hP]
    have CB := Lib.hid (fun V => isBlank_any r V)
    rw [show isBlk r = false from by simpa using hb] at CB
    have CG := Lib.hid (fun V => isSigns_any r hr V)
    rw [hg2] at CG
    clear hP h92 hb hg2 hr
    go_enter Tryz.func47, Tryz.ntmps47
    go_wp2
    refine wp_scope_far 4 fun F HQ HJ => ?_
    go_wp2
    refine wp_goto ?_
    refine HJ.out 3 1 _ _ _ (by rfl) ?_
    go_wp2
    refine wp_goto ?_
    refine HJ.out 2 3 _ _ _ (by rfl) ?_
    go_wp2_with fail
    refine (CB.out _).mono ?_
    rintro e w' ⟨rfl, rfl⟩
    go_wp2_with fail
    refine (CG.out _).mono ?_
    rintro e w2 ⟨rfl, hb2⟩
    have HB2 := Lib.hid hb2
    clear hb2
    go_wp2
    refine HQ _ _ _ _ (by intro l h; cases h) ?_
    go_ret2
    have hk := keep_set (g := g) (k := 1) (u := .int .i64 4) (Keep.refl _ w)
    have hg2 := (HB2.out.block g (by simpa using hgl)).trans (set_1 (z := 4) HG.out)
    have hb0 := Rows.belowg HD.out.1 HD.out.2 hk
    exact ⟨HW.out.trans (hb0.trans (toG HB2.out)), rfl, .of hg2 HD.out.2 ((HR.out.keepg hk).below HB2.out)⟩
  have hP : closingS s ⟨6, (l1, c1, i), (l2, c2, i2), text, (l3, c3, i3), bh, toks⟩ r = .took ⟨4, (l1, c1, i), (l2, c2, i2), text ++ unitL s i, (l3, c3, i3), bh, toks⟩ := by unfold closingS; rw [if_neg (by first | exact r39 | decide)]; unfold plainS; rw [if_neg r39, if_neg r92, if_neg hb, if_neg hg2]
  rw [hP]
  clear hP h92
  have CB := Lib.hid (fun V => isBlank_any r V)
  rw [show isBlk r = false from by simpa using hb] at CB
  have CG := Lib.hid (fun V => isSigns_any r hr V)
  rw [show isSgs r = false from by simpa using hg2] at CG
  clear hr
  go_enter Tryz.func47, Tryz.ntmps47
  go_wp2
  refine wp_scope_far 4 fun F HQ HJ => ?_
  go_wp2
  refine wp_goto ?_
  refine HJ.out 3 1 _ _ _ (by rfl) ?_
  go_wp2
  refine wp_goto ?_
  refine HJ.out 2 3 _ _ _ (by rfl) ?_
  go_wp2_with fail
  refine (CB.out _).mono ?_
  rintro e w' ⟨rfl, rfl⟩
  go_wp2_with fail
  refine (CG.out _).mono ?_
  rintro e w2 ⟨rfl, hb2⟩
  have HB2 := Lib.hid hb2
  clear hb2
  go_wp2
  obtain ⟨ub, hub⟩ : ∃ ub, s.extract i (i + unitW s i) = ub := ⟨_, rfl⟩
  have huL : unitL s i = ub.data.toList := by unfold unitL; rw [hub]
  have huz : ub.size ≤ 4 := by rw [← hub, ByteArray.size_extract]; have := unitW_bd s i hi; omega
  obtain ⟨CS, hCS⟩ : ∃ CS : Value → Array Value, CS = fun u => scC s 4 (l1 : Nat) (c1 : Nat) (i : Nat) (l2 : Nat) (c2 : Nat) (i2 : Nat) u (l3 : Nat) (c3 : Nat) (i3 : Nat) (bh : Nat) kv := ⟨_, rfl⟩
  have hk01 : Keep (fun b => b = g) w (w2) := (keep_set (g := g) (k := 1) (u := .int .i64 4) (Keep.refl _ w)).then (HB2.out.mono (by simp))
  have hgW : (w2).heap[g]? = some (.cells (CS tv) 53 (0, 0)) := by rw [hCS]; exact (HB2.out.block g (by simpa using hgl)).trans (set_1 (z := 4) HG.out)
  generalize w2 = W1 at *
  have hR1 := HR.out.keepg hk01
  have hD1 : D ≤ W1.heap.size := Nat.le_trans HD.out.1 hk01.size
  have hgF : g < W1.heap.size := (Array.getElem?_eq_some_iff.1 hgW).1
  have htg : tv.ownBlock ≠ some g := fun h => (hR1.1.2 g h).2 rfl
  have htl : ∀ b, tv.ownBlock = some b → b < W1.heap.size := fun b h => (hR1.1.1.lt b h).2
  have hlm : text.length + ub.size ≤ 140737488355328 := by omega
  have hdt : ∀ b, b = g ∨ tv.ownBlock = some b → b = g ∨ D ≤ b := fun b h => by
    rcases h with h | h
    · exact .inl h
    · exact .inr (hR1.1.2 b h).1
  have CUN : Hid (∀ X : World, X.heap[g]? = some (.cells (CS tv) 53 (0, 0)) → Keep (fun b => b = g ∨ tv.ownBlock = some b) W1 X → Calls Tryz.prog 73 #[.pointer (some ⟨g, 0, none⟩)] X fun e w' => e = .returned (.string ub) ∧ Below X.heap.size X w') := Lib.hid fun X hX hk => by
    rw [← hub]
    subst hCS
    exact sunit_any s _ _ _ _ _ _ _ _ _ _ i tv kv g X hX hi (by omega) (HE.out X ((hk01.weaken fun _ _ e => hdt _ (Or.inl e)).trans (hk.weaken fun _ _ e => hdt _ e)))
  have FS4 : ∀ W : World, (Instr.fieldAt 53 (.pointer (some ⟨g, 0, none⟩)) 4).run Tryz.prog W = .ok (.pointer (some ⟨g, 8, none⟩)) W := fun W => by go_simp
  have L8 : ∀ W : World, W.heap[g]? = some (.cells (CS tv) 53 (0, 0)) → (Instr.loadAt 51 (.pointer (some ⟨g, 8, none⟩))).run Tryz.prog W = .ok tv W := fun W h => by
    subst hCS
    have q : W.cell? ⟨g, 8, none⟩ = some tv := by rw [Lib.cell_of_heap h]; rfl
    go_simp
  have ST : ∀ (W : World) (ao : Option Addr) (m cap : Nat), W.heap[g]? = some (.cells (CS tv) 53 (0, 0)) → (Instr.storeAt 51 (.pointer (some ⟨g, 8, none⟩)) (.slice ao m cap)).run Tryz.prog W = .ok () (W.setCell ⟨g, 8, none⟩ (.slice ao m cap)) := fun W ao m cap h => by
    subst hCS
    have q : W.cell? ⟨g, 8, none⟩ = some tv := by rw [Lib.cell_of_heap h]; rfl
    have q2 : W.frozen? ⟨g, 8, none⟩ = false := by simp [World.frozen?, h]
    go_simp
  have S8 : ∀ {W : World} {u : Value}, W.heap[g]? = some (.cells (CS tv) 53 (0, 0)) → (W.setCell ⟨g, 8, none⟩ u).heap[g]? = some (.cells (CS u) 53 (0, 0)) := fun h => by subst hCS; exact set_8 h
  obtain ⟨FF, hFF⟩ : ∃ FF : FldR, FF = ⟨g, W1, tv, 5, 1, text.length, text.length + ub.size, u8V text, u8V text ++ Lib.strCells ub, 53, CS, #[], 7, 10, 100, fun k => match k with | 0 => some (.pointer (some ⟨g, 0, none⟩)) | 1 => some (.pointer (some ⟨g, 0, none⟩)) | 2 => some (.pointer (some ⟨g, 0, none⟩)) | 3 => some (.pointer (some ⟨g, 8, none⟩)) | 4 => some tv | 5 => some (.pointer (some ⟨g, 0, none⟩)) | 6 => some (.string ub) | 8 => some (.pointer (some ⟨g, 0, none⟩)) | 9 => some (.pointer (some ⟨g, 8, none⟩)) | _ => none⟩ := ⟨_, rfl⟩
  have H0 : FldR.S FF (fun _ => false) W1.drew := by rw [hFF]; exact ⟨fun _ => hgW, fun _ => hR1.1.weaken fun _ h => h.2, (Keep.refl _ W1).drew⟩
  refine wp_region_done (FldR.S FF) (FldR.P FF) (by kernel_rfl) (by kernel_rfl) (by kernel_rfl) H0 ?hs ?hd
  case hs =>
   rw [hFF]
   refine DSteps.cons ?_ (DSteps.cons ?_ (DSteps.cons ?_ (DSteps.cons ?_ (DSteps.cons ?_ (DSteps.cons ?_ (DSteps.cons ?_ (DSteps.cons ?_ (DSteps.cons ?_ (DSteps.cons ?_ (DSteps.cons ?_ (DSteps.nil)))))))))))
   · intro D2 a X hDi hDa _ hX hL hd
     refine ⟨rfl, ?_⟩
     have e0 : a.eval (.tmp 0) = .pointer (some ⟨g, 0, none⟩) := hL.far 0 (by kernel_rfl)
     exact wp_value (exec_move rfl e0) ⟨_, rfl, hX.more, fun _ _ _ h => h, FldR.P.mk rfl ⟨by simp, by simp, by simp⟩⟩
   · intro D2 a X hDi hDa _ hX hL hd
     refine ⟨rfl, ?_⟩
     have e0 : a.eval (.tmp 0) = .pointer (some ⟨g, 0, none⟩) := hL.far 0 (by kernel_rfl)
     exact wp_value (exec_move rfl e0) ⟨_, rfl, hX.more, fun _ _ _ h => h, FldR.P.mk rfl ⟨by simp, by simp, by simp⟩⟩
   · intro D2 a X hDi hDa _ hX hL hd
     refine ⟨rfl, ?_⟩
     have e0 : a.eval (.tmp 20) = .pointer (some ⟨g, 0, none⟩) := (hd 1 20 (by kernel_rfl) (by kernel_rfl)).is rfl
     exact wp_value (exec_nilCheck rfl e0) ⟨_, rfl, hX.more, fun _ _ _ h => h, FldR.P.mk rfl ⟨by simp, by simp, by simp⟩⟩
   · intro D2 a X hDi hDa _ hX hL hd
     refine ⟨rfl, ?_⟩
     have e0 : a.eval (.tmp 21) = .pointer (some ⟨g, 0, none⟩) := (hd 2 21 (by kernel_rfl) (by kernel_rfl)).is rfl
     exact wp_value (exec_fieldAddr rfl e0 (FS4 X)) ⟨_, rfl, hX.more, fun _ _ _ h => h, FldR.P.mk rfl ⟨by simp, by simp, by simp⟩⟩
   · intro D2 a X hDi hDa _ hX hL hd
     refine ⟨rfl, ?_⟩
     have e0 : a.eval (.tmp 22) = .pointer (some ⟨g, 8, none⟩) := (hd 3 22 (by kernel_rfl) (by kernel_rfl)).is rfl
     exact wp_value (exec_load rfl e0 (L8 X (hX.1 (hDa 10 (by kernel_rfl))))) ⟨_, rfl, hX.more, fun _ _ _ h => h, FldR.P.mk rfl ⟨by simp, by simp, by simp⟩⟩
   · intro D2 a X hDi hDa _ hX hL hd
     refine ⟨rfl, ?_⟩
     have e0 : a.eval (.tmp 0) = .pointer (some ⟨g, 0, none⟩) := hL.far 0 (by kernel_rfl)
     exact wp_value (exec_move rfl e0) ⟨_, rfl, hX.more, fun _ _ _ h => h, FldR.P.mk rfl ⟨by simp, by simp, by simp⟩⟩
   · intro D2 a X hDi hDa _ hX hL hd
     refine ⟨rfl, ?_⟩
     have e0 : a.eval (.tmp 24) = .pointer (some ⟨g, 0, none⟩) := (hd 5 24 (by kernel_rfl) (by kernel_rfl)).is rfl
     refine wp_enter (exec_call (vs := #[.pointer (some ⟨g, 0, none⟩)]) rfl (by simp only [List.map_toArray, List.map_cons, List.map_nil, e0]) Tryz.func73 rfl rfl) ?_
     refine (CUN.out X (hX.1 (hDa 10 (by kernel_rfl))) hX.2.2).mono ?_
     rintro e X2 ⟨rfl, hb⟩
     exact ⟨_, rfl, _, rfl, (hX.below hb).more, fun _ _ _ h => h.below hb, FldR.P.mk rfl ⟨by simp, by simp, by simp⟩⟩
   · intro D2 a X hDi hDa _ hX hL hd
     refine ⟨rfl, ?_⟩
     have e0 : a.eval (.tmp 23) = tv := (hd 4 23 (by kernel_rfl) (by kernel_rfl)).is rfl
     have e1 : a.eval (.tmp 25) = .string ub := (hd 6 25 (by kernel_rfl) (by kernel_rfl)).is rfl
     have h28 := hDa 10 (by kernel_rfl)
     obtain ⟨v', X2, hrun, ho2, hk2⟩ := append_st (P := Tryz.prog) X 51 9 5 Tryz.underlying51 Tryz.underlying9 tinfo5 (hX.2.1 hDi) ub hlm
     exact wp_append_run rfl e0 e1 (hrun _) ⟨v', rfl, hX.app htg h28 hk2, fun j u hj h => h.app htl hk2 (fun e => by subst e; rw [hDi] at hj; cases hj) (fun e => by subst e; rw [h28] at hj; cases hj), FldR.P.row rfl ⟨by simp, by simp⟩ (FldR.row_of (A := W1) hX.2.2.size hgF htg ho2 rfl)⟩
   · intro D2 a X hDi hDa _ hX hL hd
     refine ⟨rfl, ?_⟩
     have e0 : a.eval (.tmp 19) = .pointer (some ⟨g, 0, none⟩) := (hd 0 19 (by kernel_rfl) (by kernel_rfl)).is rfl
     exact wp_value (exec_nilCheck rfl e0) ⟨_, rfl, hX.more, fun _ _ _ h => h, FldR.P.mk rfl ⟨by simp, by simp, by simp⟩⟩
   · intro D2 a X hDi hDa _ hX hL hd
     refine ⟨rfl, ?_⟩
     have e0 : a.eval (.tmp 27) = .pointer (some ⟨g, 0, none⟩) := (hd 8 27 (by kernel_rfl) (by kernel_rfl)).is rfl
     exact wp_value (exec_fieldAddr rfl e0 (FS4 X)) ⟨_, rfl, hX.more, fun _ _ _ h => h, FldR.P.mk rfl ⟨by simp, by simp, by simp⟩⟩
   · intro D2 a X hDi hDa _ hX hL hd
     refine ⟨rfl, ?_⟩
     have e0 : a.eval (.tmp 28) = .pointer (some ⟨g, 8, none⟩) := (hd 9 28 (by kernel_rfl) (by kernel_rfl)).is rfl
     obtain ⟨ao, ln, cp, he, ho⟩ := (hd 7 26 (by kernel_rfl) (by kernel_rfl)).2.2.1 rfl
     have hc := hX.1 hDi
     exact wp_skipped (exec_store rfl e0 he (ST X _ _ _ hc)) ⟨undef, rfl, hX.store, fun j u hj h => h.store hgF (fun e => by subst e; rw [hDi] at hj; cases hj), FldR.P.last rfl ⟨by simp, by simp⟩ ⟨_, FldR.Row.store ⟨ao, ln, cp, rfl, by rw [← he]; exact ho⟩, S8 hc⟩⟩
  case hd =>
   intro D2 a X hAll hX hL hP hE
   obtain ⟨_, hp⟩ := hE 10 (by decide)
   rw [hFF] at hp hX
   obtain ⟨u, ⟨ao, ln, cp, rfl, ho⟩, hu⟩ := hp.2.2.2 rfl
   have hK := hX.2.2
   obtain ⟨f, ha, hf⟩ := hL.out [19, 20, 21, 22, 23, 24, 25, 26, 27, 28] rfl
   have HF := Lib.hid (And.intro ho (And.intro hu (And.intro hK (And.intro hCS (And.intro hk01 (And.intro hR1 (And.intro huL hD1)))))))
   clear hf hAll hP hX hL hE hp ho hu hK hCS FS4 L8 ST S8 htg htl hlm hgF H0 hFF hgW hk01 hR1 huL hD1 CUN hub hdt huz
   simp only [List.foldl_cons, List.foldl_nil, List.setIfInBounds_toArray, List.set_cons_zero, List.set_cons_succ] at ha
   subst ha
   go_wp2
   refine HQ _ _ _ _ (by intro l h; cases h) ?_
   go_ret2
   obtain ⟨ho, hu, hK, hCS, hk01, hR1, huL, hD1⟩ := HF.out
   subst hCS
   have e1 : text.length + ub.size = (text ++ unitL s i).length := by rw [huL, List.length_append]; rfl
   have e2 : u8V text ++ Lib.strCells ub = u8V (text ++ unitL s i) := by rw [huL]; simp [u8V, Lib.strCells]
   simp only at ho hu hK
   rw [e1, e2] at ho
   exact ⟨HW.out.trans ((Rows.belowg HD.out.1 HD.out.2 hk01).trans (hR1.belowt hD1 HD.out.2 hK)), rfl, .of hu HD.out.2 (hR1.text hD1 hK ho)⟩
set_option maxHeartbeats 8000000 in
set_option maxRecDepth 100000 in
theorem piece_escape (s : ByteArray) (c : Sc) (r : Int) (D g : Nat) (w0 w : World) (hD0 : D ≤ w0.heap.size) (h5 : c.st = 7) (hS : ScAt D g s c w) (hE : ∀ X, KeepG D g w0 X → SEnv X) (hW : KeepG D g w0 w) (hr : 0 ≤ r) (h92 : r = 92 → c.here.2.2 < s.size) (hi : c.here.2.2 ≤ s.size) (hs : s.size ≤ 1048576) (hm : c.text.length ≤ 8388000) :
    Calls Tryz.prog 47 #[.pointer (some ⟨g, 0, none⟩), .int .i32 r] w (PieceOut D g s w0 (escapeS s c r)) := by
  have hD : D ≤ w.heap.size := Nat.le_trans hD0 hW.size
  have hE1 : ∀ X : World, KeepG D g w X → SEnv X := fun X hk => hE X (hW.trans hk)
  have HW := Lib.hid hW
  clear hE hW hD0
  obtain ⟨st, ⟨l1, c1, i⟩, ⟨l2, c2, i2⟩, text, ⟨l3, c3, i3⟩, bh, toks⟩ := c
  obtain ⟨tv, kv, hg, hDg, hR⟩ := hS
  simp only at h92 hi hm hR hg
  have hgl : g < w.heap.size := (Array.getElem?_eq_some_iff.1 hg).1
  have k1 : w.cell? ⟨g, 1, none⟩ = some (.int .i64 (st : Nat)) := by rw [Lib.cell_of_heap hg]; rfl
  have f1 : w.frozen? ⟨g, 1, none⟩ = false := by simp [World.frozen?, hg]
  have k2 : w.cell? ⟨g, 2, none⟩ = some (.int .i64 (l1 : Nat)) := by rw [Lib.cell_of_heap hg]; rfl
  have k3 : w.cell? ⟨g, 3, none⟩ = some (.int .i64 (c1 : Nat)) := by rw [Lib.cell_of_heap hg]; rfl
  have k4 : w.cell? ⟨g, 4, none⟩ = some (.int .i64 (i : Nat)) := by rw [Lib.cell_of_heap hg]; rfl
  have HG := Lib.hid hg
  have HR := Lib.hid (show Rows D g tv kv text toks w from hR)
  have HD := Lib.hid (And.intro hD hDg)
  have HE := Lib.hid hE1
  clear hR hE1 hD hDg
  simp only at h5
  subst h5
  have k1 : w.cell? ⟨g, 1, none⟩ = some (.int .i64 7) := k1
  have k12 : w.cell? ⟨g, 12, none⟩ = some (.int .i64 (bh : Nat)) := by rw [Lib.cell_of_heap HG.out]; rfl
  by_cases hbh : bh ≤ i
  case neg =>
    have hP : escapeS s ⟨7, (l1, c1, i), (l2, c2, i2), text, (l3, c3, i3), bh, toks⟩ r = .took ⟨7, (l1, c1, i), (l2, c2, i2), text, (l3, c3, i3), bh, toks⟩ := by unfold escapeS; rw [if_neg hbh]
    rw [hP]
    have nbh : ¬ (bh : Int) ≤ (i : Int) := by omega
    clear hP h92 hbh
    go_enter Tryz.func47, Tryz.ntmps47
    go_wp2
    refine wp_scope_far 4 fun F HQ HJ => ?_
    go_wp2
    refine wp_goto ?_
    refine HJ.out 3 2 _ _ _ (by rfl) ?_
    go_wp2_with fail
    go_quiet (fail)
    go_wp2
    refine HQ _ _ _ _ (by intro l h; cases h) ?_
    go_ret2
    have hb := below_drewN (Below.refl w.heap.size w) nq
    exact ⟨HW.out.trans (toG hb), rfl, .of ((hb.block g hgl).trans HG.out) HD.out.2 (HR.out.below hb)⟩
  have ybh : (bh : Int) ≤ (i : Int) := by omega
  by_cases r39 : r = 39
  · subst r39
    have hP : escapeS s ⟨7, (l1, c1, i), (l2, c2, i2), text, (l3, c3, i3), bh, toks⟩ 39 = .took ⟨5, (l1, c1, i), (l2, c2, i2), text, (l1, c1, i), bh, toks⟩ := by unfold escapeS; rw [if_pos hbh]; unfold plainS; rw [if_pos rfl]
    rw [hP]
    clear hP h92
    go_enter Tryz.func47, Tryz.ntmps47
    go_wp2
    refine wp_scope_far 4 fun F HQ HJ => ?_
    go_wp2
    refine wp_goto ?_
    refine HJ.out 3 2 _ _ _ (by rfl) ?_
    go_wp2_with fail
    go_quiet (fail)
    go_wp2
    refine wp_goto ?_
    refine HJ.out 2 3 _ _ _ (by rfl) ?_
    have hbV := below_drewN (Below.refl w.heap.size w) nq
    have hW1 := HW.out.trans (toG hbV)
    have hgV := (hbV.block g hgl).trans HG.out
    have h39 := HR.out.below hbV
    have hDV := Nat.le_trans HD.out.1 hbV.size
    have hEV : ∀ X : World, KeepG D g (w.drewN nq) X → SEnv X := fun X hk => HE.out X ((Keep.of_all hbV).trans hk)
    have hDg := HD.out.2
    clear HW HG HR HD HE k1 k2 k3 k4 k12 f1 hgl
    generalize w.drewN nq = V at *
    have hgl : g < V.heap.size := (Array.getElem?_eq_some_iff.1 hgV).1
    have k1 : V.cell? ⟨g, 1, none⟩ = some (.int .i64 7) := by rw [Lib.cell_of_heap hgV]; rfl
    have f1 : V.frozen? ⟨g, 1, none⟩ = false := by simp [World.frozen?, hgV]
    have k2 : V.cell? ⟨g, 2, none⟩ = some (.int .i64 (l1 : Nat)) := by rw [Lib.cell_of_heap hgV]; rfl
    have k3 : V.cell? ⟨g, 3, none⟩ = some (.int .i64 (c1 : Nat)) := by rw [Lib.cell_of_heap hgV]; rfl
    have k4 : V.cell? ⟨g, 4, none⟩ = some (.int .i64 (i : Nat)) := by rw [Lib.cell_of_heap hgV]; rfl
    have HG := Lib.hid hgV
    have HR := Lib.hid h39
    have HD := Lib.hid (And.intro hDV hDg)
    have HE := Lib.hid hEV
    have HW := Lib.hid hW1
    clear hgV h39 hDV hEV hDg hW1 hbV
    have k9 : V.cell? ⟨g, 9, none⟩ = some (.int .i64 (l3 : Nat)) := by rw [Lib.cell_of_heap HG.out]; rfl
    have k10 : V.cell? ⟨g, 10, none⟩ = some (.int .i64 (c3 : Nat)) := by rw [Lib.cell_of_heap HG.out]; rfl
    have k11 : V.cell? ⟨g, 11, none⟩ = some (.int .i64 (i3 : Nat)) := by rw [Lib.cell_of_heap HG.out]; rfl
    have f9 : V.frozen? ⟨g, 9, none⟩ = false := by simp [World.frozen?, HG.out]
    have f10 : V.frozen? ⟨g, 10, none⟩ = false := by simp [World.frozen?, HG.out]
    have f11 : V.frozen? ⟨g, 11, none⟩ = false := by simp [World.frozen?, HG.out]
    go_wp2
    refine HQ _ _ _ _ (by intro l h; cases h) ?_
    go_ret2
    have hk := keep_set (g := g) (k := 11) (u := .int .i64 (i : Nat)) (keep_set (g := g) (k := 10) (u := .int .i64 (c1 : Nat)) (keep_set (g := g) (k := 9) (u := .int .i64 (l1 : Nat)) (keep_set (g := g) (k := 1) (u := .int .i64 5) (keep_set (g := g) (k := 1) (u := .int .i64 4) (Keep.refl _ V)))))
    exact ⟨HW.out.trans (Rows.belowg HD.out.1 HD.out.2 hk), rfl, .of (set_q (set_1 (z := 5) (set_1 (z := 4) HG.out))) HD.out.2 (HR.out.keepg hk)⟩
  by_cases r92 : r = 92
  · subst r92
    obtain ⟨o, ho⟩ : ∃ o, unescV (s.extract i s.size) = o := ⟨_, rfl⟩
    cases o with
    | none =>
      have hP : escapeS s ⟨7, (l1, c1, i), (l2, c2, i2), text, (l3, c3, i3), bh, toks⟩ 92 = .bad 9 (l1, c1, i) := by unfold escapeS; rw [if_pos hbh]; unfold plainS; rw [if_neg (by decide), if_pos rfl]; simp only; rw [ho]
      rw [hP]
      have hi92 : i < s.size := h92 rfl
      clear hP h92
      go_enter Tryz.func47, Tryz.ntmps47
      go_wp2
      refine wp_scope_far 4 fun F HQ HJ => ?_
      go_wp2
      refine wp_goto ?_
      refine HJ.out 3 2 _ _ _ (by rfl) ?_
      go_wp2_with fail
      go_quiet (fail)
      go_wp2
      refine wp_goto ?_
      refine HJ.out 2 3 _ _ _ (by rfl) ?_
      have hbV := below_drewN (Below.refl w.heap.size w) nq
      have hW1 := HW.out.trans (toG hbV)
      have hgV := (hbV.block g hgl).trans HG.out
      have h92 := HR.out.below hbV
      have hDV := Nat.le_trans HD.out.1 hbV.size
      have hEV : ∀ X : World, KeepG D g (w.drewN nq) X → SEnv X := fun X hk => HE.out X ((Keep.of_all hbV).trans hk)
      have hDg := HD.out.2
      clear HW HG HR HD HE k1 k2 k3 k4 k12 f1 hgl
      generalize w.drewN nq = V at *
      have hgl : g < V.heap.size := (Array.getElem?_eq_some_iff.1 hgV).1
      have k1 : V.cell? ⟨g, 1, none⟩ = some (.int .i64 7) := by rw [Lib.cell_of_heap hgV]; rfl
      have f1 : V.frozen? ⟨g, 1, none⟩ = false := by simp [World.frozen?, hgV]
      have k2 : V.cell? ⟨g, 2, none⟩ = some (.int .i64 (l1 : Nat)) := by rw [Lib.cell_of_heap hgV]; rfl
      have k3 : V.cell? ⟨g, 3, none⟩ = some (.int .i64 (c1 : Nat)) := by rw [Lib.cell_of_heap hgV]; rfl
      have k4 : V.cell? ⟨g, 4, none⟩ = some (.int .i64 (i : Nat)) := by rw [Lib.cell_of_heap hgV]; rfl
      have HG := Lib.hid hgV
      have HR := Lib.hid h92
      have HD := Lib.hid (And.intro hDV hDg)
      have HE := Lib.hid hEV
      have HW := Lib.hid hW1
      clear hgV h92 hDV hEV hDg hW1 hbV
      have CE := Lib.hid (escape_raw s 4 l2 c2 i2 l3 c3 i3 bh l1 c1 i tv kv g (V.setCell ⟨g, 1, none⟩ (.int .i64 4)) text.length (u8V text) (set_1 HG.out) (((HR.out.keepg (keep_set (Keep.refl _ V))).1).weaken fun _ h => h.2) (by omega) hi92 hs (HE.out _ ((keep_set (g := g) (Keep.refl _ V)).weaken fun _ _ e => .inl e)))
      rw [ho] at CE
      clear ho hi92
      go_wp2_with fail
      refine CE.out.mono ?_
      rintro e w2 ⟨rfl, hb2⟩
      have HB2 := Lib.hid hb2
      clear hb2
      go_wp2
      refine HQ _ _ _ _ (by intro l h; cases h) ?_
      go_ret2
      have hb0 := Rows.belowg HD.out.1 HD.out.2 (keep_set (g := g) (k := 1) (u := .int .i64 4) (Keep.refl _ V))
      exact ⟨HW.out.trans (hb0.trans (toG HB2.out)), rfl⟩
    | some z =>
      obtain ⟨t, k⟩ := z
      have hP : escapeS s ⟨7, (l1, c1, i), (l2, c2, i2), text, (l3, c3, i3), bh, toks⟩ 92 = .took ⟨7, (l1, c1, i), (l2, c2, i2), text ++ t, (l3, c3, i3), i + k, toks⟩ := by unfold escapeS; rw [if_pos hbh]; unfold plainS; rw [if_neg (by decide), if_pos rfl]; simp only; rw [ho]
      rw [hP]
      have hi92 : i < s.size := h92 rfl
      clear hP h92
      go_enter Tryz.func47, Tryz.ntmps47
      go_wp2
      refine wp_scope_far 4 fun F HQ HJ => ?_
      go_wp2
      refine wp_goto ?_
      refine HJ.out 3 2 _ _ _ (by rfl) ?_
      go_wp2_with fail
      go_quiet (fail)
      go_wp2
      refine wp_goto ?_
      refine HJ.out 2 3 _ _ _ (by rfl) ?_
      have hbV := below_drewN (Below.refl w.heap.size w) nq
      have hW1 := HW.out.trans (toG hbV)
      have hgV := (hbV.block g hgl).trans HG.out
      have h92 := HR.out.below hbV
      have hDV := Nat.le_trans HD.out.1 hbV.size
      have hEV : ∀ X : World, KeepG D g (w.drewN nq) X → SEnv X := fun X hk => HE.out X ((Keep.of_all hbV).trans hk)
      have hDg := HD.out.2
      clear HW HG HR HD HE k1 k2 k3 k4 k12 f1 hgl
      generalize w.drewN nq = V at *
      have hgl : g < V.heap.size := (Array.getElem?_eq_some_iff.1 hgV).1
      have k1 : V.cell? ⟨g, 1, none⟩ = some (.int .i64 7) := by rw [Lib.cell_of_heap hgV]; rfl
      have f1 : V.frozen? ⟨g, 1, none⟩ = false := by simp [World.frozen?, hgV]
      have k2 : V.cell? ⟨g, 2, none⟩ = some (.int .i64 (l1 : Nat)) := by rw [Lib.cell_of_heap hgV]; rfl
      have k3 : V.cell? ⟨g, 3, none⟩ = some (.int .i64 (c1 : Nat)) := by rw [Lib.cell_of_heap hgV]; rfl
      have k4 : V.cell? ⟨g, 4, none⟩ = some (.int .i64 (i : Nat)) := by rw [Lib.cell_of_heap hgV]; rfl
      have HG := Lib.hid hgV
      have HR := Lib.hid h92
      have HD := Lib.hid (And.intro hDV hDg)
      have HE := Lib.hid hEV
      have HW := Lib.hid hW1
      clear hgV h92 hDV hEV hDg hW1 hbV
      have CE := Lib.hid (escape_raw s 4 l2 c2 i2 l3 c3 i3 bh l1 c1 i tv kv g (V.setCell ⟨g, 1, none⟩ (.int .i64 4)) text.length (u8V text) (set_1 HG.out) (((HR.out.keepg (keep_set (Keep.refl _ V))).1).weaken fun _ h => h.2) (by omega) hi92 hs (HE.out _ ((keep_set (g := g) (Keep.refl _ V)).weaken fun _ _ e => .inl e)))
      rw [ho] at CE
      clear ho hi92
      go_wp2_with fail
      refine CE.out.mono ?_
      rintro e w2 ⟨rfl, h2⟩
      have H2 := Lib.hid h2
      clear h2
      go_wp2
      refine HQ _ _ _ _ (by intro l h; cases h) ?_
      go_ret2
      obtain ⟨tv', hg2, ho2, hk2⟩ := H2.out
      have hk := keep_set (g := g) (k := 1) (u := .int .i64 4) (Keep.refl _ V)
      have hz : (V.setCell ⟨g, 1, none⟩ (.int .i64 4)).heap.size = V.heap.size := by simp
      have hR1 := HR.out.keepg hk
      have hD1 : D ≤ (V.setCell ⟨g, 1, none⟩ (.int .i64 4)).heap.size := by rw [hz]; exact HD.out.1
      have e1 : text.length + t.length = (text ++ t).length := by simp
      have e2 : u8V text ++ u8V t = u8V (text ++ t) := by simp [u8V]
      rw [e1, e2] at ho2
      exact ⟨HW.out.trans ((Rows.belowg HD.out.1 HD.out.2 hk).trans (hR1.belowt hD1 HD.out.2 hk2)), rfl, .of hg2 HD.out.2 (hR1.text hD1 hk2 ho2)⟩
  have n39 : (r == 39) = false := by simpa using r39
  have n92 : (r == 92) = false := by simpa using r92
  by_cases hb : isBlk r = true
  · skip
    have hP : escapeS s ⟨7, (l1, c1, i), (l2, c2, i2), text, (l3, c3, i3), bh, toks⟩ r = .left ⟨4, (l1, c1, i), (l2, c2, i2), text, (l3, c3, i3), bh, toks⟩ := by unfold escapeS; rw [if_pos hbh]; unfold plainS; rw [if_neg r39, if_neg r92, if_pos hb]
    rw [hP]
    have CB := Lib.hid (fun V => isBlank_any r V)
    rw [hb] at CB
    clear hP h92 hb hr
    go_enter Tryz.func47, Tryz.ntmps47
    go_wp2
    refine wp_scope_far 4 fun F HQ HJ => ?_
    go_wp2
    refine wp_goto ?_
    refine HJ.out 3 2 _ _ _ (by rfl) ?_
    go_wp2_with fail
    go_quiet (fail)
    go_wp2
    refine wp_goto ?_
    refine HJ.out 2 3 _ _ _ (by rfl) ?_
    have hbV := below_drewN (Below.refl w.heap.size w) nq
    have hW1 := HW.out.trans (toG hbV)
    have hgV := (hbV.block g hgl).trans HG.out
    have hr := HR.out.below hbV
    have hDV := Nat.le_trans HD.out.1 hbV.size
    have hEV : ∀ X : World, KeepG D g (w.drewN nq) X → SEnv X := fun X hk => HE.out X ((Keep.of_all hbV).trans hk)
    have hDg := HD.out.2
    clear HW HG HR HD HE k1 k2 k3 k4 k12 f1 hgl
    generalize w.drewN nq = V at *
    have hgl : g < V.heap.size := (Array.getElem?_eq_some_iff.1 hgV).1
    have k1 : V.cell? ⟨g, 1, none⟩ = some (.int .i64 7) := by rw [Lib.cell_of_heap hgV]; rfl
    have f1 : V.frozen? ⟨g, 1, none⟩ = false := by simp [World.frozen?, hgV]
    have k2 : V.cell? ⟨g, 2, none⟩ = some (.int .i64 (l1 : Nat)) := by rw [Lib.cell_of_heap hgV]; rfl
    have k3 : V.cell? ⟨g, 3, none⟩ = some (.int .i64 (c1 : Nat)) := by rw [Lib.cell_of_heap hgV]; rfl
    have k4 : V.cell? ⟨g, 4, none⟩ = some (.int .i64 (i : Nat)) := by rw [Lib.cell_of_heap hgV]; rfl
    have HG := Lib.hid hgV
    have HR := Lib.hid hr
    have HD := Lib.hid (And.intro hDV hDg)
    have HE := Lib.hid hEV
    have HW := Lib.hid hW1
    clear hgV hr hDV hEV hDg hW1 hbV
    go_wp2_with fail
    refine (CB.out _).mono ?_
    rintro e w' ⟨rfl, rfl⟩
    go_wp2
    refine HQ _ _ _ _ (by intro l h; cases h) ?_
    go_ret2
    have hk := keep_set (g := g) (k := 1) (u := .int .i64 4) (Keep.refl _ V)
    exact ⟨HW.out.trans (Rows.belowg HD.out.1 HD.out.2 hk), rfl, .of (set_1 (z := 4) HG.out) HD.out.2 (HR.out.keepg hk)⟩
  by_cases hg2 : isSgs r = true
  · skip
    have hP : escapeS s ⟨7, (l1, c1, i), (l2, c2, i2), text, (l3, c3, i3), bh, toks⟩ r = .left ⟨4, (l1, c1, i), (l2, c2, i2), text, (l3, c3, i3), bh, toks⟩ := by unfold escapeS; rw [if_pos hbh]; unfold plainS; rw [if_neg r39, if_neg r92, if_neg hb, if_pos hg2]
    rw [hP]
    have CB := Lib.hid (fun V => isBlank_any r V)
    rw [show isBlk r = false from by simpa using hb] at CB
    have CG := Lib.hid (fun V => isSigns_any r hr V)
    rw [hg2] at CG
    clear hP h92 hb hg2 hr
    go_enter Tryz.func47, Tryz.ntmps47
    go_wp2
    refine wp_scope_far 4 fun F HQ HJ => ?_
    go_wp2
    refine wp_goto ?_
    refine HJ.out 3 2 _ _ _ (by rfl) ?_
    go_wp2_with fail
    go_quiet (fail)
    go_wp2
    refine wp_goto ?_
    refine HJ.out 2 3 _ _ _ (by rfl) ?_
    have hbV := below_drewN (Below.refl w.heap.size w) nq
    have hW1 := HW.out.trans (toG hbV)
    have hgV := (hbV.block g hgl).trans HG.out
    have hr := HR.out.below hbV
    have hDV := Nat.le_trans HD.out.1 hbV.size
    have hEV : ∀ X : World, KeepG D g (w.drewN nq) X → SEnv X := fun X hk => HE.out X ((Keep.of_all hbV).trans hk)
    have hDg := HD.out.2
    clear HW HG HR HD HE k1 k2 k3 k4 k12 f1 hgl
    generalize w.drewN nq = V at *
    have hgl : g < V.heap.size := (Array.getElem?_eq_some_iff.1 hgV).1
    have k1 : V.cell? ⟨g, 1, none⟩ = some (.int .i64 7) := by rw [Lib.cell_of_heap hgV]; rfl
    have f1 : V.frozen? ⟨g, 1, none⟩ = false := by simp [World.frozen?, hgV]
    have k2 : V.cell? ⟨g, 2, none⟩ = some (.int .i64 (l1 : Nat)) := by rw [Lib.cell_of_heap hgV]; rfl
    have k3 : V.cell? ⟨g, 3, none⟩ = some (.int .i64 (c1 : Nat)) := by rw [Lib.cell_of_heap hgV]; rfl
    have k4 : V.cell? ⟨g, 4, none⟩ = some (.int .i64 (i : Nat)) := by rw [Lib.cell_of_heap hgV]; rfl
    have HG := Lib.hid hgV
    have HR := Lib.hid hr
    have HD := Lib.hid (And.intro hDV hDg)
    have HE := Lib.hid hEV
    have HW := Lib.hid hW1
    clear hgV hr hDV hEV hDg hW1 hbV
    go_wp2_with fail
    refine (CB.out _).mono ?_
    rintro e w' ⟨rfl, rfl⟩
    go_wp2_with fail
    refine (CG.out _).mono ?_
    rintro e w2 ⟨rfl, hb2⟩
    have HB2 := Lib.hid hb2
    clear hb2
    go_wp2
    refine HQ _ _ _ _ (by intro l h; cases h) ?_
    go_ret2
    have hk := keep_set (g := g) (k := 1) (u := .int .i64 4) (Keep.refl _ V)
    have hg2 := (HB2.out.block g (by simpa using hgl)).trans (set_1 (z := 4) HG.out)
    have hb0 := Rows.belowg HD.out.1 HD.out.2 hk
    exact ⟨HW.out.trans (hb0.trans (toG HB2.out)), rfl, .of hg2 HD.out.2 ((HR.out.keepg hk).below HB2.out)⟩
  have hP : escapeS s ⟨7, (l1, c1, i), (l2, c2, i2), text, (l3, c3, i3), bh, toks⟩ r = .took ⟨4, (l1, c1, i), (l2, c2, i2), text ++ unitL s i, (l3, c3, i3), bh, toks⟩ := by unfold escapeS; rw [if_pos hbh]; unfold plainS; rw [if_neg r39, if_neg r92, if_neg hb, if_neg hg2]
  rw [hP]
  clear hP h92
  have CB := Lib.hid (fun V => isBlank_any r V)
  rw [show isBlk r = false from by simpa using hb] at CB
  have CG := Lib.hid (fun V => isSigns_any r hr V)
  rw [show isSgs r = false from by simpa using hg2] at CG
  clear hr
  go_enter Tryz.func47, Tryz.ntmps47
  go_wp2
  refine wp_scope_far 4 fun F HQ HJ => ?_
  go_wp2
  refine wp_goto ?_
  refine HJ.out 3 2 _ _ _ (by rfl) ?_
  go_wp2_with fail
  go_quiet (fail)
  go_wp2
  refine wp_goto ?_
  refine HJ.out 2 3 _ _ _ (by rfl) ?_
  have hbV := below_drewN (Below.refl w.heap.size w) nq
  have hW1 := HW.out.trans (toG hbV)
  have hgV := (hbV.block g hgl).trans HG.out
  have hr := HR.out.below hbV
  have hDV := Nat.le_trans HD.out.1 hbV.size
  have hEV : ∀ X : World, KeepG D g (w.drewN nq) X → SEnv X := fun X hk => HE.out X ((Keep.of_all hbV).trans hk)
  have hDg := HD.out.2
  clear HW HG HR HD HE k1 k2 k3 k4 k12 f1 hgl
  generalize w.drewN nq = V at *
  have hgl : g < V.heap.size := (Array.getElem?_eq_some_iff.1 hgV).1
  have k1 : V.cell? ⟨g, 1, none⟩ = some (.int .i64 7) := by rw [Lib.cell_of_heap hgV]; rfl
  have f1 : V.frozen? ⟨g, 1, none⟩ = false := by simp [World.frozen?, hgV]
  have k2 : V.cell? ⟨g, 2, none⟩ = some (.int .i64 (l1 : Nat)) := by rw [Lib.cell_of_heap hgV]; rfl
  have k3 : V.cell? ⟨g, 3, none⟩ = some (.int .i64 (c1 : Nat)) := by rw [Lib.cell_of_heap hgV]; rfl
  have k4 : V.cell? ⟨g, 4, none⟩ = some (.int .i64 (i : Nat)) := by rw [Lib.cell_of_heap hgV]; rfl
  have HG := Lib.hid hgV
  have HR := Lib.hid hr
  have HD := Lib.hid (And.intro hDV hDg)
  have HE := Lib.hid hEV
  have HW := Lib.hid hW1
  clear hgV hr hDV hEV hDg hW1 hbV
  go_wp2_with fail
  refine (CB.out _).mono ?_
  rintro e w' ⟨rfl, rfl⟩
  go_wp2_with fail
  refine (CG.out _).mono ?_
  rintro e w2 ⟨rfl, hb2⟩
  have HB2 := Lib.hid hb2
  clear hb2
  go_wp2
  obtain ⟨ub, hub⟩ : ∃ ub, s.extract i (i + unitW s i) = ub := ⟨_, rfl⟩
  have huL : unitL s i = ub.data.toList := by unfold unitL; rw [hub]
  have huz : ub.size ≤ 4 := by rw [← hub, ByteArray.size_extract]; have := unitW_bd s i hi; omega
  obtain ⟨CS, hCS⟩ : ∃ CS : Value → Array Value, CS = fun u => scC s 4 (l1 : Nat) (c1 : Nat) (i : Nat) (l2 : Nat) (c2 : Nat) (i2 : Nat) u (l3 : Nat) (c3 : Nat) (i3 : Nat) (bh : Nat) kv := ⟨_, rfl⟩
  have hk01 : Keep (fun b => b = g) V (w2) := (keep_set (g := g) (k := 1) (u := .int .i64 4) (Keep.refl _ V)).then (HB2.out.mono (by simp))
  have hgW : (w2).heap[g]? = some (.cells (CS tv) 53 (0, 0)) := by rw [hCS]; exact (HB2.out.block g (by simpa using hgl)).trans (set_1 (z := 4) HG.out)
  generalize w2 = W1 at *
  have hR1 := HR.out.keepg hk01
  have hD1 : D ≤ W1.heap.size := Nat.le_trans HD.out.1 hk01.size
  have hgF : g < W1.heap.size := (Array.getElem?_eq_some_iff.1 hgW).1
  have htg : tv.ownBlock ≠ some g := fun h => (hR1.1.2 g h).2 rfl
  have htl : ∀ b, tv.ownBlock = some b → b < W1.heap.size := fun b h => (hR1.1.1.lt b h).2
  have hlm : text.length + ub.size ≤ 140737488355328 := by omega
  have hdt : ∀ b, b = g ∨ tv.ownBlock = some b → b = g ∨ D ≤ b := fun b h => by
    rcases h with h | h
    · exact .inl h
    · exact .inr (hR1.1.2 b h).1
  have CUN : Hid (∀ X : World, X.heap[g]? = some (.cells (CS tv) 53 (0, 0)) → Keep (fun b => b = g ∨ tv.ownBlock = some b) W1 X → Calls Tryz.prog 73 #[.pointer (some ⟨g, 0, none⟩)] X fun e w' => e = .returned (.string ub) ∧ Below X.heap.size X w') := Lib.hid fun X hX hk => by
    rw [← hub]
    subst hCS
    exact sunit_any s _ _ _ _ _ _ _ _ _ _ i tv kv g X hX hi (by omega) (HE.out X ((hk01.weaken fun _ _ e => hdt _ (Or.inl e)).trans (hk.weaken fun _ _ e => hdt _ e)))
  have FS4 : ∀ W : World, (Instr.fieldAt 53 (.pointer (some ⟨g, 0, none⟩)) 4).run Tryz.prog W = .ok (.pointer (some ⟨g, 8, none⟩)) W := fun W => by go_simp
  have L8 : ∀ W : World, W.heap[g]? = some (.cells (CS tv) 53 (0, 0)) → (Instr.loadAt 51 (.pointer (some ⟨g, 8, none⟩))).run Tryz.prog W = .ok tv W := fun W h => by
    subst hCS
    have q : W.cell? ⟨g, 8, none⟩ = some tv := by rw [Lib.cell_of_heap h]; rfl
    go_simp
  have ST : ∀ (W : World) (ao : Option Addr) (m cap : Nat), W.heap[g]? = some (.cells (CS tv) 53 (0, 0)) → (Instr.storeAt 51 (.pointer (some ⟨g, 8, none⟩)) (.slice ao m cap)).run Tryz.prog W = .ok () (W.setCell ⟨g, 8, none⟩ (.slice ao m cap)) := fun W ao m cap h => by
    subst hCS
    have q : W.cell? ⟨g, 8, none⟩ = some tv := by rw [Lib.cell_of_heap h]; rfl
    have q2 : W.frozen? ⟨g, 8, none⟩ = false := by simp [World.frozen?, h]
    go_simp
  have S8 : ∀ {W : World} {u : Value}, W.heap[g]? = some (.cells (CS tv) 53 (0, 0)) → (W.setCell ⟨g, 8, none⟩ u).heap[g]? = some (.cells (CS u) 53 (0, 0)) := fun h => by subst hCS; exact set_8 h
  obtain ⟨FF, hFF⟩ : ∃ FF : FldR, FF = ⟨g, W1, tv, 5, 1, text.length, text.length + ub.size, u8V text, u8V text ++ Lib.strCells ub, 53, CS, #[], 7, 10, 100, fun k => match k with | 0 => some (.pointer (some ⟨g, 0, none⟩)) | 1 => some (.pointer (some ⟨g, 0, none⟩)) | 2 => some (.pointer (some ⟨g, 0, none⟩)) | 3 => some (.pointer (some ⟨g, 8, none⟩)) | 4 => some tv | 5 => some (.pointer (some ⟨g, 0, none⟩)) | 6 => some (.string ub) | 8 => some (.pointer (some ⟨g, 0, none⟩)) | 9 => some (.pointer (some ⟨g, 8, none⟩)) | _ => none⟩ := ⟨_, rfl⟩
  have H0 : FldR.S FF (fun _ => false) W1.drew := by rw [hFF]; exact ⟨fun _ => hgW, fun _ => hR1.1.weaken fun _ h => h.2, (Keep.refl _ W1).drew⟩
  refine wp_region_done (FldR.S FF) (FldR.P FF) (by kernel_rfl) (by kernel_rfl) (by kernel_rfl) H0 ?hs ?hd
  case hs =>
   rw [hFF]
   refine DSteps.cons ?_ (DSteps.cons ?_ (DSteps.cons ?_ (DSteps.cons ?_ (DSteps.cons ?_ (DSteps.cons ?_ (DSteps.cons ?_ (DSteps.cons ?_ (DSteps.cons ?_ (DSteps.cons ?_ (DSteps.cons ?_ (DSteps.nil)))))))))))
   · intro D2 a X hDi hDa _ hX hL hd
     refine ⟨rfl, ?_⟩
     have e0 : a.eval (.tmp 0) = .pointer (some ⟨g, 0, none⟩) := hL.far 0 (by kernel_rfl)
     exact wp_value (exec_move rfl e0) ⟨_, rfl, hX.more, fun _ _ _ h => h, FldR.P.mk rfl ⟨by simp, by simp, by simp⟩⟩
   · intro D2 a X hDi hDa _ hX hL hd
     refine ⟨rfl, ?_⟩
     have e0 : a.eval (.tmp 0) = .pointer (some ⟨g, 0, none⟩) := hL.far 0 (by kernel_rfl)
     exact wp_value (exec_move rfl e0) ⟨_, rfl, hX.more, fun _ _ _ h => h, FldR.P.mk rfl ⟨by simp, by simp, by simp⟩⟩
   · intro D2 a X hDi hDa _ hX hL hd
     refine ⟨rfl, ?_⟩
     have e0 : a.eval (.tmp 20) = .pointer (some ⟨g, 0, none⟩) := (hd 1 20 (by kernel_rfl) (by kernel_rfl)).is rfl
     exact wp_value (exec_nilCheck rfl e0) ⟨_, rfl, hX.more, fun _ _ _ h => h, FldR.P.mk rfl ⟨by simp, by simp, by simp⟩⟩
   · intro D2 a X hDi hDa _ hX hL hd
     refine ⟨rfl, ?_⟩
     have e0 : a.eval (.tmp 21) = .pointer (some ⟨g, 0, none⟩) := (hd 2 21 (by kernel_rfl) (by kernel_rfl)).is rfl
     exact wp_value (exec_fieldAddr rfl e0 (FS4 X)) ⟨_, rfl, hX.more, fun _ _ _ h => h, FldR.P.mk rfl ⟨by simp, by simp, by simp⟩⟩
   · intro D2 a X hDi hDa _ hX hL hd
     refine ⟨rfl, ?_⟩
     have e0 : a.eval (.tmp 22) = .pointer (some ⟨g, 8, none⟩) := (hd 3 22 (by kernel_rfl) (by kernel_rfl)).is rfl
     exact wp_value (exec_load rfl e0 (L8 X (hX.1 (hDa 10 (by kernel_rfl))))) ⟨_, rfl, hX.more, fun _ _ _ h => h, FldR.P.mk rfl ⟨by simp, by simp, by simp⟩⟩
   · intro D2 a X hDi hDa _ hX hL hd
     refine ⟨rfl, ?_⟩
     have e0 : a.eval (.tmp 0) = .pointer (some ⟨g, 0, none⟩) := hL.far 0 (by kernel_rfl)
     exact wp_value (exec_move rfl e0) ⟨_, rfl, hX.more, fun _ _ _ h => h, FldR.P.mk rfl ⟨by simp, by simp, by simp⟩⟩
   · intro D2 a X hDi hDa _ hX hL hd
     refine ⟨rfl, ?_⟩
     have e0 : a.eval (.tmp 24) = .pointer (some ⟨g, 0, none⟩) := (hd 5 24 (by kernel_rfl) (by kernel_rfl)).is rfl
     refine wp_enter (exec_call (vs := #[.pointer (some ⟨g, 0, none⟩)]) rfl (by simp only [List.map_toArray, List.map_cons, List.map_nil, e0]) Tryz.func73 rfl rfl) ?_
     refine (CUN.out X (hX.1 (hDa 10 (by kernel_rfl))) hX.2.2).mono ?_
     rintro e X2 ⟨rfl, hb⟩
     exact ⟨_, rfl, _, rfl, (hX.below hb).more, fun _ _ _ h => h.below hb, FldR.P.mk rfl ⟨by simp, by simp, by simp⟩⟩
   · intro D2 a X hDi hDa _ hX hL hd
     refine ⟨rfl, ?_⟩
     have e0 : a.eval (.tmp 23) = tv := (hd 4 23 (by kernel_rfl) (by kernel_rfl)).is rfl
     have e1 : a.eval (.tmp 25) = .string ub := (hd 6 25 (by kernel_rfl) (by kernel_rfl)).is rfl
     have h28 := hDa 10 (by kernel_rfl)
     obtain ⟨v', X2, hrun, ho2, hk2⟩ := append_st (P := Tryz.prog) X 51 9 5 Tryz.underlying51 Tryz.underlying9 tinfo5 (hX.2.1 hDi) ub hlm
     exact wp_append_run rfl e0 e1 (hrun _) ⟨v', rfl, hX.app htg h28 hk2, fun j u hj h => h.app htl hk2 (fun e => by subst e; rw [hDi] at hj; cases hj) (fun e => by subst e; rw [h28] at hj; cases hj), FldR.P.row rfl ⟨by simp, by simp⟩ (FldR.row_of (A := W1) hX.2.2.size hgF htg ho2 rfl)⟩
   · intro D2 a X hDi hDa _ hX hL hd
     refine ⟨rfl, ?_⟩
     have e0 : a.eval (.tmp 19) = .pointer (some ⟨g, 0, none⟩) := (hd 0 19 (by kernel_rfl) (by kernel_rfl)).is rfl
     exact wp_value (exec_nilCheck rfl e0) ⟨_, rfl, hX.more, fun _ _ _ h => h, FldR.P.mk rfl ⟨by simp, by simp, by simp⟩⟩
   · intro D2 a X hDi hDa _ hX hL hd
     refine ⟨rfl, ?_⟩
     have e0 : a.eval (.tmp 27) = .pointer (some ⟨g, 0, none⟩) := (hd 8 27 (by kernel_rfl) (by kernel_rfl)).is rfl
     exact wp_value (exec_fieldAddr rfl e0 (FS4 X)) ⟨_, rfl, hX.more, fun _ _ _ h => h, FldR.P.mk rfl ⟨by simp, by simp, by simp⟩⟩
   · intro D2 a X hDi hDa _ hX hL hd
     refine ⟨rfl, ?_⟩
     have e0 : a.eval (.tmp 28) = .pointer (some ⟨g, 8, none⟩) := (hd 9 28 (by kernel_rfl) (by kernel_rfl)).is rfl
     obtain ⟨ao, ln, cp, he, ho⟩ := (hd 7 26 (by kernel_rfl) (by kernel_rfl)).2.2.1 rfl
     have hc := hX.1 hDi
     exact wp_skipped (exec_store rfl e0 he (ST X _ _ _ hc)) ⟨undef, rfl, hX.store, fun j u hj h => h.store hgF (fun e => by subst e; rw [hDi] at hj; cases hj), FldR.P.last rfl ⟨by simp, by simp⟩ ⟨_, FldR.Row.store ⟨ao, ln, cp, rfl, by rw [← he]; exact ho⟩, S8 hc⟩⟩
  case hd =>
   intro D2 a X hAll hX hL hP hE
   obtain ⟨_, hp⟩ := hE 10 (by decide)
   rw [hFF] at hp hX
   obtain ⟨u, ⟨ao, ln, cp, rfl, ho⟩, hu⟩ := hp.2.2.2 rfl
   have hK := hX.2.2
   obtain ⟨f, ha, hf⟩ := hL.out [19, 20, 21, 22, 23, 24, 25, 26, 27, 28] rfl
   have HF := Lib.hid (And.intro ho (And.intro hu (And.intro hK (And.intro hCS (And.intro hk01 (And.intro hR1 (And.intro huL hD1)))))))
   clear hf hAll hP hX hL hE hp ho hu hK hCS FS4 L8 ST S8 htg htl hlm hgF H0 hFF hgW hk01 hR1 huL hD1 CUN hub hdt huz
   simp only [List.foldl_cons, List.foldl_nil, List.setIfInBounds_toArray, List.set_cons_zero, List.set_cons_succ] at ha
   subst ha
   go_wp2
   refine HQ _ _ _ _ (by intro l h; cases h) ?_
   go_ret2
   obtain ⟨ho, hu, hK, hCS, hk01, hR1, huL, hD1⟩ := HF.out
   subst hCS
   have e1 : text.length + ub.size = (text ++ unitL s i).length := by rw [huL, List.length_append]; rfl
   have e2 : u8V text ++ Lib.strCells ub = u8V (text ++ unitL s i) := by rw [huL]; simp [u8V, Lib.strCells]
   simp only at ho hu hK
   rw [e1, e2] at ho
   exact ⟨HW.out.trans ((Rows.belowg HD.out.1 HD.out.2 hk01).trans (hR1.belowt hD1 HD.out.2 hK)), rfl, .of hu HD.out.2 (hR1.text hD1 hK ho)⟩
end Go.Proofs.YtlfdpdlhppgakaaGreatDoor
/- The scanner's piece in any state; add, since and a text's string, of a scanner that lies in memory. -/
namespace Go.Proofs.YtlfdpdlhppgakaaGreatDoor
open Go Go.RowKit Go.Kt Go.Shelf Go.Lib
attribute [local go_sem] Oper.semAt_some

theorem tksC_add (l : List Tk) (t : Tk) : tksC (l ++ [t]) = tksC l ++ tkC t := by simp [tksC]

theorem add_any (s : ByteArray) (c : Sc) (kind : Nat) (t : ByteArray) (g D : Nat) (w0 w : World) (hS : ScAt D g s c w) (hW : KeepG D g w0 w) (hD : D ≤ w.heap.size) (hn : c.toks.length ≤ 2097152) (ht : t.size ≤ 140737488351232) :
    Calls Tryz.prog 48 #[.pointer (some ⟨g, 0, none⟩), .int .i64 (kind : Nat), .string t] w fun e w' => e = .returned (.tuple #[]) ∧ ScAt D g s (addT c kind t.data.toList) w' ∧ KeepG D g w0 w' ∧ D ≤ w'.heap.size := by
  obtain ⟨tv, kv, hg, hDg, hR⟩ := hS
  have hR : Rows D g tv kv c.text c.toks w := hR
  refine (add_raw s _ _ _ _ _ _ _ _ _ _ _ tv kv g w (kind : Nat) t c.toks.length (tksC c.toks) hg (hR.2.weaken fun _ h => h.2.1) hn ht).mono ?_
  rintro e w' ⟨rfl, kv', hg', ho, hk⟩
  refine ⟨rfl, ?_, hW.trans (hR.belowk hD hDg hk), Nat.le_trans hD hk.size⟩
  have e1 : c.toks.length + 1 = (addT c kind t.data.toList).toks.length := by simp [addT]
  have e2 : tksC c.toks ++ [.int .i64 (kind : Nat), .string t, .int .i64 (c.from.1 : Nat), .int .i64 (c.from.2.1 : Nat), .int .i64 (c.from.2.2 : Nat)] = tksC (addT c kind t.data.toList).toks := by
    unfold addT
    simp only
    rw [tksC_add]
    rfl
  rw [e2] at ho
  exact .of (c := addT c kind t.data.toList) hg' hDg (hR.toks hD hk (by rw [← e1]; exact ho))

theorem conv_own {Y : Nat → Prop} {v : Value} {x : List UInt8} {w : World} (h : OwnS Y 5 1 v x.length (u8V x) w) : (convert 51 9 v).run Tryz.prog w = .ok (.string ⟨x.toArray⟩) w := by
  rcases h.shape with ⟨h1, h2⟩ | ⟨g, cap, h1, h2⟩
  · subst h1
    have hx : x = [] := List.eq_nil_of_length_eq_zero (by omega)
    subst hx
    exact run_convert_bytes_nil (w := w) _ 5 Tryz.underlying51 Tryz.underlying5 0 0 _ Tryz.underlying9
  · subst h1
    refine run_convert_bytes_back w _ _ 5 ⟨g, 0, none⟩ cap x Tryz.underlying51 Tryz.underlying5 Tryz.underlying9 fun j hj => ?_
    have := h.at0 (i := j) (u := .int .u8 (x[j].toNat : Int)) (by simp [u8V, List.getElem?_map, List.getElem?_eq_getElem hj])
    by_cases h0 : j = 0
    · subst h0; simpa [Addr.add] using this
    · simpa [Addr.add, h0] using this

/-- A unit that is neither a blank nor a remark, no sign, no bracket and no star goes on into a text. -/
theorem sgs_rest {r : Int} (h : isSgs r = true) (hs : isSgn (encL r) = false) (h35 : r ≠ 35) (h91 : r ≠ 91) (h93 : r ≠ 93) (h42 : r ≠ 42) (h39 : r ≠ 39) (h92 : r ≠ 92) : False := by
  unfold isSgs sgsI at h
  simp only [List.contains_cons, List.contains_nil, Bool.or_false, Bool.or_eq_true, beq_iff_eq] at h
  rcases h with rfl | rfl | rfl | rfl | rfl | rfl | rfl | rfl | rfl | rfl | rfl <;> first | contradiction | exact absurd hs (by decide)
theorem plain_left {s : ByteArray} {c c' : Sc} {r : Int} (h : plainS s c r = .left c') (hb : isBlk r = false) (hs : isSgn (encL r) = false) (h35 : r ≠ 35) (h91 : r ≠ 91) (h93 : r ≠ 93) (h42 : r ≠ 42) : False := by
  unfold plainS at h
  split at h
  · cases h
  · split at h
    · split at h <;> cases h
    · rw [if_neg (by rw [hb]; decide)] at h
      split at h
      · rename_i a b c
        exact sgs_rest c hs h35 h91 h93 h42 a b
      · cases h
end Go.Proofs.YtlfdpdlhppgakaaGreatDoor
/- The scanner's token (written by wip/tools/gen_token.py). -/
namespace Go.Proofs.YtlfdpdlhppgakaaGreatDoor
open Go Go.RowKit Go.Kt Go.Shelf Go.Lib
attribute [local go_sem] Oper.semAt_some

/-- What token answers, and leaves. -/
def TokOut (D g : Nat) (s : ByteArray) (w : World) (o : TR) (e : Ending) (w' : World) : Prop := KeepG D g w w' ∧ match o with
  | .ok c => e = .returned .nilIface ∧ ScAt D g s c w'
  | .bad no p => e = .returned (fltV no (p.1 : Nat) (p.2.1 : Nat))
theorem ext_nil (s : ByteArray) (i : Nat) : s.extract i i = ⟨#[]⟩ := by
  apply ByteArray.ext
  rw [ByteArray.data_extract]
  simp
  omega
theorem nil_app (b : ByteArray) : (⟨#[]⟩ : ByteArray) ++ b = b := by
  apply ByteArray.ext
  rw [ByteArray.data_append]
  simp
theorem app_list (a b : ByteArray) : (a ++ b).data.toList = a.data.toList ++ b.data.toList := by
  rw [ByteArray.data_append, Array.toList_append]
theorem pieceS_left {s : ByteArray} {c c' : Sc} {r : Int} (h : pieceS s c r = .left c') : c' = { c with st := 4 } := by
  have hp : ∀ {c'}, plainS s c r = .left c' → c' = { c with st := 4 } := by
    intro c' h
    unfold plainS at h
    split at h
    · cases h
    · split at h
      · split at h <;> cases h
      · split at h
        · cases h; rfl
        · split at h
          · cases h; rfl
          · cases h
  unfold pieceS quotedS closingS escapeS at h
  split at h
  · split at h <;> cases h
  · split at h
    · split at h
      · cases h
      · exact hp h
    · split at h
      · split at h
        · exact hp h
        · cases h
      · exact hp h

end Go.Proofs.YtlfdpdlhppgakaaGreatDoor
/- What the scanner's step leaves as it was; the scanner's token in any state. -/
namespace Go.Proofs.YtlfdpdlhppgakaaGreatDoor
open Go Go.RowKit Go.Kt Go.Shelf Go.Lib

theorem unitL_len (s : ByteArray) (i : Nat) (hi : i ≤ s.size) : (unitL s i).length ≤ 4 := by
  unfold unitL
  rw [← Lib.size_eq, ByteArray.size_extract]
  have := unitW_bd s i hi
  omega
section
variable {s : ByteArray} {c c' : Sc} {r : Int}
theorem plainS_ok (h92 : r = 92 → c.here.2.2 < s.size) (hi : c.here.2.2 ≤ s.size) (h : plainS s c r = .took c') : c'.here = c.here ∧ c'.from = c.from ∧ c'.toks = c.toks ∧ c'.text.length ≤ c.text.length + 4 := by
  unfold plainS at h
  split at h
  · cases h; exact ⟨rfl, rfl, rfl, by simp⟩
  · split at h
    · rename_i h39 h92'
      split at h
      · cases h
      · rename_i t k hu
        cases h
        have hz : (s.extract c.here.2.2 s.size).size = s.size - c.here.2.2 := by rw [ByteArray.size_extract]; omega
        have := unesc_bd (by have := h92 h92'; omega) hu
        exact ⟨rfl, rfl, rfl, by simp only [List.length_append]; omega⟩
    · split at h
      · cases h
      · split at h
        · cases h
        · cases h
          have := unitL_len s c.here.2.2 hi
          exact ⟨rfl, rfl, rfl, by simp only [List.length_append]; omega⟩
theorem pieceS_ok (h92 : r = 92 → c.here.2.2 < s.size) (hi : c.here.2.2 ≤ s.size) (h : pieceS s c r = .took c') : c'.here = c.here ∧ c'.from = c.from ∧ c'.toks = c.toks ∧ c'.text.length ≤ c.text.length + 4 := by
  unfold pieceS at h
  split at h
  · unfold quotedS at h
    split at h
    · cases h; exact ⟨rfl, rfl, rfl, by simp⟩
    · cases h
      have := unitL_len s c.here.2.2 hi
      exact ⟨rfl, rfl, rfl, by simp only [List.length_append]; omega⟩
  · split at h
    · unfold closingS at h
      split at h
      · cases h; exact ⟨rfl, rfl, rfl, by simp⟩
      · exact plainS_ok h92 hi h
    · split at h
      · unfold escapeS at h
        split at h
        · exact plainS_ok h92 hi h
        · cases h; exact ⟨rfl, rfl, rfl, by simp⟩
      · exact plainS_ok h92 hi h
theorem betweenS_ok (h92 : r = 92 → c.here.2.2 < s.size) (hi : c.here.2.2 ≤ s.size) (h : betweenS s c r = .ok c') : c'.here = c.here ∧ c'.from = c.here ∧ c'.toks = c.toks ∧ c'.text.length ≤ c.text.length + 4 := by
  unfold betweenS at h
  repeat' split at h
  all_goals first | (cases h; done) | (cases h; exact ⟨rfl, rfl, rfl, by simp⟩) | skip
  cases hp : plainS s { c with st := 4, «from» := c.here, text := [] } r with
  | took c2 =>
    rw [hp] at h
    cases h
    obtain ⟨a1, a2, a3, a4⟩ := plainS_ok (c := { c with st := 4, «from» := c.here, text := [] }) h92 hi hp
    exact ⟨a1, a2, a3, by simp only [List.length_nil] at a4; omega⟩
  | left c2 =>
    rw [hp] at h
    cases h
    have hl : pieceS s { c with st := 4, «from» := c.here, text := [] } r = plainS s { c with st := 4, «from» := c.here, text := [] } r := by simp [pieceS]
    have := pieceS_left (hl.trans hp)
    subst this
    exact ⟨rfl, rfl, rfl, by simp⟩
  | bad no p => rw [hp] at h; cases h
theorem tokenS_ok (h92 : r = 92 → c.here.2.2 < s.size) (hi : c.here.2.2 ≤ s.size) (h : tokenS s c r = .ok c') : c'.here = c.here ∧ (c'.from = c.here ∨ c'.from = c.from) ∧ c'.toks.length ≤ c.toks.length + 1 ∧ c'.text.length ≤ c.text.length + 4 := by
  unfold tokenS at h
  split at h
  · obtain ⟨a1, a2, a3, a4⟩ := betweenS_ok h92 hi h
    exact ⟨a1, .inl a2, by rw [a3]; omega, a4⟩
  split at h
  · unfold remarkS at h
    split at h
    · obtain ⟨a1, a2, a3, a4⟩ := betweenS_ok (c := { c with st := 1 }) h92 hi h
      exact ⟨a1, .inl a2, by rw [a3]; simp only; omega, a4⟩
    · cases h; exact ⟨rfl, .inr rfl, by simp, by simp⟩
  split at h
  · unfold signS at h
    split at h
    · cases h; exact ⟨rfl, .inr rfl, by simp, by simp⟩
    · obtain ⟨a1, a2, a3, a4⟩ := betweenS_ok (c := addT { c with st := 2 } 2 (sinceL s c)) h92 hi h
      exact ⟨a1, .inl a2, by rw [a3]; simp [addT], a4⟩
  split at h
  · unfold optionS at h
    split at h
    · cases h; exact ⟨rfl, .inr rfl, by simp [addT], by simp [addT]⟩
    · cases h; exact ⟨rfl, .inr rfl, by simp, by simp⟩
  · unfold textS at h
    cases hp : pieceS s c r with
    | took c2 =>
      rw [hp] at h
      cases h
      obtain ⟨a1, a2, a3, a4⟩ := pieceS_ok h92 hi hp
      exact ⟨a1, .inr a2, by rw [a3]; omega, a4⟩
    | bad no p => rw [hp] at h; cases h
    | left c2 =>
      rw [hp] at h
      have := pieceS_left hp
      subst this
      obtain ⟨a1, a2, a3, a4⟩ := betweenS_ok (c := addT { c with st := 4 } 1 c.text) h92 hi h
      exact ⟨a1, .inl a2, by rw [a3]; simp [addT], a4⟩
end

theorem plNext_ix (s : ByteArray) (p : Pl) (i : Nat) : (plNext s p i).2.2 = i ∧ (plNext s p i).1 ≤ p.1 + 1 ∧ (plNext s p i).2.1 ≤ p.2.1 + 1 := by
  unfold plNext
  split
  · exact ⟨rfl, Nat.le_refl _, by simp⟩
  · exact ⟨rfl, Nat.le_succ _, Nat.le_refl _⟩
end Go.Proofs.YtlfdpdlhppgakaaGreatDoor
/- The program's Scan, whole. -/
namespace Go.Proofs.YtlfdpdlhppgakaaGreatDoor
open Go Go.RowKit Go.Kt Go.Shelf Go.Lib
attribute [local go_sem] Oper.semAt_some

def finS : TR → SR
  | .ok c => endS c
  | .bad no p => .bad no p.1 p.2.1
/-- What Scan answers. -/
def ScanOut (D : Nat) (o : SR) (e : Ending) (w' : World) : Prop := match o with
  | .bad no l c => e = .returned (.tuple #[.slice none 0 0, fltV no (l : Nat) (c : Nat)])
  | .ok l => ∃ g cap, e = .returned (.tuple #[.slice (some ⟨g, 0, none⟩) l.length cap, .nilIface]) ∧ OwnS (fun b => D ≤ b) 39 5 (.slice (some ⟨g, 0, none⟩) l.length cap) l.length (tksC l) w'

theorem ScAt.keep {D g : Nat} {s : ByteArray} {c : Sc} {A B : World} {X : Nat → Prop} (h : ScAt D g s c A) (hk : Keep X A B) (hg : ¬ X g) (hX : ∀ b, X b → b < D) : ScAt D g s c B := by
  obtain ⟨tv, kv, h1, h2, h3, h4⟩ := h
  exact ⟨tv, kv, hk.heap h1 hg, h2, h3.keep hk (fun b hx hy => by have := hX b hx; omega), h4.keep hk (fun b hx hy => by have := hX b hx; omega)⟩
theorem dec_nl (s : ByteArray) (pos : Nat) (h : pos ≤ s.size) (h92 : (((Utf8.decode (s ++ nlB) pos).1 : Nat) : Int) = 92) : pos < s.size := by
  by_cases he : pos = s.size
  · subst he
    rw [decode_end] at h92
    exact absurd h92 (by decide)
  · omega
end Go.Proofs.YtlfdpdlhppgakaaGreatDoor
/- What the listed variables of scan's rows give the walks, and the world that their witnesses start in. -/
namespace Go.Proofs.YtlfdpdlhppgakaaGreatDoor
open Go.Lib Go.Shelf Go.Kt.Bits
set_option maxRecDepth 100000

/-- The rows' lists: with the handle of an error's type, and without. -/
noncomputable def theLaid8 : List (String × DataW Unit) := [("math/bits.deBruijn32tab", Rows.laid_math_bits_deBruijn32tab), ("math/bits.deBruijn64tab", Rows.laid_math_bits_deBruijn64tab), ("internal/strconv.uint64pow10", Rows.laid_internal_strconv_uint64pow10), ("unicode/utf8.acceptRanges", Rows.laid_unicode_utf8_acceptRanges), ("errors.errorType", Rows.laid_errors_errorType), ("strconv.ErrRange", Rows.laid_strconv_ErrRange), ("strconv.ErrSyntax", Rows.laid_strconv_ErrSyntax), ("unicode/utf8.first", Rows.laid_unicode_utf8_first)]
noncomputable def theLaid7 : List (String × DataW Unit) := [("math/bits.deBruijn32tab", Rows.laid_math_bits_deBruijn32tab), ("math/bits.deBruijn64tab", Rows.laid_math_bits_deBruijn64tab), ("internal/strconv.uint64pow10", Rows.laid_internal_strconv_uint64pow10), ("unicode/utf8.acceptRanges", Rows.laid_unicode_utf8_acceptRanges), ("strconv.ErrRange", Rows.laid_strconv_ErrRange), ("strconv.ErrSyntax", Rows.laid_strconv_ErrSyntax), ("unicode/utf8.first", Rows.laid_unicode_utf8_first)]

theorem errIx8 : Tryz.prog.globalNamed "errors.errorType" = some 0 := by kernel_rfl
theorem rtypeIx8 : (Tryz.prog.cutTypes.find? (·.1 == "internal/reflectlite.rtype")).map (·.2) = some 121 := by kernel_rfl
theorem typesN8 : Tryz.prog.types.size = 214 := by kernel_rfl
theorem errRow8 : ((List.range 214).filter fun t => Tryz.prog.rowNamed t [101, 114, 114, 111, 114]) = [28] := by kernel_rfl
theorem errT_of_handles8 {W : World} (h : handlesMet Tryz.prog [("errors.errorType", Rows.laid_errors_errorType)] W) : ErrT W := by
  obtain ⟨name, u, ty, e1, e2, e3, e4, e5⟩ := h _ (List.mem_singleton.2 rfl)
  have en : name = [101, 114, 114, 111, 114] := (Option.some.inj e1).symm
  subst en
  obtain rfl := Option.some.inj (rtypeIx8.symm.trans e2)
  have hm : ty ∈ (List.range 214).filter fun t => Tryz.prog.rowNamed t [101, 114, 114, 111, 114] := List.mem_filter.2 ⟨List.mem_range.2 (by rw [← typesN8]; exact e3), e4⟩
  rw [errRow8] at hm
  obtain rfl := List.mem_singleton.1 hm
  have hh : typeHandle Tryz.prog 28 = tyH 28 := by kernel_rfl
  rw [hh] at e5
  simpa using World.var?_cell errIx8 e5 0

theorem bruijn_eq8 : (Rows.laid_math_bits_deBruijn64tab : DataW Unit) = tabData .u8 (bruijnTab.map fun x : Nat => (x : Int)) := by kernel_rfl
theorem btab_of_reads8 {W : World} (h3 : VarReads Tryz.prog W "math/bits.deBruijn64tab" (tabData .u8 (bruijnTab.map fun x : Nat => (x : Int)))) : BTab W := by
  have c5 : Tryz.prog.cellsOf 5 = 1 := by kernel_rfl
  have c64 : Tryz.prog.cellsOf 176 = 64 := by kernel_rfl
  intro k hk
  obtain ⟨g, t, cs, fuel, p, hg, hty, hvar, hd⟩ := h3
  obtain rfl := Option.some.inj ((show Tryz.prog.globalNamed "math/bits.deBruijn64tab" = some 6 by kernel_rfl).symm.trans hg)
  obtain rfl := Option.some.inj ((show (Tryz.prog.globals[6]?).map (·.type) = some 176 by kernel_rfl).symm.trans hty)
  have hcs := cells_of_tab Tryz.underlying176 Tryz.underlying5 c5 c64 hd
  have := World.var?_cell hg hvar k
  rw [this, ← Array.getElem?_toList, hcs]
  have hl : bruijnTab.length = 64 := rfl
  simp [List.getD_eq_getElem?_getD, hl, hk]

theorem trod_iface8 {H : Type} {enc : TypeId × Value → H} {P : Program} {w : World} {base : Nat} {sp : Nat → Bool} {held : Bool} {fuel : Nat} {t : TypeId} {cs : List Value} {T : String} {D : DataW H} {q : List MemPlace} {ms : Array (String × TypeId)}
    (ht : P.underlying t = some (.interface ms)) (h : DataW.trod enc P w base sp held fuel t cs = some (.iface T D, q)) : ∃ u v, cs = [.iface u v] := by
  cases fuel with
  | zero => simp [DataW.trod] at h
  | succ n =>
    unfold DataW.trod at h
    rw [ht] at h
    split at h <;> simp_all
theorem iface_of_reads8 {W : World} {nm : String} {g : Nat} {T : String} {D : DataW Unit} (hn : Tryz.prog.globalNamed nm = some g) (ht : (Tryz.prog.globals[g]?).map (·.type) = some 28) (h : VarReads Tryz.prog W nm (.iface T D)) : ∃ t p, W.cell? ⟨g, 0, none⟩ = some (.iface t p) := by
  obtain ⟨g', t, cs, fuel, p, hg, hty, hvar, hd⟩ := h
  obtain rfl := Option.some.inj (hn.symm.trans hg)
  obtain rfl := Option.some.inj (ht.symm.trans hty)
  obtain ⟨u, v, e⟩ := trod_iface8 Tryz.underlying28 hd
  refine ⟨u, v, ?_⟩
  rw [World.var?_cell hg hvar 0, ← Array.getElem?_toList, e]
  rfl

/-- What a walk of scan's laws asks of the world. -/
def QEnv (W : World) : Prop := SEnv W ∧ BTab W ∧ 6 < W.heap.size
theorem of_laid8 {W : World} (h : laidMetH Tryz.prog theLaid8 W) : QEnv W := by
  have h' : laidMet Tryz.prog theLaid7 W ∧ handlesMet Tryz.prog [("errors.errorType", Rows.laid_errors_errorType)] W := h
  have hb := btab_of_reads8 (bruijn_eq8 ▸ laidMet.reads h'.1 (.tail _ (.head _)))
  have ht := tabs_of_reads (accept_eq ▸ laidMet.reads h'.1 (.tail _ (.tail _ (.tail _ (.head _))))) (Pinned.utf8First_eq ▸ laidMet.reads h'.1 (.tail _ (.tail _ (.tail _ (.tail _ (.tail _ (.tail _ (.head _))))))))
  have e1 := laidMet.reads h'.1 (.tail _ (.tail _ (.tail _ (.tail _ (.head _)))))
  have e2 := laidMet.reads h'.1 (.tail _ (.tail _ (.tail _ (.tail _ (.tail _ (.head _))))))
  exact ⟨⟨ht, errT_of_handles8 h'.2, iface_of_reads8 (by kernel_rfl) (by kernel_rfl) e2, iface_of_reads8 (by kernel_rfl) (by kernel_rfl) e1⟩, hb, Go.Kt.lt_of_cell (hb 0 (by decide))⟩

/-- The settled world, errors.errorType laid. -/
noncomputable def errWorld8 (os : Os) : World :=
  let w0 := World.holding Tryz.prog os ⟨#[], #[], []⟩
  { w0 with heap := w0.heap.modify 0 fun
      | .cells _ t frozen => .cells #[.iface 121 (.agg #[tyH 28])] t frozen
      | o => o }
theorem laidMet_on8 {P : Program} {w0 : World} {laid : List (String × DataW Unit)} (args : Array Value) (hf : w0.layFits P laid [] = true) (hi : w0.layIfaces P laid (w0.layVars P laid) = true) :
    laidMet P laid ((w0.layVars P laid).forCall (fun _ _ => 0) ⟨#[], args, []⟩).memory := by
  have e1 : (laid.filter fun x => (laid.map (·.1)).contains x.1) = laid := List.filter_eq_self.2 fun x hx => List.contains_iff_mem.2 (List.mem_map.2 ⟨x, hx, rfl⟩)
  have e2 : (laid.filter fun x => !(laid.map (·.1)).contains x.1) = [] := List.filter_eq_nil_iff.2 fun x hx => by rw [List.contains_iff_mem.2 (List.mem_map.2 ⟨x, hx, rfl⟩)]; simp
  have h : laidMet P laid (w0.layVars P laid) := laidMet_layVars (w0 := w0) (laid.map (·.1)) [] (by rw [e1]) (by rw [e1]; exact hf) (by rw [e1]; exact hi) (by rw [e2]; exact LaidIn.none)
  exact h.of_heap (by simp [World.memory, World.forCall, Input.heap])

/-- The witnesses' world. -/
noncomputable def world8 (os : Os) : World := (errWorld8 os).layVars Tryz.prog theLaid7
theorem world8_os (os : Os) : (world8 os).os = os := World.layVars_os _ _ _
theorem laid_met8 (os : Os) (args : Array Value) : laidMetH Tryz.prog theLaid8 ((world8 os).forCall (fun _ _ => 0) ⟨#[], args, []⟩).memory :=
  laidMetH_of_parts (show laidMet Tryz.prog theLaid7 _ from laidMet_on8 args (by kernel_rfl) (by kernel_rfl)) (by kernel_rfl)
end Go.Proofs.YtlfdpdlhppgakaaGreatDoor
/- A text that is quoted is read as that text: the scanner's run over quoV. No run in this text. -/
namespace Go.Proofs.YtlfdpdlhppgakaaGreatDoor
open Go Go.RowKit Go.Kt Go.Kt.Rg Go.Shelf Go.Lib

theorem decN_pre {N N' b0 b1 b2 b3 d1 d2 d3 r w : Nat} (h : decodeN N b0 b1 b2 b3 = (r, w)) (hne : ¬ (r = 65533 ∧ w = 1)) (hN : w ≤ N') (h1 : 1 < w → d1 = b1) (h2 : 2 < w → d2 = b2) (h3 : 3 < w → d3 = b3) : decodeN N' b0 d1 d2 d3 = (r, w) := by
  unfold decodeN at h ⊢
  split at h
  · rename_i g; rw [if_pos g]; exact h
  rename_i g0
  rw [if_neg g0]
  split at h
  · rename_i g1
    split at h
    · rename_i g2
      cases h
      have e := h1 (by decide); subst e
      rw [if_pos ⟨g1.1, by omega, g1.2.2⟩, if_pos g2]
    · cases h; exact absurd ⟨rfl, rfl⟩ hne
  split at h
  · rename_i g1 g2
    split at h
    · rename_i g3
      cases h
      have e := h1 (by decide); subst e
      have e := h2 (by decide); subst e
      rw [if_neg (by omega), if_pos ⟨g2.1, ⟨by omega, g2.2.1.2⟩, by omega, g2.2.2.2⟩, if_pos g3]
    · cases h; exact absurd ⟨rfl, rfl⟩ hne
  split at h
  · rename_i g1 g2 g3
    split at h
    · rename_i g4
      cases h
      have e := h1 (by decide); subst e
      have e := h2 (by decide); subst e
      have e := h3 (by decide); subst e
      rw [if_neg (by omega), if_neg (by omega), if_pos ⟨g3.1, ⟨by omega, g3.2.1.2⟩, ⟨by omega, g3.2.2.1.2⟩, by omega, g3.2.2.2.2⟩, if_pos g4]
    · cases h; exact absurd ⟨rfl, rfl⟩ hne
  · cases h; exact absurd ⟨rfl, rfl⟩ hne

section
variable {Q : ByteArray} {p : Nat} {E rest : List UInt8}
theorem drop_len (h : Q.data.toList.drop p = E ++ rest) (hp : p ≤ Q.size) : p + E.length ≤ Q.size := by
  have h1 := congrArg List.length h
  rw [List.length_drop, List.length_append, ← Lib.size_eq] at h1
  omega
theorem B_drop (h : Q.data.toList.drop p = E ++ rest) {j : Nat} (hj : j < E.length) : B Q (p + j) = (E.getD j 0).toNat := by
  unfold B
  have h1 : Q.data.toList[p + j]? = E[j]? := by
    rw [← List.getElem?_drop, h, List.getElem?_append_left hj]
  rw [List.getD_eq_getElem?_getD, h1, List.getD_eq_getElem?_getD]
theorem drop_more (h : Q.data.toList.drop p = E ++ rest) : Q.data.toList.drop (p + E.length) = rest := by
  rw [← List.drop_drop, h, List.drop_left]
theorem seg_drop (h : Q.data.toList.drop p = E ++ rest) : seg Q p (p + E.length) = E := by
  rw [seg_eq, List.drop_take, Nat.add_sub_cancel_left, h, List.take_left]
theorem ext_rest (h : Q.data.toList.drop p = E ++ rest) : (Q.extract p Q.size).data.toList = E ++ rest := by
  have : (Q.extract p Q.size).data.toList = seg Q p Q.size := rfl
  rw [this, seg_eq, List.take_of_length_le (by rw [← Lib.size_eq]; omega), h]
end
theorem dec_lo (Q : ByteArray) (p : Nat) (h : B Q p < 128) : Utf8.decode Q p = (B Q p, 1) := by
  rw [decode_B]; unfold decodeN; rw [if_pos h]

/-- A text that is open at its next piece. -/
structure Bd (p : Nat) (c : Sc) (x : List UInt8) : Prop where
  fr : c.from = (1, 1, 0)
  toks : c.toks = []
  text : c.text = x
  st : c.st = 4 ∨ c.st = 7 ∧ c.behind ≤ p
def okr (r : Int) : Prop := isBlk r = false ∧ (r = 92 ∨ isSgs r = false) ∧ isSgn (encL r) = false
/-- The scanner is ready for a text's next piece. -/
def Rd (Q : ByteArray) (p : Nat) (c : Sc) (x : List UInt8) : Prop :=
  ∃ c1 : Sc, c1.here.2.2 = p ∧ c1.from = (1, 1, 0) ∧ c1.toks = [] ∧ c1.text = x ∧ ∀ r c', okr r → plainS Q c1 r = .took c' → tokenS Q { c with here := plNext Q c.here p } r = .ok c'
theorem Bd.token {p : Nat} {c : Sc} {x : List UInt8} (h : Bd p c x) (Q : ByteArray) (r : Int) : tokenS Q { c with here := plNext Q c.here p } r = textS Q { c with here := plNext Q c.here p } r ∧ pieceS Q { c with here := plNext Q c.here p } r = plainS Q { c with here := plNext Q c.here p } r := by
  have hx := (plNext_ix Q c.here p).1
  rcases h.st with h4 | ⟨h7, hb⟩
  · exact ⟨by unfold tokenS; simp [h4], by unfold pieceS; simp [h4]⟩
  · refine ⟨by unfold tokenS; simp [h7], ?_⟩
    simp [pieceS, escapeS, h7, hx, hb]
theorem Bd.rd {p : Nat} {c : Sc} {x : List UInt8} (h : Bd p c x) (Q : ByteArray) : Rd Q p c x := by
  refine ⟨{ c with here := plNext Q c.here p }, (plNext_ix Q c.here p).1, h.fr, h.toks, h.text, fun r c' _ hp => ?_⟩
  obtain ⟨h1, h2⟩ := h.token Q r
  rw [h1]
  unfold textS
  rw [h2, hp]
theorem rd_first (Q : ByteArray) : Rd Q 0 c0S [] := by
  refine ⟨⟨4, (1, 1, 0), (1, 1, 0), [], (0, 0, 0), 0, []⟩, rfl, rfl, rfl, rfl, fun r c' hr hp => ?_⟩
  obtain ⟨h1, h2, h3⟩ := hr
  have h35 : r ≠ 35 := by rintro rfl; rcases h2 with h | h; cases h; exact absurd h (by decide)
  have h91 : r ≠ 91 := by rintro rfl; rcases h2 with h | h; cases h; exact absurd h (by decide)
  have h93 : r ≠ 93 := by rintro rfl; rcases h2 with h | h; cases h; exact absurd h (by decide)
  have h42 : r ≠ 42 := by rintro rfl; rcases h2 with h | h; cases h; exact absurd h (by decide)
  have e : tokenS Q { c0S with here := plNext Q c0S.here 0 } r = betweenS Q { c0S with here := plNext Q c0S.here 0 } r := by simp [tokenS, c0S]
  rw [e]
  unfold betweenS
  rw [if_neg (by rw [h1]; decide), if_neg h35, if_neg (by rw [h3]; decide), if_neg h91, if_neg h93, if_neg h42]
  show (plainS Q ⟨4, (1, 1, 0), (1, 1, 0), [], (0, 0, 0), 0, []⟩ r).out = _
  rw [hp]
  rfl
theorem runS_one {Q : ByteArray} {f i v r : Nat} {c c' : Sc} (hi : i < Q.size + 1) (hd : Utf8.decode (Q ++ nlB) i = (r, v)) (ht : tokenS Q { c with here := plNext Q c.here i } (r : Nat) = .ok c') : runS Q (f + 1) i c = runS Q f (i + v) c' := by
  rw [runS, if_pos hi, hd, ht]
theorem dec_in {Q : ByteArray} {p : Nat} (h : p < Q.size) (hb : B Q p < 128) : Utf8.decode (Q ++ nlB) p = (B Q p, 1) := by
  rw [decode_nl Q p h, dec_lo Q p hb]
/-- The units of an escape pass. -/
theorem run_pass (Q : ByteArray) : ∀ (n p : Nat) (c : Sc) (F : Nat), (∀ j, j < n → B Q (p + j) < 128) → p + n ≤ Q.size → c.st = 7 → c.behind = p + n → Q.size + 1 ≤ p + F →
    ∃ F' c', runS Q F p c = runS Q F' (p + n) c' ∧ c'.from = c.from ∧ c'.toks = c.toks ∧ c'.text = c.text ∧ c'.st = 7 ∧ c'.behind = p + n ∧ Q.size + 1 ≤ p + n + F' := by
  intro n
  induction n with
  | zero => intro p c F _ _ hs hb hF; exact ⟨F, c, rfl, rfl, rfl, rfl, hs, hb, hF⟩
  | succ n ih =>
    intro p c F hB hp hs hb hF
    obtain ⟨F, rfl⟩ : ∃ f, F = f + 1 := ⟨F - 1, by omega⟩
    have hx := (plNext_ix Q c.here p).1
    have ht : tokenS Q { c with here := plNext Q c.here p } (B Q p : Nat) = .ok { c with here := plNext Q c.here p } := by
      have hnl : ¬ p + (n + 1) ≤ p := by omega
      simp [tokenS, textS, pieceS, escapeS, hs, hx, hb]
      rw [if_neg hnl]
    have hB0 := hB 0 (by omega)
    rw [Nat.add_zero] at hB0
    have h1 := runS_one (f := F) (by omega) (dec_in (by omega) hB0) ht
    obtain ⟨F', c', e1, e2, e3, e4, e5, e6, e7⟩ := ih (p + 1) { c with here := plNext Q c.here p } F (fun j hj => by have := hB (j + 1) (by omega); rw [show p + 1 + j = p + (j + 1) by omega]; exact this) (by omega) hs (by simp only; omega) (by omega)
    refine ⟨F', c', ?_, e2, e3, e4, e5, by omega, by omega⟩
    rw [h1, e1, show p + 1 + n = p + (n + 1) by omega]
/-- An escape E, that stands for t, is taken. -/
theorem run_esc {Q : ByteArray} {p : Nat} {c : Sc} {x E rest t : List UInt8} {F : Nat} (hE : Q.data.toList.drop p = (92 :: E) ++ rest) (hp : p ≤ Q.size) (ha : ∀ b ∈ E, b.toNat < 128) (hF : Q.size + 1 ≤ p + F) (hrd : Rd Q p c x)
    (hu : unescV (Q.extract p Q.size) = some (t, E.length + 1)) :
    ∃ F' c', runS Q F p c = runS Q F' (p + (E.length + 1)) c' ∧ Bd (p + (E.length + 1)) c' (x ++ t) ∧ Q.size + 1 ≤ p + (E.length + 1) + F' := by
  obtain ⟨c1, g1, g2, g3, g4, g5⟩ := hrd
  have hln := drop_len hE hp
  rw [List.length_cons] at hln
  obtain ⟨F, rfl⟩ : ∃ f, F = f + 1 := ⟨F - 1, by omega⟩
  have hB0 : B Q p = 92 := by have := B_drop hE (j := 0) (by simp); simpa using this
  have hpl : plainS Q c1 92 = .took { c1 with st := 7, text := c1.text ++ t, behind := c1.here.2.2 + (E.length + 1) } := by
    unfold plainS
    rw [if_neg (by decide), if_pos rfl, g1, hu]
  have ht := g5 92 _ ⟨by decide, .inl rfl, by decide⟩ hpl
  have h1 := runS_one (f := F) (v := 1) (r := 92) (by omega) (by rw [dec_in (by omega) (by omega), hB0]) ht
  obtain ⟨F', c', e1, e2, e3, e4, e5, e6, e7⟩ := run_pass Q E.length (p + 1) { c1 with st := 7, text := c1.text ++ t, behind := c1.here.2.2 + (E.length + 1) } F (fun j hj => by
      have := B_drop hE (j := j + 1) (by simp; omega)
      rw [show p + 1 + j = p + (j + 1) by omega, this]
      simp only [List.getD_cons_succ]
      rw [List.getD_eq_getElem?_getD, List.getElem?_eq_getElem hj]
      exact ha _ (List.getElem_mem hj)) (by omega) rfl (by simp only; omega) (by omega)
  refine ⟨F', c', ?_, ⟨e2.trans g2, e3.trans g3, by rw [e4]; simp only [g4], .inr ⟨e5, by omega⟩⟩, by omega⟩
  rw [h1, e1, show p + 1 + E.length = p + (E.length + 1) by omega]
/-- A unit that is neither a blank's nor a sign's is taken. -/
theorem run_plain {Q : ByteArray} {p r : Nat} {c : Sc} {x E rest : List UInt8} {F : Nat} (hE : Q.data.toList.drop p = E ++ rest) (hp : p ≤ Q.size) (hl : 1 ≤ E.length) (hd : Utf8.decode (Q ++ nlB) p = (r, E.length)) (hF : Q.size + 1 ≤ p + F) (hrd : Rd Q p c x)
    (h1 : isBlk (r : Nat) = false) (h2 : isSgs (r : Nat) = false) (h3 : isSgn (encL (r : Nat)) = false) :
    ∃ F' c', runS Q F p c = runS Q F' (p + E.length) c' ∧ Bd (p + E.length) c' (x ++ E) ∧ Q.size + 1 ≤ p + E.length + F' := by
  obtain ⟨c1, g1, g2, g3, g4, g5⟩ := hrd
  have hln := drop_len hE hp
  obtain ⟨F, rfl⟩ : ∃ f, F = f + 1 := ⟨F - 1, by omega⟩
  have n39 : ((r : Nat) : Int) ≠ 39 := fun h => by rw [h] at h2; exact absurd h2 (by decide)
  have n92 : ((r : Nat) : Int) ≠ 92 := fun h => by rw [h] at h2; exact absurd h2 (by decide)
  have hw : unitW Q p = E.length := by unfold unitW; rw [if_pos (by omega), ← decode_nl Q p (by omega), hd]
  have hU : unitL Q p = E := by unfold unitL; rw [hw]; exact seg_drop hE
  have hpl : plainS Q c1 (r : Nat) = .took { c1 with st := 4, text := c1.text ++ E } := by
    unfold plainS
    rw [if_neg n39, if_neg n92, if_neg (by rw [h1]; decide), if_neg (by rw [h2]; decide), g1, hU]
  have ht := g5 (r : Nat) _ ⟨h1, .inr h2, h3⟩ hpl
  refine ⟨F, _, runS_one (by omega) hd ht, ⟨g2, g3, by simp only [g4], .inl rfl⟩, by omega⟩

section
variable {X : ByteArray} {rest : List UInt8}
theorem xunit_one {u : UInt8} {a : UInt8} (hX : X.data.toList = a :: u :: rest) (hu : u.toNat < 128) : unitW X 1 = 1 ∧ (decP X 1).1 = (u.toNat : Int) ∧ 2 ≤ X.size := by
  have hz : 2 ≤ X.size := by rw [Lib.size_eq, hX]; simp
  have hB : B X 1 = u.toNat := by unfold B; rw [hX]; rfl
  have hd := dec_lo X 1 (by rw [hB]; exact hu)
  refine ⟨by unfold unitW; rw [if_pos (by omega), hd], ?_, hz⟩
  have := decP_in X 1 (by omega)
  rw [show ((1 : Nat) : Int) = 1 from rfl] at this
  rw [this, hd, hB]
theorem unesc_ill {b : Nat} (hX : X.data.toList = 92 :: (120 :: hexL b) ++ rest) (h : 128 ≤ b) (h2 : b < 256) : unescV X = some ([UInt8.ofNat b], 4) := by
  obtain ⟨e1, e2, e3⟩ := xunit_one hX (by decide)
  have hh := hex_two b h2 (by omega)
  unfold unescV
  rw [e1, if_neg (by decide), e2, if_neg (by decide), if_pos (by decide)]
  unfold illV
  have hd2 : (X.data.toList.drop 2).take 2 = hexL b := by
    rw [hX]
    show (hexL b ++ rest).take 2 = hexL b
    rw [← hh, List.take_left]
  rw [hd2, puV_hex 255 b (by omega) (by omega), if_neg (by rw [hX]; simp [hh])]
  simp only
  rw [if_neg (by omega)]
set_option maxRecDepth 100000 in
theorem unesc_chr {r : Nat} (hX : X.data.toList = 92 :: (117 :: 123 :: hexL r ++ [125]) ++ rest) (h : r < 128) : unescV X = some ([UInt8.ofNat r], 4 + (hexL r).length) := by
  have hX2 : X.data.toList = 92 :: 117 :: (123 :: (hexL r ++ 125 :: rest)) := by rw [hX]; simp
  obtain ⟨e1, e2, e3⟩ := xunit_one hX2 (by decide)
  unfold unescV
  rw [e1, if_neg (by decide), e2, if_pos (by decide)]
  unfold chrV
  have ho : opn X.data.toList = true := by rw [hX2]; rfl
  have hr : rst X.data.toList = hexL r ++ 125 :: rest := by unfold rst; rw [if_pos ho, hX2]; rfl
  have hup : upB (rst X.data.toList) = hexL r := by rw [hr]; exact upB_at _ _ (fun c hc => (hexF_clean 8 r c hc).1)
  have hct : (rst X.data.toList).contains 125 = true := by rw [hr]; simp
  have hpu : puV 16777215 (upB (rst X.data.toList)) = some r := by rw [hup]; exact puV_hex _ _ (by omega) (by omega)
  rw [hpu, hup, ho, hct]
  have hl6 : (hexL r).length ≤ 6 := (by decide +kernel : ∀ r, r < 128 → (hexL r).length ≤ 6) r h
  have hv : Lib.validRune (r : Nat) = true := (by decide +kernel : ∀ r : Nat, r < 128 → Lib.validRune (r : Nat) = true) r h
  have he : (Utf8.encode (r : Nat)).data.toList = [UInt8.ofNat r] := (by decide +kernel : ∀ r : Nat, r < 128 → (Utf8.encode (r : Nat)).data.toList = [UInt8.ofNat r]) r h
  unfold chrO
  simp only
  rw [hv, he, decide_eq_true hl6]
  rfl
theorem unesc_sgs {u : UInt8} (hX : X.data.toList = 92 :: [u] ++ rest) (hu : u.toNat < 128) (h1 : u ≠ 117) (h2 : u ≠ 120) : unescV X = some ([u], 2) := by
  obtain ⟨e1, e2, e3⟩ := xunit_one (X := X) (rest := rest) hX hu
  have n1 : (u.toNat : Int) ≠ 117 := fun h => h1 (by apply UInt8.toNat_inj.1; have : (117 : UInt8).toNat = 117 := rfl; omega)
  have n2 : (u.toNat : Int) ≠ 120 := fun h => h2 (by apply UInt8.toNat_inj.1; have : (120 : UInt8).toNat = 120 := rfl; omega)
  unfold unescV
  rw [e1, if_neg (by decide), e2, if_neg n1, if_neg n2]
  have : (X.extract 1 (1 + 1)).data.toList = [u] := by
    have h3 : (X.extract 1 (1 + 1)).data.toList = seg X 1 (1 + 1) := rfl
    rw [h3, seg_eq, hX]
    rfl
  rw [this]
end

theorem dec_r_lo {s : ByteArray} {i : Nat} (h : (Utf8.decode s i).1 < 128) : B s i = (Utf8.decode s i).1 ∧ (Utf8.decode s i).2 = 1 := by
  rw [decode_B] at h ⊢
  revert h
  unfold decodeN
  repeat' split
  all_goals (intro h; first | exact ⟨rfl, rfl⟩ | (exfalso; simp only at h; omega))
set_option maxRecDepth 100000 in
theorem nsgn {s : ByteArray} {i : Nat} (h : isSgs ((Utf8.decode s i).1 : Nat) = false) (hi : i < s.size) (hw : ¬ ((Utf8.decode s i).1 = 65533 ∧ (Utf8.decode s i).2 = 1)) : isSgn (encL ((Utf8.decode s i).1 : Nat)) = false := by
  by_cases h1 : (Utf8.decode s i).1 < 128
  · generalize (Utf8.decode s i).1 = r at *
    revert h
    exact (by decide +kernel : ∀ r : Nat, r < 128 → isSgs (r : Nat) = false → isSgn (encL (r : Nat)) = false) r h1
  · have hv : Utf8.valid ((Utf8.decode s i).1 : Nat) = true := by
      rw [decode_B] at hw h1 ⊢
      revert hw h1
      unfold decodeN
      repeat' split
      all_goals (intro hw h1; simp only at hw h1 ⊢; first | (exfalso; omega) | (simp only [Utf8.valid, Bool.or_eq_true, Bool.and_eq_true, decide_eq_true_iff]; omega) | (exact absurd ⟨rfl, rfl⟩ hw))
    obtain ⟨q1, q2, q3⟩ := enc_hi ((Utf8.decode s i).1 : Nat) (by omega) hv
    have hl : (encL ((Utf8.decode s i).1 : Nat)).length = (Utf8.encode ((Utf8.decode s i).1 : Nat)).size := (Lib.size_eq _).symm
    have hne : encL ((Utf8.decode s i).1 : Nat) ∉ sgnL := by
      intro hm
      have hall : ∀ l ∈ sgnL, ∃ c ∈ l, c.toNat < 128 := by decide
      obtain ⟨c, hc, hlt⟩ := hall _ hm
      have := q3 c hc
      omega
    unfold isSgn
    simpa using hne
theorem one_byte {s : ByteArray} {i : Nat} (hi : i < s.size) : seg s i (i + 1) = [UInt8.ofNat (B s i)] := by
  rw [seg_range s i 1 (by omega)]
  rfl
theorem hexL_lo : ∀ u, u < 256 → ∀ b ∈ hexL u, b.toNat < 128 := by decide +kernel
theorem sgs_lt {r : Nat} (h : isSgs (r : Nat) = true) : r < 128 ∧ r ≠ 117 ∧ r ≠ 120 := by
  by_cases h1 : r < 128
  · refine ⟨h1, ?_, ?_⟩ <;> (rintro rfl; exact absurd h (by decide))
  · rw [isSgs_hi (r : Nat) (by omega)] at h; cases h
theorem unitW_dec {s : ByteArray} {i : Nat} (hi : i < s.size) : unitW s i = (Utf8.decode s i).2 := by unfold unitW; rw [if_pos hi]
theorem run_unit {s Q : ByteArray} {i p : Nat} {c : Sc} {x rest : List UInt8} {F : Nat} (hi : i < s.size) (hQ : Q.data.toList.drop p = quoU s i ++ rest) (hp : p ≤ Q.size) (hF : Q.size + 1 ≤ p + F) (hrd : Rd Q p c x) :
    ∃ F' c', runS Q F p c = runS Q F' (p + (quoU s i).length) c' ∧ Bd (p + (quoU s i).length) c' (x ++ seg s i (i + unitW s i)) ∧ Q.size + 1 ≤ p + (quoU s i).length + F' := by
  have hw := unitW_dec hi
  obtain ⟨d1, d2, d3⟩ := dec_width s i hi
  have hdP : (decP s (i : Nat)).1 = ((Utf8.decode s i).1 : Int) := by rw [decP_in s i hi]
  have hU : quoU s i = escV (seg s i (i + unitW s i)) ((Utf8.decode s i).1 : Nat) := by unfold quoU; rw [hdP]; rfl
  have hln : (seg s i (i + unitW s i)).length = unitW s i := by rw [seg_len s i _ (by omega) (by omega)]; omega
  unfold escV at hU
  by_cases h1 : ((Utf8.decode s i).1 : Int) = 65533 ∧ (seg s i (i + unitW s i)).length = 1
  · rw [if_pos h1] at hU
    obtain ⟨h1, h2⟩ := h1
    have hw1 : unitW s i = 1 := by omega
    have hb : ¬ B s i < 128 := fun hb => by
      have := dec_lo s i hb
      rw [this] at h1
      simp only at h1
      omega
    have hB := B_lt s i
    rw [hw1, one_byte hi] at hU ⊢
    have hU2 : quoU s i = 92 :: (120 :: hexL (B s i)) := by
      rw [hU]
      have : (([UInt8.ofNat (B s i)] : List UInt8).getD 0 0).toNat = B s i := by simp; omega
      rw [this]; rfl
    have hh := hex_two (B s i) hB (by omega)
    rw [hU2] at hQ ⊢
    exact run_esc (t := [UInt8.ofNat (B s i)]) hQ hp (by
      intro b hb2
      rcases List.mem_cons.1 hb2 with rfl | hb2
      · decide
      · exact hexL_lo _ hB b hb2) hF hrd (by rw [unesc_ill (X := Q.extract p Q.size) (ext_rest hQ) (by omega) hB]; simp [hh])
  rw [if_neg h1] at hU
  by_cases h2 : ((Utf8.decode s i).1 : Int) ≤ 32 ∨ ((Utf8.decode s i).1 : Int) = 127
  · rw [if_pos h2] at hU
    obtain ⟨hb, hw1⟩ := dec_r_lo (s := s) (i := i) (by omega)
    have hw1 : unitW s i = 1 := hw.trans hw1
    rw [hw1, one_byte hi]
    have hU2 : quoU s i = 92 :: (117 :: 123 :: hexL (B s i) ++ [125]) := by
      rw [hU, ← hb]; simp
    rw [hU2] at hQ ⊢
    exact run_esc (t := [UInt8.ofNat (B s i)]) hQ hp (by
      intro b hb2
      simp only [List.cons_append, List.mem_cons, List.mem_append, List.not_mem_nil, or_false] at hb2
      rcases hb2 with rfl | rfl | hb2 | rfl
      · decide
      · decide
      · exact hexL_lo _ (by omega) b hb2
      · decide) hF hrd (by rw [unesc_chr (X := Q.extract p Q.size) (ext_rest hQ) (by omega)]; simp; omega)
  rw [if_neg h2] at hU
  by_cases h3 : isSgs ((Utf8.decode s i).1 : Nat) = true
  · rw [if_pos h3] at hU
    obtain ⟨q1, q2, q3⟩ := sgs_lt h3
    obtain ⟨hb, hw1⟩ := dec_r_lo (s := s) (i := i) q1
    have hw1 : unitW s i = 1 := hw.trans hw1
    rw [hw1, one_byte hi] at hU ⊢
    have hu : (UInt8.ofNat (B s i)).toNat = B s i := by simp; omega
    have hU2 : quoU s i = 92 :: [UInt8.ofNat (B s i)] := by rw [hU]; rfl
    rw [hU2] at hQ ⊢
    exact run_esc (t := [UInt8.ofNat (B s i)]) hQ hp (by
      intro b hb2
      rw [List.mem_singleton] at hb2
      subst hb2
      omega) hF hrd (by
        rw [unesc_sgs (X := Q.extract p Q.size) (ext_rest hQ) (by omega) (fun h => by rw [h] at hu; have : (117 : UInt8).toNat = 117 := rfl; omega) (fun h => by rw [h] at hu; have : (120 : UInt8).toNat = 120 := rfl; omega)]
        rfl)
  have h3 : isSgs ((Utf8.decode s i).1 : Nat) = false := by simpa using h3
  rw [if_neg (by rw [h3]; decide)] at hU
  have hne : ¬ ((Utf8.decode s i).1 = 65533 ∧ (Utf8.decode s i).2 = 1) := fun h => h1 ⟨by omega, by omega⟩
  rw [hU] at hQ ⊢
  have hdl := drop_len hQ hp
  have hBj : ∀ j, j < unitW s i → B (Q ++ nlB) (p + j) = B s (i + j) := fun j hj => by
    rw [nl_B Q _ (by omega), B_drop hQ (by omega), seg_range s i _ (by omega), List.getD_eq_getElem?_getD, List.getElem?_map, List.getElem?_range hj]
    have := B_lt s (i + j)
    simp; omega
  have hd : Utf8.decode (Q ++ nlB) p = ((Utf8.decode s i).1, (seg s i (i + unitW s i)).length) := by
    rw [hln, hw, decode_B]
    have hB0 := hBj 0 (by omega)
    rw [Nat.add_zero, Nat.add_zero] at hB0
    rw [hB0]
    have hnz := nl_size Q
    exact decN_pre (by rw [← decode_B]) hne (by omega) (fun h => hBj 1 (by omega)) (fun h => hBj 2 (by omega)) (fun h => hBj 3 (by omega))
  have hbk : isBlk ((Utf8.decode s i).1 : Nat) = false := by
    unfold isBlk
    simp only [Bool.or_eq_false_iff, beq_eq_false_iff_ne]
    refine ⟨⟨⟨?_, ?_⟩, ?_⟩, ?_⟩ <;> omega
  exact run_plain hQ hp (by omega) hd hF hrd hbk h3 (nsgn h3 hi hne)

theorem run_quo (s Q : ByteArray) : ∀ (f i p : Nat) (F : Nat) (c : Sc) (x : List UInt8), Q.data.toList.drop p = quoF s f i → s.size ≤ i + f → i ≤ s.size → p ≤ Q.size → Q.size + 1 ≤ p + F → Bd p c x →
    ∃ F' c', runS Q F p c = runS Q F' Q.size c' ∧ Bd Q.size c' (x ++ seg s i s.size) ∧ 1 ≤ F' := by
  have hend : ∀ (p F : Nat) (c : Sc) (x : List UInt8), Q.data.toList.drop p = [] → p ≤ Q.size → Q.size + 1 ≤ p + F → Bd p c x → ∃ F' c', runS Q F p c = runS Q F' Q.size c' ∧ Bd Q.size c' (x ++ seg s s.size s.size) ∧ 1 ≤ F' := by
    intro p F c x hq hp hF hb
    have : p = Q.size := by
      have h1 := congrArg List.length hq
      rw [List.length_drop, ← Lib.size_eq] at h1
      simp at h1
      omega
    subst this
    exact ⟨F, c, rfl, by rw [seg_self, List.append_nil]; exact hb, by omega⟩
  intro f
  induction f with
  | zero =>
    intro i p F c x hq hf hi hp hF hb
    have : i = s.size := by omega
    subst this
    exact hend p F c x hq hp hF hb
  | succ f ih =>
    intro i p F c x hq hf hi hp hF hb
    rw [quoF] at hq
    by_cases hlt : i < s.size
    · rw [if_pos hlt] at hq
      obtain ⟨u1, u2, u3⟩ := unitW_bd s i hi
      have u3 := u3 hlt
      obtain ⟨F1, c1, e1, e2, e3⟩ := run_unit hlt hq hp hF (hb.rd Q)
      obtain ⟨F2, c2, e4, e5, e6⟩ := ih (i + unitW s i) (p + (quoU s i).length) F1 c1 _ (drop_more hq) (by omega) (by omega) (drop_len hq hp) e3 e2
      refine ⟨F2, c2, e1.trans e4, ?_, e6⟩
      rw [List.append_assoc, seg_app s i _ _ (by omega) (by omega)] at e5
      exact e5
    · rw [if_neg hlt] at hq
      have : i = s.size := by omega
      subst this
      exact hend p F c x hq hp hF hb
theorem run_end {Q : ByteArray} {F : Nat} {c : Sc} {x : List UInt8} (hF : 1 ≤ F) (hb : Bd Q.size c x) : ∃ l k, runS Q F Q.size c = .ok ⟨0, (l, k, Q.size), (l, k, Q.size), x, c.quote, c.behind, [⟨1, x, (1, 1, 0)⟩]⟩ := by
  obtain ⟨F, rfl⟩ : ∃ f, F = f + 1 := ⟨F - 1, by omega⟩
  obtain ⟨h1, h2⟩ := hb.token Q ((10 : Nat) : Int)
  have hx := (plNext_ix Q c.here Q.size).1
  have hpl : plainS Q { c with here := plNext Q c.here Q.size } ((10 : Nat) : Int) = .left { c with st := 4, here := plNext Q c.here Q.size } := by
    unfold plainS
    rw [if_neg (by decide), if_neg (by decide), if_pos (by decide)]
  have ht : tokenS Q { c with here := plNext Q c.here Q.size } ((10 : Nat) : Int) = .ok ⟨0, plNext Q c.here Q.size, plNext Q c.here Q.size, x, c.quote, c.behind, [⟨1, x, (1, 1, 0)⟩]⟩ := by
    rw [h1]
    unfold textS
    rw [h2, hpl]
    unfold betweenS
    simp only
    rw [if_pos (by decide)]
    unfold addT
    simp only [hb.fr, hb.toks, hb.text, List.nil_append]
  refine ⟨(plNext Q c.here Q.size).1, (plNext Q c.here Q.size).2.1, ?_⟩
  rw [runS_one (by omega) (decode_end Q) ht]
  have hp2 : plNext Q c.here Q.size = ((plNext Q c.here Q.size).1, (plNext Q c.here Q.size).2.1, Q.size) := Prod.ext rfl (Prod.ext rfl hx)
  rw [← hp2]
  cases F with
  | zero => rfl
  | succ f => rw [runS, if_neg (by omega)]

theorem dec_hi_bytes {s : ByteArray} {i : Nat} (h : 128 ≤ (Utf8.decode s i).1) (hne : ¬ ((Utf8.decode s i).1 = 65533 ∧ (Utf8.decode s i).2 = 1)) : ∀ j, j < (Utf8.decode s i).2 → 128 ≤ B s (i + j) := by
  rw [decode_B] at h hne ⊢
  revert h hne
  unfold decodeN
  repeat' split
  all_goals (intro h hne j hj; simp only at h hne hj)
  · omega
  · obtain rfl | rfl : j = 0 ∨ j = 1 := by omega
    · rw [Nat.add_zero]; omega
    · omega
  · exact absurd ⟨trivial, trivial⟩ hne
  · obtain rfl | rfl | rfl : j = 0 ∨ j = 1 ∨ j = 2 := by omega
    · rw [Nat.add_zero]; omega
    · omega
    · omega
  · exact absurd ⟨trivial, trivial⟩ hne
  · obtain rfl | rfl | rfl | rfl : j = 0 ∨ j = 1 ∨ j = 2 ∨ j = 3 := by omega
    · rw [Nat.add_zero]; omega
    · omega
    · omega
    · omega
  · exact absurd ⟨trivial, trivial⟩ hne
  · exact absurd ⟨trivial, trivial⟩ hne
theorem quoU_no10 {s : ByteArray} {i : Nat} (hi : i < s.size) : ∀ b ∈ quoU s i, b ≠ 10 := by
  have hx : ∀ n, n < 256 → ∀ b ∈ hexL n, b ≠ 10 := by decide +kernel
  have hw := unitW_dec hi
  obtain ⟨d1, d2, d3⟩ := dec_width s i hi
  have hdP : (decP s (i : Nat)).1 = ((Utf8.decode s i).1 : Int) := by rw [decP_in s i hi]
  have hU : quoU s i = escV (seg s i (i + unitW s i)) ((Utf8.decode s i).1 : Nat) := by unfold quoU; rw [hdP]; rfl
  have hln : (seg s i (i + unitW s i)).length = unitW s i := by rw [seg_len s i _ (by omega) (by omega)]; omega
  rw [hU]
  unfold escV
  split
  · intro b hb
    simp only [List.cons_append, List.nil_append, List.mem_cons] at hb
    rcases hb with rfl | rfl | hb
    · decide
    · decide
    · exact hx _ (UInt8.toNat_lt _) b hb
  · rename_i h1
    split
    · intro b hb
      simp only [List.cons_append, List.nil_append, List.mem_cons, List.mem_append, List.not_mem_nil, or_false] at hb
      rcases hb with rfl | rfl | rfl | hb | rfl
      · decide
      · decide
      · decide
      · exact hx _ (by omega) b hb
      · decide
    · rename_i h2
      have hne : ¬ ((Utf8.decode s i).1 = 65533 ∧ (Utf8.decode s i).2 = 1) := fun h => h1 ⟨by omega, by omega⟩
      have hs : ∀ b ∈ seg s i (i + unitW s i), b ≠ 10 := by
        intro b hb
        rw [seg_range s i _ (by omega)] at hb
        obtain ⟨j, hj, rfl⟩ := List.mem_map.1 hb
        rw [List.mem_range] at hj
        have hBlt := B_lt s (i + j)
        intro h10
        have h10' : B s (i + j) = 10 := by
          have := congrArg UInt8.toNat h10
          simpa [Nat.mod_eq_of_lt hBlt] using this
        by_cases hlo : (Utf8.decode s i).1 < 128
        · obtain ⟨q1, q2⟩ := dec_r_lo hlo
          obtain rfl : j = 0 := by omega
          rw [Nat.add_zero] at h10'
          omega
        · have := dec_hi_bytes (by omega) hne j (by omega)
          omega
      split
      · intro b hb
        simp only [List.cons_append, List.nil_append, List.mem_cons] at hb
        rcases hb with rfl | hb
        · decide
        · exact hs b hb
      · exact hs
theorem quoF_no10 (s : ByteArray) : ∀ (f i : Nat), ∀ b ∈ quoF s f i, b ≠ 10 := by
  intro f
  induction f with
  | zero => intro i b hb; simp [quoF] at hb
  | succ f ih =>
    intro i b hb
    rw [quoF] at hb
    split at hb
    · rename_i h
      rcases List.mem_append.1 hb with hb | hb
      · exact quoU_no10 h b hb
      · exact ih _ b hb
    · simp at hb
theorem nlN_none {Q : ByteArray} (h : ∀ b ∈ Q.data.toList, b ≠ 10) : nlN Q = 0 := by
  unfold nlN
  have h1 : ∀ b ∈ Lib.trimSuffix Q.data.toList [10], b ≠ 10 := by
    intro b hb
    unfold Lib.trimSuffix at hb
    split at hb
    · exact h b (List.mem_of_mem_take hb)
    · exact h b hb
  generalize Lib.trimSuffix Q.data.toList [10] = l at h1
  induction l with
  | nil => rfl
  | cons a l ih =>
    have h2 := h1 a (by simp)
    have h3 := ih (fun b hb => h1 b (by simp [hb]))
    unfold Lib.countByte at h3 ⊢
    simp_all
/-- Scan of a text that is quoted. -/
theorem scan_quo (s : ByteArray) (hz : (quoV s).length ≤ 1048576) : ∃ l k, scanS ⟨(quoV s).toArray⟩ = .ok [⟨1, s.data.toList, (1, 1, 0)⟩, ⟨0, [], (l, k, (quoV s).length)⟩] := by
  by_cases h0 : s.size = 0
  · have hq : quoV s = [39, 39] := by unfold quoV; rw [if_pos h0]
    have hs : s.data.toList = [] := by apply List.eq_nil_of_length_eq_zero; rw [← Lib.size_eq]; exact h0
    rw [hq, hs]
    exact ⟨1, 3, by kernel_rfl⟩
  · have hq : quoV s = quoF s s.size 0 := by unfold quoV; rw [if_neg h0]
    obtain ⟨Q, hQ⟩ : ∃ Q : ByteArray, Q = ⟨(quoV s).toArray⟩ := ⟨_, rfl⟩
    have hQl : Q.data.toList = quoF s s.size 0 := by rw [hQ]; simp [hq]
    have hQz : Q.size = (quoV s).length := by rw [Lib.size_eq, hQl, hq]
    rw [← hQ]
    obtain ⟨n, hn⟩ : ∃ n, s.size = n + 1 := ⟨s.size - 1, by omega⟩
    have hqu : quoF s s.size 0 = quoU s 0 ++ quoF s n (0 + unitW s 0) := by rw [hn, quoF, if_pos (by omega)]
    obtain ⟨u1, u2, u3⟩ := unitW_bd s 0 (by omega)
    have u3 := u3 (by omega)
    have hd0 : Q.data.toList.drop 0 = quoU s 0 ++ quoF s n (0 + unitW s 0) := by rw [List.drop_zero, hQl, hqu]
    obtain ⟨F1, c1, e1, e2, e3⟩ := run_unit (F := Q.size + 1) (by omega) hd0 (by omega) (by omega) (rd_first Q)
    obtain ⟨F2, c2, e4, e5, e6⟩ := run_quo s Q n (0 + unitW s 0) (0 + (quoU s 0).length) F1 c1 _ (drop_more hd0) (by omega) (by omega) (drop_len hd0 (by omega)) e3 e2
    rw [List.nil_append, seg_app s 0 _ _ (by omega) (by omega), seg_all] at e5
    obtain ⟨l, k, e7⟩ := run_end e6 e5
    refine ⟨l, k, ?_⟩
    have hn10 : nlN Q = 0 := nlN_none (by rw [hQl]; exact quoF_no10 s _ _)
    unfold scanS
    rw [if_neg (by omega), if_neg (by omega), e1, e4, e7]
    simp only [endS]
    rw [if_neg (by decide), if_neg (by decide), hQz]
    rfl
end Go.Proofs.YtlfdpdlhppgakaaGreatDoor
/- The laws' own: works. -/
namespace Go.Proofs.YtlfdpdlhppgakaaGreatDoor
open Go Go.RowKit Go.Kt Go.Shelf Go.Lib
attribute [local go_sem] Oper.semAt_some

theorem ownS_at {Y : Nat → Prop} {e : TypeId} {sz n g cap : Nat} {xs : List Value} {W : World} (h : OwnS Y e sz (.slice (some ⟨g, 0, none⟩) n cap) n xs W) {i : Nat} {u : Value} (hi : xs[i]? = some u) : W.cell? ⟨g, i, none⟩ = some u := by
  have := h.1.cells (g := g) rfl i u hi
  by_cases h0 : i = 0
  · subst h0; simpa [Addr.add] using this
  · simpa [Addr.add, h0] using this
theorem scan_a : scanS ⟨#[97, 32, 60]⟩ = .ok [⟨1, [97], (1, 1, 0)⟩, ⟨2, [60], (1, 3, 2)⟩, ⟨0, [], (1, 4, 3)⟩] := by kernel_rfl
theorem scan_b : scanS ⟨#[97, 32, 93]⟩ = .bad 25 1 3 := by kernel_rfl

end Go.Proofs.YtlfdpdlhppgakaaGreatDoor
/- ScanBack: its walk. -/
namespace Go.Proofs.YtlfdpdlhppgakaaGreatDoor
open Go Go.RowKit Go.Kt Go.Shelf Go.Lib
attribute [local go_sem] Oper.semAt_some

theorem bruijn_below {A B : World} (h : BTab A) (hl : 6 < A.heap.size) (hb : Below A.heap.size A B) : BTab B := fun k hk => (hb.cell (p := ⟨6, k, none⟩) hl).trans (h k hk)
theorem quoF_len (s : ByteArray) : ∀ (f i : Nat), i ≤ s.size → (quoF s f i).length ≤ 13 * (s.size - i) := by
  intro f
  induction f with
  | zero => intro i _; simp [quoF]
  | succ f ih =>
    intro i hi
    rw [quoF]
    split
    · rename_i hlt
      obtain ⟨u1, u2, u3⟩ := unitW_bd s i hi
      have u3 := u3 hlt
      have h1 := ih (i + unitW s i) u2
      have h2 : (quoU s i).length ≤ 13 := by
        unfold quoU
        exact escV_len _ _ (by rw [← Lib.size_eq, ByteArray.size_extract]; omega)
      rw [List.length_append]; omega
    · simp
theorem quoV_len (s : ByteArray) : (quoV s).length ≤ 13 * s.size + 2 := by
  unfold quoV
  split
  · simp
  · have := quoF_len s s.size 0 (Nat.zero_le _); omega

set_option maxHeartbeats 1000000 in
set_option maxRecDepth 100000 in
theorem scanBack_c (s : ByteArray) (w : World) (hE : SEnv w) (hB : BTab w) (hl : 6 < w.heap.size) (hs : s.size ≤ 8796093022208) :
    Calls Tryz.prog 5 #[.string s] w fun e w' => e = .returned (.bool true) ∧ Below w.heap.size w w' := by
  have CQ := Lib.hid (quote_any s w hE hB hl hs)
  have hql := quoV_len s
  have hsq := fun h => scan_quo s h
  obtain ⟨Q, hQ⟩ : ∃ Q : ByteArray, (⟨(quoV s).toArray⟩ : ByteArray) = Q := ⟨_, rfl⟩
  have hQz : Q.size = (quoV s).length := by rw [← hQ]; exact size_mk _
  rw [hQ] at CQ hsq
  rw [← hQz] at hsq hql
  have HE := Lib.hid hE
  clear hQ hQz hE hB hl
  by_cases hz : Q.size ≤ 1048576
  · obtain ⟨l, k, hsc⟩ := hsq hz
    clear hsq
    have hz1 : ¬ (1048576 : Int) < Q.size := by omega
    go_enter Tryz.func5, Tryz.ntmps5
    go_wp2_with fail
    refine CQ.out.mono ?_
    rintro e w1 ⟨rfl, hb1⟩
    have C1 := Lib.hid (scan_any Q w1 (HE.out.below hb1) (by omega))
    rw [hsc] at C1
    have HB1 := Lib.hid hb1
    clear hb1 hsc
    go_wp2_with fail
    refine C1.out.mono ?_
    rintro e w2 ⟨⟨g, cap, rfl, ho⟩, hb2⟩
    have HB2 := Lib.hid (HB1.out.trans (hb2.mono HB1.out.size))
    have k0 : w2.cell? ⟨g, 0, none⟩ = some (.int .i64 1) := ownS_at ho (i := 0) rfl
    have k1 : w2.cell? ⟨g, 1, none⟩ = some (.string ⟨s.data.toList.toArray⟩) := ownS_at ho (i := 1) rfl
    have k4 : w2.cell? ⟨g, 4, none⟩ = some (.int .i64 0) := ownS_at ho (i := 4) rfl
    have k5 : w2.cell? ⟨g, 5, none⟩ = some (.int .i64 0) := ownS_at ho (i := 5) rfl
    have k9 : w2.cell? ⟨g, 9, none⟩ = some (.int .i64 (Q.size : Nat)) := ownS_at ho (i := 9) rfl
    have hse : (⟨s.data.toList.toArray⟩ : ByteArray) = s := by apply ByteArray.ext; simp
    rw [hse] at k1
    have CW := Lib.hid (works_any5 w2 (HE.out.below HB2.out))
    clear ho hb2 hse C1 HB1 CQ hz hql hs
    go_wp2_with (go_at_call 10; refine CW.out.mono ?_; rintro e w3 ⟨rfl, hb3⟩)
    go_ret
    exact ⟨rfl, HB2.out.trans (hb3.mono HB2.out.size)⟩
  · have hz1 : (1048576 : Int) < Q.size := by omega
    have hsc : scanS Q = .bad 5 0 0 := by unfold scanS; rw [if_pos (by omega)]
    clear hsq
    go_enter Tryz.func5, Tryz.ntmps5
    go_wp2_with fail
    refine CQ.out.mono ?_
    rintro e w1 ⟨rfl, hb1⟩
    have C1 := Lib.hid (scan_any Q w1 (HE.out.below hb1) (by omega))
    rw [hsc] at C1
    have HB1 := Lib.hid hb1
    clear hb1 hsc
    go_wp2_with fail
    refine C1.out.mono ?_
    rintro e w2 ⟨rfl, hb2⟩
    have HB2 := Lib.hid (HB1.out.trans (hb2.mono HB1.out.size))
    have CA := Lib.hid (fun V (h : Below w.heap.size w V) => at_fault 5 0 0 V (by decide) (by decide) (HE.out.below h).err)
    have CW := Lib.hid (fun V (h : Below w.heap.size w V) => works_any5 V (HE.out.below h))
    clear hb2 C1 HB1 CQ hz hql hs
    go_wp2_with (first
      | (go_at_call 13; refine (CA.out _ HB2.out).mono ?_; rintro e w3 ⟨rfl, hb3⟩; have HB3 := Lib.hid (HB2.out.trans (hb3.mono HB2.out.size)); clear hb3)
      | (go_at_call 10; refine (CW.out _ HB3.out).mono ?_; rintro e w4 ⟨rfl, hb4⟩))
    go_ret
    exact ⟨rfl, HB3.out.trans (hb4.mono HB3.out.size)⟩
end Go.Proofs.YtlfdpdlhppgakaaGreatDoor
/- Of every text (of bulk at most 1048576), ScanBack answers true (what is quoted is read as that text alone), in any world in which the package's variables are laid: the row and the card. -/
namespace Go.Proofs.YtlfdpdlhppgakaaGreatDoor
open Go.ChangeShapes Go.WideShapes Go.ChangeAt Go.RowKit Go.Kt
set_option maxRecDepth 100000

theorem scanBackUpto_lifted (os : Os) (started : os.Started) (H : Type) (enc : TypeId × Value → H) (F : Stop.Interp) :
    ReturnsInHanded {} Tryz.checked os 5 .any ((Rows.OpenSpec.upto Rows.scanBackSpec).preRow enc Tryz.prog Tryz.f5 Rows.scanBackUptoRow.domain false Rows.scanBackUptoRow.laid) (((Rows.OpenSpec.upto Rows.scanBackSpec).at F).post enc Tryz.prog Tryz.f5 false true false false) := by
  refine returnsInHanded_of_row (C := Tryz.checked) (s := Rows.OpenSpec.upto Rows.scanBackSpec) own started (by kernel_rfl) Tryz.func5
    (witness_row_at (enc := enc) (C := Tryz.checked) false (world8 os) #[.string ⟨#[]⟩] (world8_os _) (by kernel_rfl) (by kernel_rfl) (by kernel_rfl)
      (OpenSpec.preRow_of_cond (x := ([.lit (.string [])], [], [])) 8 (by kernel_rfl) (by kernel_rfl) (fun k hk => by cases hk; kernel_rfl) (by kernel_rfl) (laid_met8 os _))) ?_
  intro W base args ds gs before hval0 hW _ hcond hz hL _ _
  have hval : ∀ (j : Nat) t v, Tryz.f5.params[j]? = some t → args[j]? = some v → Value.okWide Tryz.prog W .any base t v := hval0
  have hW' := hW
  obtain ⟨p, q, hA0, hV, rfl, _, _⟩ := hW
  have hA : DataW.TrodAll enc Tryz.prog W 0 (fun _ => true) true Tryz.f5.params.toList args.toList ds p := hA0
  rw [Tryz.params5] at hA hval
  obtain ⟨v0, d0, rfl, rfl, h0⟩ := trodAll_one hA
  obtain ⟨rfl, rfl⟩ := trodVars_none hV
  obtain ⟨a0, rfl, rfl, rfl, w0⟩ := ChangeMaps.open_string Tryz.underlying9 (hval 0 9 v0 rfl rfl) h0
  have z0 : a0.size ≤ 140737488351232 := by simpa [reachBytes] using sized_string hz (j := 0) rfl rfl
  obtain ⟨hE, hT, hTl⟩ := of_laid8 hL
  have hB := of_decide_eq_true (hcond _ rfl)
  simp only [List.append_nil, Rows.uptoBulkAll, Rows.uptoBulk, Array.length_toList] at hB
  clear hA0 hval0
  simp only [List.append_nil] at hW'
  refine (scanBack_c a0 W hE hT hTl (by have e : a0.size = a0.data.size := rfl; omega)).mono fun e W' ⟨he, hb⟩ => ?_
  subst he
  exact ⟨_, rfl, _, _, _, [], [], [], hW', trodAll_mk1 (shut_bool Tryz.underlying4 _), (trodAll_mk1 (ChangeMaps.shut_string Tryz.underlying9 w0)), rfl, hb.frame _, fun h => by cases h⟩

theorem scanBackUpto_said : Rows.ScanBackUptoSaid :=
  OpenClaim.holds_of_cond 5 Tryz.f5 rfl rfl rfl rfl rfl rfl rfl ⟨rfl, rfl, rfl, rfl, rfl⟩ rfl rfl rfl rfl rfl (by kernel_rfl) Tryz.func5 (by kernel_rfl)
    (of_decide_eq_true (by kernel_rfl)) (by unfold Func.isWrapper; first | (rw [if_pos (by decide +kernel)]; kernel_rfl) | (rw [if_neg (by decide +kernel)]; exact ⟨rfl, rfl⟩))
    (fun os started H enc _ F => by rw [OpenClaim.pre_eq_preRow]; exact scanBackUpto_lifted os started H enc F)

theorem scanBackUpto_plain (f : FuncId) (fn : Func) (hf : Tryz.pinned.checked.prog.funcNamed "glossary/glossarylaw05.ScanBack" = some f) (hfn : Tryz.pinned.checked.prog.funcs[f]? = some fn) :
    true = Tryz.pinned.checked.prog.looks [] ∧ ∀ (j : Nat) t, fn.params[j]? = some t → Tryz.pinned.checked.prog.wantsStandIn t = false := by
  obtain rfl : f = 5 := Option.some.inj ((show Tryz.prog.funcNamed "glossary/glossarylaw05.ScanBack" = some 5 by kernel_rfl).symm.trans hf) |>.symm
  obtain rfl : fn = Tryz.f5 := (Option.some.inj (Tryz.func5.symm.trans hfn)).symm
  refine ⟨by kernel_rfl, fun j t ht => ?_⟩
  rw [Tryz.params5] at ht
  have hm : t ∈ [9] := by simpa using Array.mem_of_getElem? ht
  have hall : ([9].all fun u => !Tryz.prog.wantsStandIn u) = true := by kernel_rfl
  exact (show Tryz.prog.wantsStandIn t = false by simpa using List.all_eq_true.1 hall t hm)

theorem scanBackUpto_card : Rows.ScanBackUptoCardSaid :=
  Claim7.holds_tied_plain_at .later [] _ _ _ _ scanBackUpto_said (fun _ h => by cases h) (by kernel_rfl) (fun _ h => by cases h) scanBackUpto_row_tie rfl ⟨rfl, rfl⟩ (by kernel_rfl) rfl scanBackUpto_plain (by kernel_rfl)

end Go.Proofs.YtlfdpdlhppgakaaGreatDoor
