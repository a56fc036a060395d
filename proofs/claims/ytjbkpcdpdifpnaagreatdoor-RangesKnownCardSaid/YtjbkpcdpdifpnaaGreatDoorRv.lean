/- The document's answer for ranges: Spans, Count, Print, First of a set. -/
import Derived.Test.YtjbkpcdpdifpnaaGreatDoorCk10
import Derived.Test.YtjbkpcdpdifpnaaGreatDoorCk6
import Derived.Test.YtjbkpcdpdifpnaaGreatDoorCk11
import Derived.Test.YtjbkpcdpdifpnaaGreatDoorK14
import Derived.Deep.AppendLies
namespace Go.Proofs.YtjbkpcdpdifpnaaGreatDoor
open Go Go.RowKit Go.Kt Go.Kt.Rg
attribute [local go_sem] Oper.semAt_some

def BoxW (w : World) (v : Value) (W : World) : Prop := W.heap[w.heap.size]? = some (.cells #[v] 44 (0, 0)) ∧ Below w.heap.size w W ∧ w.heap.size + 1 ≤ W.heap.size
theorem BoxW.start (w : World) (v : Value) : BoxW w v (w.alloc (.cells #[v] 44)) := ⟨alloc_at rfl, (Below.refl _ _).alloc (Nat.le_refl _) _, by simp⟩
theorem BoxW.next {w V V' : World} {v : Value} (h : BoxW w v V) (hb : Below V.heap.size V V') : BoxW w v V' :=
  ⟨(hb.block _ (by have := h.2.2; omega)).trans h.1, h.2.1.trans (hb.mono h.2.1.size), Nat.le_trans h.2.2 hb.size⟩
theorem BoxW.cell {w V : World} {v : Value} (h : BoxW w v V) : V.cell? ⟨w.heap.size, 0, none⟩ = some v := by rw [Lib.cell_of_heap h.1]; rfl
theorem BoxW.keep {w V V' : World} {v : Value} {X : Nat → Prop} (h : BoxW w v V) (hk : Keep X V V') (hX : ∀ b, X b → w.heap.size + 1 ≤ b) : BoxW w v V' := by
  have hb : Below (w.heap.size + 1) V V' := hk.below h.2.2 hX
  exact ⟨(hb.block _ (by omega)).trans h.1, h.2.1.trans (hb.mono (by omega)), Nat.le_trans h.2.2 hb.size⟩
theorem slr_at {w : World} {v : Value} {l : List Run} (h : SlR w v (l.map dnR)) : ∃ ao cap, v = .slice ao l.length cap ∧ ∀ V, Below w.heap.size w V → ∀ (k : Nat) (x : Run), l[k]? = some x →
    ∃ g, ao = some ⟨g, 0, none⟩ ∧ V.cell? ⟨g, k * 2, none⟩ = some (.int .i64 x.1) ∧ V.cell? ⟨g, k * 2 + 1, none⟩ = some (.int .i64 (x.2 - 1)) := by
  obtain ⟨ao, cap, rfl, h⟩ := h
  refine ⟨ao, cap, by rw [List.length_map], fun V hV k x hx => ?_⟩
  have hx2 : (l.map dnR)[k]? = some (dnR x) := by rw [List.getElem?_map, hx]; rfl
  rcases h with h | ⟨g, rfl, h⟩
  · rw [h] at hx2; cases hx2
  · obtain ⟨h1, h2⟩ := h k _ hx2
    exact ⟨g, rfl, (hV.cell (lt_of_cell h1)).trans h1, (hV.cell (lt_of_cell h2)).trans h2⟩

set_option maxRecDepth 100000 in
theorem xcount_any (l : List Run) (v : Value) (w : World) (h : SlR w v (l.map dnR)) (hc : Canon l) :
    Calls Tryz.prog 48 #[.agg #[v]] w fun e w' => e = .returned (.int .i64 (cntL l)) ∧ Below w.heap.size w w' := by
  obtain ⟨ao, cap, rfl, hrow⟩ := slr_at h
  have hlen := canon_len hc (Int.le_refl _)
  have hl : l.length ≤ 1112192 := by unfold allN at hlen; omega
  have HR := Lib.hid hrow
  have HC := Lib.hid hc
  clear h hrow hc hlen
  obtain ⟨n, hn⟩ : ∃ n, l.length = n := ⟨_, rfl⟩
  have HN := Lib.hid hn
  rw [hn] at hl ⊢
  clear hn
  go_enter Tryz.func48, Tryz.ntmps48
  go_wp2
  go_loopw [3, 4] (fun a x wr => ∃ k : Nat, x = .int .i64 k ∧ k ≤ n ∧ a = .int .i64 (cntL (l.take k)) ∧ BoxW w (.slice ao n cap) wr) (fun _ x _ => n - (RowKit.intOf x).toNat)
  case atStart => exact ⟨0, rfl, by omega, rfl, BoxW.start _ _⟩
  case round =>
    obtain ⟨k, rfl, hk, rfl, hb⟩ := hrel
    have c0 := hb.cell
    have HB := Lib.hid hb
    clear hb
    by_cases hlt : k < n
    · have hlt' : (k : Int) < n := by omega
      obtain ⟨x, hx⟩ : ∃ x, l[k]? = some x := ⟨_, List.getElem?_eq_getElem (by rw [HN.out]; exact hlt)⟩
      obtain ⟨g, rfl, r1, r2⟩ := HR.out wr HB.out.2.1 k x hx
      have hf := Canon.fit HC.out x (List.mem_of_getElem? hx)
      have hcb := cnt_bd (CanonFrom.take k HC.out) (Int.le_refl _) (by decide)
      have hcs := Lib.hid (cnt_take l k x hx)
      unfold allN at hf hcb
      obtain ⟨x1, x2⟩ := x
      simp only at hf hcs r1 r2
      obtain ⟨u, hu⟩ : ∃ u, x2 - 1 = u := ⟨_, rfl⟩
      rw [hu] at r2
      clear hx
      generalize cntL (l.take k) = A at *
      have a1 : IntKind.i64.wrap (A + u) = A + u := IntWalk.i64_in _ (by omega)
      have a2 : IntKind.i64.wrap (A + u - x1) = A + u - x1 := IntWalk.i64_in _ (by omega)
      have a3 : IntKind.i64.wrap (A + u - x1 + 1) = A + u - x1 + 1 := IntWalk.i64_in _ (by omega)
      have HU := Lib.hid (And.intro hu (And.intro hf hcb))
      clear hu hf hcb
      go_wp2
      go_quiet (fail)
      go_wp2
      go_roundw
      case rel => exact ⟨k + 1, by go_num, by omega, by rw [hcs.out]; congr 1; have := HU.out.1; omega, HB.out.next (below_drewN (Below.refl _ _) _)⟩
      case measure => simp [RowKit.intOf]; omega
    · have hlt' : ¬ (k : Int) < n := by omega
      obtain rfl : k = n := by omega
      have e : l.take k = l := by rw [← HN.out, List.take_length]
      rw [e]
      go_wp2
      go_ret
      exact ⟨rfl, HB.out.2.1⟩

theorem append_spn {Y : Nat → Prop} {ao : Option Addr} {n cp : Nat} {l : List (Int × Int)} {W : World} (hown : OwnS Y 27 2 (.slice ao n cp) n (encSp l) W) (hY : ∀ y, W.heap.size ≤ y → Y y) (x : Int × Int) (hn : n ≤ 2199023255552) :
    ∃ g cap w', (∀ ty, (Builtin.append_ #[25, 25] ty #[.slice ao n cp, .slice (some ⟨W.heap.size, 0, none⟩) 1 1]).run Tryz.prog (W.alloc (.cells #[.int .i32 x.1, .int .i32 x.2] 27)) = .ok (.slice (some ⟨g, 0, none⟩) (n + 1) cap) w') ∧
      OwnS Y 27 2 (.slice (some ⟨g, 0, none⟩) (n + 1) cap) (n + 1) (encSp (l ++ [x])) w' ∧ W.heap.size < w'.heap.size ∧ Keep (fun b => (Value.slice ao n cp).ownBlock = some b) W w' := by
  obtain ⟨g, cap, w2, hrun, hown2, hk2, hg2, hz2⟩ := append_x (P := Tryz.prog) W 25 27 Tryz.underlying25 tinfoSpan rfl (by omega) hown [.int .i32 x.1, .int .i32 x.2] rfl
    (by intro u hu; simp at hu; rcases hu with rfl | rfl <;> rfl) (by unfold maxLen; omega) (by omega)
  have hge : Y g := by
    rcases hg2 with h | h
    · exact hown.2 g h
    · exact hY g (by omega)
  refine ⟨g, cap, w2, hrun, ?_, hz2, hk2⟩
  rw [encSp_snoc]; exact hown2.weaken (fun b h => by subst h; exact hge)

set_option maxRecDepth 100000 in
theorem xspans_any (l : List Run) (v : Value) (w : World) (h : SlR w v (l.map dnR)) (hc : Canon l) :
    Calls Tryz.prog 47 #[.agg #[v]] w fun e w' => ∃ ao cp, e = .returned (.slice ao l.length cp) ∧ OwnS (fun b => w.heap.size ≤ b) 27 2 (.slice ao l.length cp) l.length (encSp (spansL l)) w' ∧ Below w.heap.size w w' := by
  obtain ⟨ao, cap, rfl, hrow⟩ := slr_at h
  have hlen := canon_len hc (Int.le_refl _)
  have hl : l.length ≤ 1112192 := by unfold allN at hlen; omega
  have HR := Lib.hid hrow
  have HC := Lib.hid hc
  clear h hrow hc hlen
  obtain ⟨n, hn⟩ : ∃ n, l.length = n := ⟨_, rfl⟩
  have HN := Lib.hid hn
  rw [hn] at hl ⊢
  clear hn
  go_enter Tryz.func47, Tryz.ntmps47
  go_wp2
  go_loopw [3, 4] (fun a x wr => ∃ (k : Nat) (a2 : Option Addr) (c2 : Nat), x = .int .i64 k ∧ k ≤ n ∧ a = .slice a2 k c2 ∧ OwnS (fun b => w.heap.size + 1 ≤ b) 27 2 (.slice a2 k c2) k (encSp (spansL (l.take k))) wr ∧ BoxW w (.slice ao n cap) wr) (fun _ x _ => n - (RowKit.intOf x).toNat)
  case atStart => exact ⟨0, none, 0, rfl, by omega, rfl, own_nil _ _ _ _, BoxW.start _ _⟩
  case round =>
    obtain ⟨k, a2, c2, rfl, hk, rfl, hown, hb⟩ := hrel
    have c0 := hb.cell
    have HB := Lib.hid hb
    have HO := Lib.hid hown
    clear hb hown
    by_cases hlt : k < n
    · have hlt' : (k : Int) < n := by omega
      obtain ⟨x, hx⟩ : ∃ x, l[k]? = some x := ⟨_, List.getElem?_eq_getElem (by rw [HN.out]; exact hlt)⟩
      obtain ⟨g, rfl, r1, r2⟩ := HR.out wr HB.out.2.1 k x hx
      have hf := Canon.fit HC.out x (List.mem_of_getElem? hx)
      unfold allN at hf
      have HS : Hid (spansL (l.take (k + 1)) = spansL (l.take k) ++ [(pntI x.1, pntI (x.2 - 1))]) := Lib.hid (by
        unfold spansL
        rw [List.take_add_one, hx, List.map_append]; rfl)
      obtain ⟨x1, x2⟩ := x
      simp only at hf HS r1 r2
      obtain ⟨u, hu⟩ : ∃ u, x2 - 1 = u := ⟨_, rfl⟩
      rw [hu] at r2 HS
      have P1 := Lib.hid (fun V => xPoint_any x1 V (by omega) (by omega))
      have P2 := Lib.hid (fun V => xPoint_any u V (by omega) (by omega))
      generalize pntI x1 = p1 at *
      generalize pntI u = p2 at *
      obtain ⟨L, hLL⟩ : ∃ L, spansL (l.take k) = L := ⟨_, rfl⟩
      rw [hLL] at HO HS
      have hown1 : OwnS (fun y => (Value.slice a2 k c2).ownBlock = some y) 27 2 (.slice a2 k c2) k (encSp L) wr := HO.out.self
      have hkv : ∀ y, (Value.slice a2 k c2).ownBlock = some y → y < wr.heap.size := fun y h => (HO.out.1.lt y h).2
      obtain ⟨ti, hti, hz, hs1, hbt⟩ := info_parts tinfoSpan
      have HI := And.intro hti (And.intro hz (And.intro hs1 hbt))
      have HOC : ∀ z ∈ [Value.int .i32 p1, .int .i32 p2], z.oneCell' = true := by intro z hz; simp at hz; rcases hz with rfl | rfl <;> rfl
      have HM1 : k + 1 ≤ maxLen := by unfold maxLen; omega
      have HM2 : (k + 1) * 8 ≤ 140737488355328 := by omega
      have BS : ∀ W : World, (Instr.buildSlice 25 1 #[(0, .agg #[.int .i32 p1, .int .i32 p2])]).run Tryz.prog W = .ok (.slice (some ⟨W.heap.size, 0, none⟩) 1 1) (W.alloc (.cells #[.int .i32 p1, .int .i32 p2] 27)) := fun W => by go_simp
      have BD : ∀ W : World, (Instr.build 27 #[(0, .int .i32 p1), (1, .int .i32 p2)]).run Tryz.prog W = .ok (.agg #[.int .i32 p1, .int .i32 p2]) W := fun W => by go_simp
      have RK : ∀ X, Keep (fun b => (Value.slice a2 k c2).ownBlock = some b) wr X → X.cell? ⟨w.heap.size, 0, none⟩ = some (.slice (some ⟨g, 0, none⟩) n cap) ∧ X.cell? ⟨g, k * 2, none⟩ = some (.int .i64 x1) ∧ X.cell? ⟨g, k * 2 + 1, none⟩ = some (.int .i64 u) := fun X hX => by
        have hbx := HB.out.keep hX (fun b hb => HO.out.2 b hb)
        obtain ⟨g', e, h1, h2⟩ := HR.out X hbx.2.1 k _ hx
        injection e with e
        injection e with e
        subst e
        simp only [hu] at h2
        exact ⟨hbx.cell, h1, h2⟩
      have hfa : ∀ X : World, (Instr.fieldAt 44 (.pointer (some ⟨w.heap.size, 0, none⟩)) 0).run Tryz.prog X = .ok (.pointer (some ⟨w.heap.size, 0, none⟩)) X := fun X => by go_simp
      have hls : ∀ X, Keep (fun b => (Value.slice a2 k c2).ownBlock = some b) wr X → (Instr.loadAt 42 (.pointer (some ⟨w.heap.size, 0, none⟩))).run Tryz.prog X = .ok (.slice (some ⟨g, 0, none⟩) n cap) X := fun X hX => by
        have q := (RK X hX).1
        go_simp
      have hl0 : ∀ X, Keep (fun b => (Value.slice a2 k c2).ownBlock = some b) wr X → (Instr.loadAt 3 (.pointer (some ⟨g, k * 2, none⟩))).run Tryz.prog X = .ok (.int .i64 x1) X := fun X hX => by
        have q := (RK X hX).2.1
        go_simp
      have hl1 : ∀ X, Keep (fun b => (Value.slice a2 k c2).ownBlock = some b) wr X → (Instr.loadAt 3 (.pointer (some ⟨g, k * 2 + 1, none⟩))).run Tryz.prog X = .ok (.int .i64 u) X := fun X hX => by
        have q := (RK X hX).2.2
        go_simp
      have hix : ∀ X : World, (Instr.indexAt 42 (.slice (some ⟨g, 0, none⟩) n cap) (.int .i64 (k : Nat))).run Tryz.prog X = .ok (.pointer (some ⟨g, k * 2, none⟩)) X := fun X => by go_simp
      have hi0 : ∀ X : World, (Instr.indexAt 103 (.pointer (some ⟨g, k * 2, none⟩)) (.int .i64 0)).run Tryz.prog X = .ok (.pointer (some ⟨g, k * 2, none⟩)) X := fun X => by go_simp
      have hi1 : ∀ X : World, (Instr.indexAt 103 (.pointer (some ⟨g, k * 2, none⟩)) (.int .i64 1)).run Tryz.prog X = .ok (.pointer (some ⟨g, k * 2 + 1, none⟩)) X := fun X => by go_simp
      go_wp2
      obtain ⟨FF, hFF⟩ : ∃ FF : AppR, FF = ⟨wr, .slice a2 k c2, 27, 2, k, k + 1, encSp L, encSp L ++ [.int .i32 p1, .int .i32 p2], #[.int .i32 p1, .int .i32 p2], 1, 16, 17, 18, fun z => match z with | 0 => some (.slice a2 k c2) | 1 => some (.pointer (some ⟨w.heap.size, 0, none⟩)) | 2 => some (.slice (some ⟨g, 0, none⟩) n cap) | 3 => some (.int .i64 (k : Nat)) | 4 => some (.pointer (some ⟨g, k * 2, none⟩)) | 5 => some (.pointer (some ⟨g, k * 2, none⟩)) | 6 => some (.int .i64 x1) | 7 => some (.int .i32 p1) | 8 => some (.pointer (some ⟨w.heap.size, 0, none⟩)) | 9 => some (.slice (some ⟨g, 0, none⟩) n cap) | 10 => some (.int .i64 (k : Nat)) | 11 => some (.pointer (some ⟨g, k * 2, none⟩)) | 12 => some (.pointer (some ⟨g, k * 2 + 1, none⟩)) | 13 => some (.int .i64 u) | 14 => some (.int .i32 p2) | 15 => some (.agg #[.int .i32 p1, .int .i32 p2]) | _ => none⟩ := ⟨_, rfl⟩
      have H0 : AppR.S FF (fun _ => false) wr.drew := by rw [hFF]; exact ⟨fun _ => hown1, (Keep.refl _ wr).drew⟩
      refine wp_region_old (AppR.S FF) (AppR.P FF) (by kernel_rfl) (by kernel_rfl) (by kernel_rfl) H0 ?hs ?hd
      case hs =>
        rw [hFF]
        refine ESteps.cons ?_ (ESteps.cons ?_ (ESteps.cons ?_ (ESteps.cons ?_ (ESteps.cons ?_ (ESteps.cons ?_ (ESteps.cons ?_ (ESteps.cons ?_ (ESteps.cons ?_ (ESteps.cons ?_ (ESteps.cons ?_ (ESteps.cons ?_ (ESteps.cons ?_ (ESteps.cons ?_ (ESteps.cons ?_ (ESteps.cons ?_ (ESteps.cons ?_ (ESteps.cons ?_ (ESteps.cons ?_ (ESteps.nil)))))))))))))))))))
        · intro D2 a X hDi hDa _ hX hL hU hd
          refine ⟨rfl, ?_⟩
          have e0 : a.eval (.tmp 3) = .slice a2 k c2 := (hU 18 3 (hDa 18 (by kernel_rfl)) (by kernel_rfl)).trans (by kernel_rfl)
          exact wp_value (exec_move rfl e0) ⟨_, rfl, hX.more, fun _ _ _ h => h, AppR.P.mk rfl ⟨by simp, by simp, by simp⟩⟩
        · intro D2 a X hDi hDa _ hX hL hU hd
          refine ⟨rfl, ?_⟩
          have e0 : a.eval (.tmp 1) = .pointer (some ⟨w.heap.size, 0, none⟩) := hL.far 1 (by kernel_rfl)
          exact wp_value (exec_fieldAddr rfl e0 (hfa X)) ⟨_, rfl, hX.more, fun _ _ _ h => h, AppR.P.mk rfl ⟨by simp, by simp, by simp⟩⟩
        · intro D2 a X hDi hDa _ hX hL hU hd
          refine ⟨rfl, ?_⟩
          have e0 : a.eval (.tmp 13) = .pointer (some ⟨w.heap.size, 0, none⟩) := (hd 1 13 (by kernel_rfl) (by kernel_rfl)).is rfl
          exact wp_value (exec_load rfl e0 (hls X hX.2)) ⟨_, rfl, hX.more, fun _ _ _ h => h, AppR.P.mk rfl ⟨by simp, by simp, by simp⟩⟩
        · intro D2 a X hDi hDa _ hX hL hU hd
          refine ⟨rfl, ?_⟩
          have e0 : a.eval (.tmp 4) = .int .i64 (k : Nat) := hL.far 4 (by kernel_rfl)
          exact wp_value (exec_move rfl e0) ⟨_, rfl, hX.more, fun _ _ _ h => h, AppR.P.mk rfl ⟨by simp, by simp, by simp⟩⟩
        · intro D2 a X hDi hDa _ hX hL hU hd
          refine ⟨rfl, ?_⟩
          have e0 : a.eval (.tmp 14) = .slice (some ⟨g, 0, none⟩) n cap := (hd 2 14 (by kernel_rfl) (by kernel_rfl)).is rfl
          have e1 : a.eval (.tmp 15) = .int .i64 (k : Nat) := (hd 3 15 (by kernel_rfl) (by kernel_rfl)).is rfl
          exact wp_value (exec_indexAddr rfl e0 e1 (hix X)) ⟨_, rfl, hX.more, fun _ _ _ h => h, AppR.P.mk rfl ⟨by simp, by simp, by simp⟩⟩
        · intro D2 a X hDi hDa _ hX hL hU hd
          refine ⟨rfl, ?_⟩
          have e0 : a.eval (.tmp 16) = .pointer (some ⟨g, k * 2, none⟩) := (hd 4 16 (by kernel_rfl) (by kernel_rfl)).is rfl
          exact wp_value (exec_indexAddr rfl e0 rfl (hi0 X)) ⟨_, rfl, hX.more, fun _ _ _ h => h, AppR.P.mk rfl ⟨by simp, by simp, by simp⟩⟩
        · intro D2 a X hDi hDa _ hX hL hU hd
          refine ⟨rfl, ?_⟩
          have e0 : a.eval (.tmp 17) = .pointer (some ⟨g, k * 2, none⟩) := (hd 5 17 (by kernel_rfl) (by kernel_rfl)).is rfl
          exact wp_value (exec_load rfl e0 (hl0 X hX.2)) ⟨_, rfl, hX.more, fun _ _ _ h => h, AppR.P.mk rfl ⟨by simp, by simp, by simp⟩⟩
        · intro D2 a X hDi hDa _ hX hL hU hd
          refine ⟨rfl, ?_⟩
          have e0 : a.eval (.tmp 18) = .int .i64 x1 := (hd 6 18 (by kernel_rfl) (by kernel_rfl)).is rfl
          refine wp_enter (exec_call (vs := #[.int .i64 x1]) rfl (by simp only [List.map_toArray, List.map_cons, List.map_nil, e0]) Tryz.func101 rfl rfl) ?_
          refine (P1.out X).mono ?_
          rintro e w' ⟨rfl, rfl⟩
          exact ⟨_, rfl, _, rfl, hX.more, fun _ _ _ h => h, AppR.P.mk rfl ⟨by simp, by simp, by simp⟩⟩
        · intro D2 a X hDi hDa _ hX hL hU hd
          refine ⟨rfl, ?_⟩
          have e0 : a.eval (.tmp 1) = .pointer (some ⟨w.heap.size, 0, none⟩) := hL.far 1 (by kernel_rfl)
          exact wp_value (exec_fieldAddr rfl e0 (hfa X)) ⟨_, rfl, hX.more, fun _ _ _ h => h, AppR.P.mk rfl ⟨by simp, by simp, by simp⟩⟩
        · intro D2 a X hDi hDa _ hX hL hU hd
          refine ⟨rfl, ?_⟩
          have e0 : a.eval (.tmp 20) = .pointer (some ⟨w.heap.size, 0, none⟩) := (hd 8 20 (by kernel_rfl) (by kernel_rfl)).is rfl
          exact wp_value (exec_load rfl e0 (hls X hX.2)) ⟨_, rfl, hX.more, fun _ _ _ h => h, AppR.P.mk rfl ⟨by simp, by simp, by simp⟩⟩
        · intro D2 a X hDi hDa _ hX hL hU hd
          refine ⟨rfl, ?_⟩
          have e0 : a.eval (.tmp 4) = .int .i64 (k : Nat) := hL.far 4 (by kernel_rfl)
          exact wp_value (exec_move rfl e0) ⟨_, rfl, hX.more, fun _ _ _ h => h, AppR.P.mk rfl ⟨by simp, by simp, by simp⟩⟩
        · intro D2 a X hDi hDa _ hX hL hU hd
          refine ⟨rfl, ?_⟩
          have e0 : a.eval (.tmp 21) = .slice (some ⟨g, 0, none⟩) n cap := (hd 9 21 (by kernel_rfl) (by kernel_rfl)).is rfl
          have e1 : a.eval (.tmp 22) = .int .i64 (k : Nat) := (hd 10 22 (by kernel_rfl) (by kernel_rfl)).is rfl
          exact wp_value (exec_indexAddr rfl e0 e1 (hix X)) ⟨_, rfl, hX.more, fun _ _ _ h => h, AppR.P.mk rfl ⟨by simp, by simp, by simp⟩⟩
        · intro D2 a X hDi hDa _ hX hL hU hd
          refine ⟨rfl, ?_⟩
          have e0 : a.eval (.tmp 23) = .pointer (some ⟨g, k * 2, none⟩) := (hd 11 23 (by kernel_rfl) (by kernel_rfl)).is rfl
          exact wp_value (exec_indexAddr rfl e0 rfl (hi1 X)) ⟨_, rfl, hX.more, fun _ _ _ h => h, AppR.P.mk rfl ⟨by simp, by simp, by simp⟩⟩
        · intro D2 a X hDi hDa _ hX hL hU hd
          refine ⟨rfl, ?_⟩
          have e0 : a.eval (.tmp 24) = .pointer (some ⟨g, k * 2 + 1, none⟩) := (hd 12 24 (by kernel_rfl) (by kernel_rfl)).is rfl
          exact wp_value (exec_load rfl e0 (hl1 X hX.2)) ⟨_, rfl, hX.more, fun _ _ _ h => h, AppR.P.mk rfl ⟨by simp, by simp, by simp⟩⟩
        · intro D2 a X hDi hDa _ hX hL hU hd
          refine ⟨rfl, ?_⟩
          have e0 : a.eval (.tmp 25) = .int .i64 u := (hd 13 25 (by kernel_rfl) (by kernel_rfl)).is rfl
          refine wp_enter (exec_call (vs := #[.int .i64 u]) rfl (by simp only [List.map_toArray, List.map_cons, List.map_nil, e0]) Tryz.func101 rfl rfl) ?_
          refine (P2.out X).mono ?_
          rintro e w' ⟨rfl, rfl⟩
          exact ⟨_, rfl, _, rfl, hX.more, fun _ _ _ h => h, AppR.P.mk rfl ⟨by simp, by simp, by simp⟩⟩
        · intro D2 a X hDi hDa _ hX hL hU hd
          refine ⟨rfl, ?_⟩
          have e0 : a.eval (.tmp 19) = .int .i32 p1 := (hd 7 19 (by kernel_rfl) (by kernel_rfl)).is rfl
          have e1 : a.eval (.tmp 26) = .int .i32 p2 := (hd 14 26 (by kernel_rfl) (by kernel_rfl)).is rfl
          exact wp_value (exec_build rfl (ps := #[(0, .int .i32 p1), (1, .int .i32 p2)]) (by simp only [List.map_toArray, List.map_cons, List.map_nil, e0, e1] <;> rfl) (BD X)) ⟨_, rfl, hX.more, fun _ _ _ h => h, AppR.P.mk rfl ⟨by simp, by simp, by simp⟩⟩
        · intro D2 a X hDi hDa _ hX hL hU hd
          refine ⟨rfl, ?_⟩
          have e0 : a.eval (.tmp 27) = .agg #[.int .i32 p1, .int .i32 p2] := (hd 15 27 (by kernel_rfl) (by kernel_rfl)).is rfl
          refine wp_value (exec_buildSlice rfl (ps := #[(0, .agg #[.int .i32 p1, .int .i32 p2])]) (by simp only [List.map_toArray, List.map_cons, List.map_nil, e0] <;> rfl) (BS X)) ⟨_, rfl, (hX.below ((Below.refl _ X).alloc (Nat.le_refl _) _)).more, fun _ _ _ h => h.below ((Below.refl _ X).alloc (Nat.le_refl _) _), AppR.P.bs_ rfl ⟨by simp, by simp⟩ ⟨X.heap.size, rfl, alloc_at rfl, hX.2.size⟩⟩
        · intro D2 a X hDi hDa _ hX hL hU hd
          refine ⟨rfl, ?_⟩
          have e0 : a.eval (.tmp 12) = .slice a2 k c2 := (hd 0 12 (by kernel_rfl) (by kernel_rfl)).is rfl
          obtain ⟨b2, hb1, hb2, hb3⟩ := (hd 16 28 (by kernel_rfl) (by kernel_rfl)).2.1 rfl
          have h11 := hDa 18 (by kernel_rfl)
          have hown := hX.1 hDi
          refine wp_append_lies X (.tmp 12) (.tmp 28) 25 rfl 0 27 ti (.agg #[.int .i32 0, .int .i32 0]) 2 8 Tryz.underlying25 HI.1 HI.2.1 HI.2.2.1 HI.2.2.2 rfl (by decide) (.slice a2 k c2) k (encSp L) e0 hown.1 ⟨b2, 0, none⟩ 1 1 [.int .i32 p1, .int .i32 p2] hb1 rfl (World.news_of_block hb2) HOC (by decide) HM1 HM2 (Nat.zero_le _) _ rfl ?_
          intro g2 cap2 X2 hown2 hgrow hat hlt2
          exact ⟨_, rfl, hX.app (keep_grown hgrow), fun j u hj h => h.app hkv (keep_grown hgrow) (fun e => by subst e; rw [hDi] at hj; cases hj) (fun e => by subst e; rw [h11] at hj; cases hj), AppR.P.row (.inl rfl) rfl (by simp) ⟨_, _, rfl, hown2, fun y hy => by
            have : g2 = y := by simpa [Value.ownBlock] using hy
            subst this
            rcases hat with h | h
            · exact .inl h
            · exact .inr (by have := hX.2.size; simp only at this ⊢; omega)⟩⟩
        · intro D2 a X hDi hDa _ hX hL hU hd
          refine ⟨rfl, ?_⟩
          have hrow := (hd 17 29 (by kernel_rfl) (by kernel_rfl)).2.2 (.inl rfl)
          exact wp_value (exec_asg rfl rfl) ⟨_, rfl, hX.more, fun _ _ _ h => h, AppR.P.row (.inr rfl) rfl (by simp) hrow⟩
      case hd =>
        intro D2 a X hAll hX hL hP hE
        have hrow := (hP 18 3 (by kernel_rfl)).2.2 (.inr (by rw [hFF]))
        rw [hFF] at hrow hX
        obtain ⟨ao2, cp2, hv3, ho2⟩ := hrow
        have hK := hX.2
        obtain ⟨f, ha2, hf⟩ := hL.out [12, 13, 14, 15, 16, 17, 18, 19, 20, 21, 22, 23, 24, 25, 26, 27, 28, 29, 3] rfl
        have v3 : f 3 = .slice ao2 (k + 1) cp2 := (hf 3).trans hv3
        have HX := Lib.hid (And.intro ho2 hK)
        clear hf hAll hX hL hP hE H0 hFF BS BD HM1 HM2 HOC HI hti hz hs1 hbt hkv hown1 ho2 hK hv3 RK hls hl0 hl1 hfa hix hi0 hi1
        simp only [List.foldl_cons, List.foldl_nil, List.setIfInBounds_toArray, List.set_cons_zero, List.set_cons_succ, v3] at ha2
        subst ha2
        go_wp2
        go_roundw
        case rel =>
          obtain ⟨ho2, hK⟩ := HX.out
          simp only at ho2 hK
          refine ⟨k + 1, _, _, by go_num, by omega, rfl, ?_, HB.out.keep hK (fun b hb => HO.out.2 b hb)⟩
          rw [HS.out, encSp_snoc]
          exact ho2.weaken (fun y hy => by
            rcases hy with h | h
            · exact HO.out.2 y h
            · exact Nat.le_trans HB.out.2.2 h)
        case measure => simp [RowKit.intOf]; omega
    · have hlt' : ¬ (k : Int) < n := by omega
      obtain rfl : k = n := by omega
      have e : l.take k = l := by rw [← HN.out, List.take_length]
      rw [e] at HO
      go_wp2
      go_ret
      exact ⟨_, _, rfl, HO.out.weaken (fun b hb => by have hb : w.heap.size + 1 ≤ b := hb; omega), HB.out.2.1⟩

theorem dOne_pnt {m : Int} (h0 : 0 ≤ m) (h1 : m < allN) : dOne (pntI m) = printP (pntI m) := by
  refine dOne_print ?_
  rw [dNum_numB, num_pnt h0 h1]
  simpa using h0
set_option maxRecDepth 100000 in
set_option maxHeartbeats 1000000 in
theorem xprint_any (l : List Run) (v : Value) (w : World) (h : SlR w v (l.map dnR)) (hc : Canon l) :
    Calls Tryz.prog 49 #[.agg #[v]] w fun e w' => e = .returned (.string ⟨(91 :: printL (spansL l) ++ [93]).toArray⟩) ∧ Below w.heap.size w w' := by
  have hlen := canon_len hc (Int.le_refl _)
  have hl : l.length ≤ 1112192 := by unfold allN at hlen; omega
  have CS := Lib.hid (fun V (hV : Below w.heap.size w V) => xspans_any l v V (h.below hV) hc)
  have HC := Lib.hid hc
  have hvs : ∃ ao cap, v = .slice ao l.length cap := by obtain ⟨ao, cap, e, _⟩ := slr_at h; exact ⟨ao, cap, e⟩
  obtain ⟨va, vc, rfl⟩ := hvs
  clear h hc hlen
  obtain ⟨n, hn⟩ : ∃ n, l.length = n := ⟨_, rfl⟩
  have HN := Lib.hid hn
  rw [hn] at hl CS ⊢
  clear hn
  have H0 := Lib.hid (BoxW.start w (.slice va n vc))
  have c0 := H0.out.cell
  go_enter Tryz.func49, Tryz.ntmps49
  go_wp2_with fail
  refine (CS.out _ H0.out.2.1).mono ?_
  rintro e V ⟨ao, cp, rfl, ho, hb⟩
  have hlm : (spansL l).length = n := by unfold spansL; rw [List.length_map, HN.out]
  have hg := spg_of_own ho hlm.symm
  have HB := Lib.hid (H0.out.2.1.trans (hb.mono H0.out.2.1.size))
  obtain ⟨ag, cg, e2, hg⟩ := hg
  obtain ⟨rfl, rfl⟩ : ag = ao ∧ cg = cp := by injection e2 with e3 e4 e5; exact ⟨e3.symm, e5.symm⟩
  have HG := Lib.hid hg
  have HLM := Lib.hid hlm
  clear ho hb hg e2 c0 CS hlm
  go_wp2_with fail
  go_loopw [3, 5] (fun a x wr => ∃ k : Nat, x = .int .i64 k ∧ k ≤ n ∧ a = .string ⟨(91 :: printL ((spansL l).take k)).toArray⟩ ∧ Below V.heap.size V wr) (fun _ x _ => n - (RowKit.intOf x).toNat)
  case atStart => exact ⟨0, rfl, by omega, rfl, Below.refl _ _⟩
  case round =>
    obtain ⟨k, rfl, hk, rfl, hbr⟩ := hrel
    have HR := Lib.hid hbr
    clear hbr
    have htl := printL_len ((spansL l).take k)
    have htk : ((spansL l).take k).length ≤ n := by rw [List.length_take]; omega
    by_cases hlt : k < n
    · have hlt' : (k : Int) < n := by omega
      obtain ⟨x, hx⟩ : ∃ x, l[k]? = some x := ⟨_, List.getElem?_eq_getElem (by rw [HN.out]; exact hlt)⟩
      have hf := Canon.fit HC.out x (List.mem_of_getElem? hx)
      unfold allN at hf
      have hsx : (spansL l)[k]? = some (pntI x.1, pntI (x.2 - 1)) := by unfold spansL; rw [List.getElem?_map, hx]; rfl
      obtain ⟨g, off, rfl, r1, r2⟩ : ∃ g off, ag = some ⟨g, off, none⟩ ∧ wr.cell? ⟨g, off + k * 2, none⟩ = some (.int .i32 (pntI x.1)) ∧ wr.cell? ⟨g, off + k * 2 + 1, none⟩ = some (.int .i32 (pntI (x.2 - 1))) := by
        rcases HG.out with h | ⟨g, off, e, h⟩
        · rw [h] at hsx; cases hsx
        · have h3 := h k _ hsx
          exact ⟨g, off, e, (HR.out.cell (lt_of_cell h3.1)).trans h3.1, (HR.out.cell (lt_of_cell h3.2)).trans h3.2⟩
      have HP : Hid (printL ((spansL l).take (k + 1)) = printL ((spansL l).take k) ++ printS (pntI x.1, pntI (x.2 - 1))) := Lib.hid (by
        rw [List.take_add_one, hsx]; exact printL_snoc _ _)
      have e1 := dOne_pnt (m := x.1) (by omega) (by unfold allN; omega)
      have e2 := dOne_pnt (m := x.2 - 1) (by omega) (by unfold allN; omega)
      have b1 := pntI_bd (n := x.1) (by omega)
      have b2 := pntI_bd (n := x.2 - 1) (by omega)
      have C1 := Lib.hid (fun W => xOne_any (pntI x.1) W (by omega) (by omega))
      have C2 := Lib.hid (fun W => xOne_any (pntI (x.2 - 1)) W (by omega) (by omega))
      rw [e1] at C1
      rw [e2] at C2
      obtain ⟨x1, x2⟩ := x
      simp only at r1 r2 HP C1 C2 b1 b2
      clear hx hsx hf e1 e2
      generalize pntI x1 = p1 at *
      generalize pntI (x2 - 1) = p2 at *
      have l1 := printP_len p1
      have l2 := printP_len p2
      obtain ⟨T, hT⟩ : ∃ T : ByteArray, ⟨(91 :: printL ((spansL l).take k)).toArray⟩ = T := ⟨_, rfl⟩
      obtain ⟨D, hD⟩ : ∃ D : ByteArray, ⟨(printP p1).toArray⟩ = D := ⟨_, rfl⟩
      obtain ⟨E, hE⟩ : ∃ E : ByteArray, ⟨(printP p2).toArray⟩ = E := ⟨_, rfl⟩
      have sT : T.size ≤ 30029185 := by rw [← hT]; show (91 :: printL _).toArray.size ≤ _; simp; omega
      have sD : D.size ≤ 13 := by rw [← hD]; show (printP p1).toArray.size ≤ _; simp; omega
      have sE : E.size ≤ 13 := by rw [← hE]; show (printP p2).toArray.size ≤ _; simp; omega
      have sTD : (T ++ D).size ≤ 30029198 := by rw [ByteArray.size_append]; omega
      have sTD2 : (T ++ D ++ ⟨#[45]⟩).size ≤ 30029199 := by rw [ByteArray.size_append]; show (T ++ D).size + 1 ≤ _; omega
      have HX1 : Hid (p2 = p1 → T ++ D = ⟨(91 :: printL ((spansL l).take (k + 1))).toArray⟩) := Lib.hid (fun hpp => by
        rw [HP.out, ← hT, ← hD, bytes_add]
        unfold printS
        rw [if_pos hpp, List.append_nil]; rfl)
      have HX2 : Hid (p2 ≠ p1 → T ++ D ++ ⟨#[45]⟩ ++ E = ⟨(91 :: printL ((spansL l).take (k + 1))).toArray⟩) := Lib.hid (fun hpp => by
        rw [HP.out, ← hT, ← hD, ← hE, bytes_add]
        have h45 : (⟨#[45]⟩ : ByteArray) = ⟨[45].toArray⟩ := rfl
        rw [h45, bytes_add, bytes_add]
        unfold printS
        rw [if_neg hpp]
        simp)
      rw [hD] at C1
      rw [hE] at C2
      rw [hT]
      clear htl htk l1 l2 hT hD hE b1 b2
      by_cases hpp : p2 = p1
      · subst hpp
        have hpb : (p2 != p2) = false := by simp
        have HXX := Lib.hid (HX1.out rfl)
        clear HX1 HX2
        go_wp2_with fail
        refine (C1.out _).mono ?_
        rintro e W ⟨rfl, hb1⟩
        have r1' := (hb1.cell (lt_of_cell r1)).trans r1
        have r2' := (hb1.cell (lt_of_cell r2)).trans r2
        have HB1 := Lib.hid (HR.out.trans (hb1.mono HR.out.size))
        clear hb1 r1 r2
        go_wp2_with fail
        go_quiet (fail)
        go_wp2
        go_roundw
        case rel => exact ⟨k + 1, by go_num, by omega, by rw [HXX.out], below_drewN HB1.out _⟩
        case measure => simp [RowKit.intOf]; omega
      · have hpb : (p2 != p1) = true := by simpa using hpp
        have HXX := Lib.hid (HX2.out hpp)
        clear HX1 HX2
        go_wp2_with fail
        refine (C1.out _).mono ?_
        rintro e W ⟨rfl, hb1⟩
        have r1' := (hb1.cell (lt_of_cell r1)).trans r1
        have r2' := (hb1.cell (lt_of_cell r2)).trans r2
        have HB1 := Lib.hid (HR.out.trans (hb1.mono HR.out.size))
        clear hb1 r1 r2 hpp
        go_wp2_with fail
        go_quiet (fail)
        go_wp2_with fail
        refine (C2.out _).mono ?_
        rintro e W2 ⟨rfl, hb2⟩
        have HB2 := Lib.hid ((below_drewN HB1.out _).trans (hb2.mono (below_drewN HB1.out _).size))
        clear hb2
        go_wp2_with fail
        go_roundw
        case rel => exact ⟨k + 1, by go_num, by omega, by rw [HXX.out], HB2.out⟩
        case measure => simp [RowKit.intOf]; omega
    · have hlt' : ¬ (k : Int) < n := by omega
      obtain rfl : k = n := by omega
      have e : (spansL l).take k = spansL l := by rw [← HLM.out, List.take_length]
      rw [e] at htl ⊢
      have HX : Hid ((⟨(91 :: printL (spansL l)).toArray⟩ : ByteArray) ++ ⟨#[93]⟩ = ⟨(91 :: printL (spansL l) ++ [93]).toArray⟩) := Lib.hid (bytes_add _ [93])
      have hlm := HLM.out
      obtain ⟨T, hT⟩ : ∃ T : ByteArray, ⟨(91 :: printL (spansL l)).toArray⟩ = T := ⟨_, rfl⟩
      have sT : T.size ≤ 30029185 := by rw [← hT]; show (91 :: printL _).toArray.size ≤ _; simp; omega
      rw [hT] at HX ⊢
      clear hT htl htk hlm
      go_wp2
      go_ret
      exact ⟨by first | rfl | (rw [HX.out]; rfl), HB.out.trans (HR.out.mono HB.out.size)⟩

abbrev ptsV (l : List Int) : List Value := l.map fun x => .int .i32 x
theorem append_pt {Y : Nat → Prop} {ao : Option Addr} {n cp : Nat} {l : List Int} {W : World} (hown : OwnS Y 21 1 (.slice ao n cp) n (ptsV l) W) (hY : ∀ y, W.heap.size ≤ y → Y y) (x : Int) (hn : n ≤ 2199023255552) :
    ∃ g cap w', (∀ ty, (Builtin.append_ #[23, 23] ty #[.slice ao n cp, .slice (some ⟨W.heap.size, 0, none⟩) 1 1]).run Tryz.prog (W.alloc (.cells #[.int .i32 x] 21)) = .ok (.slice (some ⟨g, 0, none⟩) (n + 1) cap) w') ∧
      OwnS Y 21 1 (.slice (some ⟨g, 0, none⟩) (n + 1) cap) (n + 1) (ptsV (l ++ [x])) w' ∧ W.heap.size < w'.heap.size ∧ Keep (fun b => (Value.slice ao n cp).ownBlock = some b) W w' := by
  obtain ⟨g, cap, w2, hrun, hown2, hk2, hg2, hz2⟩ := append_x (P := Tryz.prog) W 23 21 Tryz.underlying23 tinfo21 rfl (by omega) hown [.int .i32 x] rfl
    (by intro u hu; simp at hu; subst hu; rfl) (by unfold maxLen; omega) (by omega)
  have hge : Y g := by
    rcases hg2 with h | h
    · exact hown.2 g h
    · exact hY g (by omega)
  refine ⟨g, cap, w2, hrun, ?_, hz2, hk2⟩
  rw [show ptsV (l ++ [x]) = ptsV l ++ [.int .i32 x] by unfold ptsV; rw [List.map_append]; rfl]
  exact hown2.weaken (fun b h => by subst h; exact hge)
theorem take_pre {A B : List Int} {N : Nat} (h : A <+: B) (hA : N ≤ A.length) : B.take N = A.take N := by
  obtain ⟨t, rfl⟩ := h
  rw [List.take_append_of_le_length hA]
set_option maxRecDepth 100000 in
set_option maxHeartbeats 1000000 in
theorem xfirst_any (l : List Run) (v : Value) (N : Nat) (w : World) (h : SlR w v (l.map dnR)) (hc : Canon l) (hN9 : N ≤ 2199023255552) :
    Calls Tryz.prog 53 #[.agg #[v], .int .i64 (N : Nat)] w fun e w' => ∃ ao m cp, e = .returned (.slice ao m cp) ∧ m = ((ptsL l).take N).length ∧ OwnS (fun b => w.heap.size ≤ b) 21 1 (.slice ao m cp) m (ptsV ((ptsL l).take N)) w' ∧ Below w.heap.size w w' := by
  obtain ⟨ao, cap, rfl, hrow⟩ := slr_at h
  have hlen := canon_len hc (Int.le_refl _)
  have hl : l.length ≤ 1112192 := by unfold allN at hlen; omega
  have HR := Lib.hid hrow
  have HC := Lib.hid hc
  clear h hrow hc hlen
  obtain ⟨n, hn⟩ : ∃ n, l.length = n := ⟨_, rfl⟩
  have HN := Lib.hid hn
  rw [hn] at hl ⊢
  clear hn
  go_enter Tryz.func53, Tryz.ntmps53
  go_wp2
  go_loopw [5, 6] (fun a x wr => ∃ (k m : Nat) (a2 : Option Addr) (c2 : Nat), x = .int .i64 k ∧ k ≤ n ∧ a = .slice a2 m c2 ∧ m = ((ptsL (l.take k)).take N).length ∧ OwnS (fun b => w.heap.size + 1 ≤ b) 21 1 (.slice a2 m c2) m (ptsV ((ptsL (l.take k)).take N)) wr ∧ BoxW w (.slice ao n cap) wr) (fun _ x _ => n - (RowKit.intOf x).toNat)
  case atStart => exact ⟨0, 0, none, 0, rfl, by omega, rfl, by simp [ptsL], by simpa [ptsL, ptsV] using own_nil _ _ _ _, BoxW.start _ _⟩
  case round =>
    obtain ⟨k, m, a2, c2, rfl, hk, rfl, hm, hown, hb⟩ := hrel
    have c0 := hb.cell
    by_cases hlt : k < n
    · have hlt' : (k : Int) < n := by omega
      obtain ⟨x, hx⟩ : ∃ x, l[k]? = some x := ⟨_, List.getElem?_eq_getElem (by rw [HN.out]; exact hlt)⟩
      obtain ⟨g, rfl, r1, r2⟩ := HR.out wr hb.2.1 k x hx
      have hf := Canon.fit HC.out x (List.mem_of_getElem? hx)
      unfold allN at hf
      have HTK := Lib.hid (ptsL_take l k x hx)
      have HRT := Lib.hid (fun (i : Nat) (h : (i : Int) < x.2 - x.1) => ptsR_take x i h)
      have HRL := Lib.hid (ptsR_len x)
      have HCX : Hid (∀ V, BoxW w (.slice (some ⟨g, 0, none⟩) n cap) V → V.cell? ⟨g, k * 2 + 1, none⟩ = some (.int .i64 (x.2 - 1))) := Lib.hid fun V hV => by
        obtain ⟨g', e, _, h2⟩ := HR.out V hV.2.1 k x hx
        injection e with e
        injection e with e
        rw [e]; exact h2
      obtain ⟨x1, x2⟩ := x
      simp only at hf r1 r2 HRT HRL HCX
      have HI := Lib.hid (And.intro hm (And.intro hown hb))
      clear hm hown hb hx r2
      go_wp2
      obtain ⟨V0, hV0⟩ : ∃ V : World, V = wr := ⟨_, rfl⟩
      subst hV0
      go_loopw [5, 7] (fun a x wr => ∃ (j m : Nat) (a2 : Option Addr) (c2 : Nat), x = .int .i64 (x1 + (j : Nat)) ∧ (j : Int) ≤ x2 - x1 ∧ a = .slice a2 m c2 ∧ m = ((ptsL (l.take k) ++ (ptsR (x1, x2)).take j).take N).length ∧ OwnS (fun b => w.heap.size + 1 ≤ b) 21 1 (.slice a2 m c2) m (ptsV ((ptsL (l.take k) ++ (ptsR (x1, x2)).take j).take N)) wr ∧ BoxW w (.slice (some ⟨g, 0, none⟩) n cap) wr) (fun _ x _ => (x2 - RowKit.intOf x).toNat)
      case atStart => exact ⟨0, m, a2, c2, by simp, by omega, rfl, by simpa using HI.out.1, by simpa using HI.out.2.1, HI.out.2.2⟩
      case round =>
        obtain ⟨j, m, a2, c2, rfl, hj, rfl, hm, hown, hb⟩ := hrel
        clear HI c0 r1
        have c0 := hb.cell
        have c1 := HCX.out _ hb
        obtain ⟨u, hu⟩ : ∃ u, x2 - 1 = u := ⟨_, rfl⟩
        rw [hu] at c1
        have hmN : m ≤ N := by rw [hm, List.length_take]; omega
        have HI := Lib.hid (And.intro hm (And.intro hown hb))
        clear hm hown hb
        by_cases hj2 : (j : Int) < x2 - x1
        · have hc1 : x1 + (j : Int) ≤ u := by omega
          by_cases hmn : m < N
          · have hmn' : (m : Int) < N := by omega
            obtain ⟨A, hA⟩ : ∃ A, ptsL (l.take k) ++ (ptsR (x1, x2)).take j = A := ⟨_, rfl⟩
            have hAN : A.length < N := by
              have := HI.out.1
              rw [hA, List.length_take] at this
              omega
            have hAt : A.take N = A := List.take_of_length_le (by omega)
            have hA2 : ptsL (l.take k) ++ (ptsR (x1, x2)).take (j + 1) = A ++ [pntI (x1 + (j : Nat))] := by
              rw [HRT.out j hj2, ← List.append_assoc, hA]
            have hAt2 : (A ++ [pntI (x1 + (j : Nat))]).take N = A ++ [pntI (x1 + (j : Nat))] := List.take_of_length_le (by simp; omega)
            have HA : Hid ((ptsL (l.take k) ++ (ptsR (x1, x2)).take (j + 1)).take N = A ++ [pntI (x1 + (j : Nat))]) := Lib.hid (by rw [hA2, hAt2])
            have hI := HI.out
            rw [hA, hAt] at hI
            have C1 := Lib.hid (fun W => xPoint_any (x1 + (j : Int)) W (by omega) (by omega))
            generalize pntI (x1 + (j : Nat)) = p1 at *
            obtain ⟨g2, cap2, w2, hrun2, hown2, hz2, hk2⟩ := append_pt hI.2.1 (fun y hy => Nat.le_trans hI.2.2.2.2 hy) p1 (by omega)
            have HRun2 := Lib.hid hrun2
            have HO2 := Lib.hid hown2
            have HB2 := Lib.hid (hI.2.2.keep hk2 (fun b hb => hI.2.1.2 b hb))
            have HML : Hid (m + 1 = (A ++ [p1]).length) := Lib.hid (by rw [List.length_append, ← hI.1]; rfl)
            have hw1 : IntKind.i64.wrap (x1 + (j : Int) + 1) = x1 + (j : Int) + 1 := IntWalk.i64_in _ (by omega)
            clear hrun2 hown2 hz2 hk2 hI hA hAN hAt hA2 hAt2 hu
            go_wp2_with fail
            refine (C1.out _).mono ?_
            rintro e W ⟨rfl, rfl⟩
            go_wp2_with (at_builtin; refine wpList_append_eq rfl rfl rfl rfl HRun2.out ?_)
            go_roundw
            case rel => exact ⟨j + 1, m + 1, _, _, by rw [Int.natCast_add, Int.natCast_one, ← Int.add_assoc], by omega, rfl, by rw [HA.out]; exact HML.out, by rw [HA.out]; exact HO2.out, HB2.out⟩
            case measure => simp [RowKit.intOf]; omega
          · have hmn' : ¬ (m : Int) < N := by omega
            have HE : Hid ((ptsL (l.take (k + 1))).take N = (ptsL (l.take k) ++ (ptsR (x1, x2)).take j).take N) := Lib.hid (by
              refine take_pre ?_ ?_
              · rw [HTK.out]
                exact (List.prefix_append_right_inj _).2 (List.take_prefix _ _)
              · have := HI.out.1
                rw [List.length_take] at this
                omega)
            go_wp2
            go_roundw
            case rel => exact ⟨k + 1, m, _, _, by go_num, by omega, rfl, by rw [HE.out]; exact HI.out.1, by rw [HE.out]; exact HI.out.2.1, HI.out.2.2⟩
            case measure => simp [RowKit.intOf]; omega
        · have hc1 : ¬ x1 + (j : Int) ≤ u := by omega
          have HE : Hid (ptsL (l.take (k + 1)) = ptsL (l.take k) ++ (ptsR (x1, x2)).take j) := Lib.hid (by
            rw [HTK.out, List.take_of_length_le (l := ptsR (x1, x2)) (by rw [HRL.out]; omega)])
          go_wp2
          go_roundw
          case rel => exact ⟨k + 1, m, _, _, by go_num, by omega, rfl, by rw [HE.out]; exact HI.out.1, by rw [HE.out]; exact HI.out.2.1, HI.out.2.2⟩
          case measure => simp [RowKit.intOf]; omega
    · have hlt' : ¬ (k : Int) < n := by omega
      obtain rfl : k = n := by omega
      have e : l.take k = l := by rw [← HN.out, List.take_length]
      rw [e] at hm hown
      have HI := Lib.hid (And.intro hm (And.intro hown hb))
      clear hm hown hb
      go_wp2
      go_ret
      exact ⟨_, _, _, rfl, by simpa using HI.out.1, by simpa [ptsV, List.map_take] using HI.out.2.1.weaken (Z := fun b => w.heap.size ≤ b) (fun b hb => by have hb : w.heap.size + 1 ≤ b := hb; omega), HI.out.2.2.2.1⟩
end Go.Proofs.YtjbkpcdpdifpnaaGreatDoor
