/- props: class and kind. WRITTEN by wip/tools/gen_ji.py. -/
import Derived.Test.YtcfhblbmpbfoaaaGreatDoorGv7
import Derived.Test.YtcfhblbmpbfoaaaGreatDoorGv6
import Derived.Test.YtcfhblbmpbfoaaaGreatDoorGv3
import Derived.Deep.AppendLies
namespace Go.Proofs.YtcfhblbmpbfoaaaGreatDoor
open Go Go.RowKit Go.Kt Go.Kt.Rg Go.Maps

theorem tinfoRow : (Tryz.prog.info? 160).map (fun i => (i.zero, i.size, i.bytes)) = some (some (.agg #[.int .i32 0, .int .i32 0, .int .i64 0]), 3, 16) := by kernel_rfl
def kndZ (l : List UInt8) : Nat × Int := ((kndP l).1, ((kndP l).2 : Nat))
theorem own_slc {Y : Nat → Prop} {e : TypeId} {size n : Nat} {v : Value} {xs : List Value} {W : World} (h : OwnS Y e size v n xs W) : ∃ ao cap, v = .slice ao n cap := by
  rcases h.1.2 with ⟨rfl, rfl⟩ | ⟨g, cap, cur, rfl, _⟩
  · exact ⟨_, _, rfl⟩
  · exact ⟨_, _, rfl⟩

set_option maxRecDepth 100000 in
set_option maxHeartbeats 4000000 in
theorem pclassR {B0 : Nat} {ρ : Nat → Nat} {R : RdB} {line n m : Nat} {S : RdS} {cv kv : Value} (w : World) (hR : RdW B0 ρ R line n m S cv kv w) (ws : List (List UInt8)) (sv : Value) (hS : StrS sv ws w) (hz : ∀ x ∈ ws, x ≠ [] ∧ x.length ≤ 1048576) (h2 : 2 ≤ ws.length) (hE : PEnv w) (hm : S.cs.length ≤ 65536) :
    Calls Tryz.prog 92 #[.pointer (some ⟨R.g, 0, none⟩), sv] w fun e w' => RdOut B0 ρ R line n m (rowP clsP ws).1 { S with cs := S.cs ++ [(rowP clsP ws).2] } w e w' := by
  have hx1 : ws.getD 1 [] ∈ ws := by rw [List.getD_eq_getElem?_getD, List.getElem?_eq_getElem (by omega)]; exact List.getElem_mem _
  have CR := Lib.hid (prow 137 (fun _ _ => rfl) clsP ws sv w hS (fun x hx => (hz x hx).2) h2 hE (fun W hW => (pclass ⟨(ws.getD 1 []).toArray⟩ W (by rw [bsize]; have := (hz _ hx1).2; omega) (by simpa using (hz _ hx1).1) (hE.v.below hW)).mono (fun e w' h => by simpa using h)))
  obtain ⟨⟨no, lo, hi, vv⟩, hP⟩ : ∃ z, rowP clsP ws = z := ⟨_, rfl⟩
  rw [hP] at CR ⊢
  clear hP hS hz h2 hx1
  have HR := Lib.hid hR
  have HE := Lib.hid hE
  clear hR hE
  go_enter Tryz.func92, Tryz.ntmps92
  go_wp2_with fail
  refine CR.out.mono ?_
  rintro e w1 ⟨rfl, hb1⟩
  obtain ⟨xb, hxb⟩ : ∃ xb, w1.heap.size = xb := ⟨_, rfl⟩
  obtain ⟨W1, hW1⟩ : ∃ W1, w1.alloc (.cells #[.int .i32 lo, .int .i32 hi, .int .i64 vv] 160) = W1 := ⟨_, rfl⟩
  have hb2 : Below w.heap.size w W1 := by rw [← hW1]; exact hb1.alloc hb1.size _
  have HRD : Hid (RdW B0 ρ R line n m S cv kv W1) := Lib.hid (HR.out.below hb2)
  have HB := Lib.hid hb2
  have HXB : Hid (W1.heap[xb]? = some (.cells #[.int .i32 lo, .int .i32 hi, .int .i64 vv] 160 (0, 0)) ∧ xb ≠ R.g ∧ (cv : Value).ownBlock ≠ some xb) := Lib.hid (by
    have h1 := HR.out.gl
    have h2 := hb1.size
    refine ⟨by rw [← hW1, ← hxb]; exact heap_alloc_new _ _, by omega, fun h => ?_⟩
    have := (HR.out.c.1.lt _ h).2
    omega)
  have hown : OwnS (fun b => ρ b = 2) 160 3 cv S.cs.length (rwE S.cs) W1 := HRD.out.c
  by_cases h0 : no = 0
  · subst h0
    have HQ : Hid (S.cs.length = S.cs.length) := Lib.hid rfl
    obtain ⟨q, hq⟩ : ∃ q, S.cs.length = q := ⟨_, rfl⟩
    obtain ⟨xs, hxs⟩ : ∃ xs, S.cs = xs := ⟨_, rfl⟩
    have HXS := Lib.hid hxs
    have HQL := Lib.hid hq
    rw [hq] at hm
    rw [hq, hxs] at hown
    clear hq hxs HQ
    go_wp2_with (first | rw [hxb, hW1] | fail)
    have hkg : (cv : Value).ownBlock ≠ some R.g := fun h => by have h9 := hown.2 _ h; have h8 := HRD.out.g; simp only at h9; omega
    have hkv : ∀ b, (cv : Value).ownBlock = some b → b < W1.heap.size := fun b h => (hown.1.lt b h).2
    have hgl : R.g < W1.heap.size := HRD.out.gl
    have hxg : xb ≠ R.g ∧ (cv : Value).ownBlock ≠ some xb := HXB.out.2
    have hcg : W1.heap[R.g]? = some (.cells (cellsR R line cv kv) 92 (0, 0)) := HRD.out.cell
    have hfa : ∀ X : World, (Instr.fieldAt 92 (.pointer (some ⟨R.g, 0, none⟩)) 2).run Tryz.prog X = .ok (.pointer (some ⟨R.g, 2, none⟩)) X := fun X => by go_simp
    have hls : ∀ X : World, X.heap[R.g]? = some (.cells (cellsR R line cv kv) 92 (0, 0)) → (Instr.loadAt 88 (.pointer (some ⟨R.g, 2, none⟩))).run Tryz.prog X = .ok (cv) X := fun X h => by
      have q : X.cell? ⟨R.g, 2, none⟩ = some (cv) := by rw [Lib.cell_of_heap h]; rfl
      obtain ⟨ao4, cp4, hk4⟩ := own_slc hown
      rw [hk4] at q ⊢
      go_simp
    have hlx : ∀ X, Keep (fun b => b = R.g ∨ (cv : Value).ownBlock = some b) W1 X → (Instr.loadAt 160 (.pointer (some ⟨xb, 0, none⟩))).run Tryz.prog X = .ok (.agg #[.int .i32 lo, .int .i32 hi, .int .i64 vv]) X := fun X hX => by
      have q := hX.heap HXB.out.1 (fun e => by rcases e with e | e; exact hxg.1 e; exact hxg.2 e)
      have q0 : X.cell? ⟨xb, 0, none⟩ = some (.int .i32 lo) := by rw [Lib.cell_of_heap q]; rfl
      have q1 : X.cell? ⟨xb, 1, none⟩ = some (.int .i32 hi) := by rw [Lib.cell_of_heap q]; rfl
      have q2 : X.cell? ⟨xb, 2, none⟩ = some (.int .i64 vv) := by rw [Lib.cell_of_heap q]; rfl
      go_simp
    have BS : ∀ W : World, (Instr.buildSlice 88 1 #[(0, .agg #[.int .i32 lo, .int .i32 hi, .int .i64 vv])]).run Tryz.prog W = .ok (.slice (some ⟨W.heap.size, 0, none⟩) 1 1) (W.alloc (.cells #[.int .i32 lo, .int .i32 hi, .int .i64 vv] 160)) := fun W => by go_simp
    have ST : ∀ (W : World) (ao9 : Option Addr) (m2 cap : Nat), W.heap[R.g]? = some (.cells (cellsR R line cv kv) 92 (0, 0)) → (Instr.storeAt 88 (.pointer (some ⟨R.g, 2, none⟩)) (.slice ao9 m2 cap)).run Tryz.prog W = .ok () (W.setCell ⟨R.g, 2, none⟩ (.slice ao9 m2 cap)) := fun W ao9 m2 cap h => by
      have q : W.cell? ⟨R.g, 2, none⟩ = some (cv) := by rw [Lib.cell_of_heap h]; rfl
      have q2 : W.frozen? ⟨R.g, 2, none⟩ = false := Lib.frozen_of_heap h _
      go_simp
    have S1 : ∀ {W : World} {u : Value}, W.heap[R.g]? = some (.cells (cellsR R line cv kv) 92 (0, 0)) → (W.setCell ⟨R.g, 2, none⟩ u).heap[R.g]? = some (.cells (cellsR R line u kv) 92 (0, 0)) := fun {W} {u} h => by
      have := heap_setCell_same W R.g 2 _ _ u h
      simpa [cellsR] using this
    obtain ⟨ti, hti, hz, hs1, hbt⟩ := info_parts tinfoRow
    have HI2 := And.intro hti (And.intro hz (And.intro hs1 hbt))
    have HOC : ∀ z ∈ ([.int .i32 lo, .int .i32 hi, .int .i64 vv] : List Value), z.oneCell' = true := by intro z hz; simp at hz; rcases hz with rfl | rfl | rfl <;> rfl
    have HM1 : q + 1 ≤ maxLen := by unfold maxLen; omega
    have HM2 : (q + 1) * 16 ≤ 140737488355328 := by omega
    obtain ⟨FF, hFF⟩ : ∃ FF : FldR, FF = ⟨R.g, W1, cv, 160, 3, q, q + 1, rwE xs, rwE xs ++ [.int .i32 lo, .int .i32 hi, .int .i64 vv], 92, fun u => cellsR R line u kv, #[.int .i32 lo, .int .i32 hi, .int .i64 vv], 7, 10, 6, fun z => match z with | 0 => some (.pointer (some ⟨R.g, 0, none⟩)) | 1 => some (.pointer (some ⟨R.g, 0, none⟩)) | 2 => some (.pointer (some ⟨R.g, 0, none⟩)) | 3 => some (.pointer (some ⟨R.g, 2, none⟩)) | 4 => some (cv) | 5 => some (.agg #[.int .i32 lo, .int .i32 hi, .int .i64 vv]) | 8 => some (.pointer (some ⟨R.g, 0, none⟩)) | 9 => some (.pointer (some ⟨R.g, 2, none⟩)) | _ => none⟩ := ⟨_, rfl⟩
    have H0 : FldR.S FF (fun _ => false) W1.drew := by rw [hFF]; exact ⟨fun _ => hcg, fun _ => OwnS.weaken (show OwnS (fun b => ρ b = 2) _ _ _ _ _ W1.drew from hown) (fun b h => by intro e; subst e; have h9 : ρ R.g = 2 := h; have h8 := HRD.out.g; omega), (Keep.refl _ W1).drew⟩
    refine wp_region_done (FldR.S FF) (FldR.P FF) (by kernel_rfl) (by kernel_rfl) (by kernel_rfl) H0 ?hs ?hd
    case hs =>
      rw [hFF]
      refine DSteps.cons ?_ (DSteps.cons ?_ (DSteps.cons ?_ (DSteps.cons ?_ (DSteps.cons ?_ (DSteps.cons ?_ (DSteps.cons ?_ (DSteps.cons ?_ (DSteps.cons ?_ (DSteps.cons ?_ (DSteps.cons ?_ (DSteps.nil)))))))))))
      · intro D2 a X hDi hDa _ hX hL hd
        refine ⟨rfl, ?_⟩
        have e0 : a.eval (.tmp 0) = .pointer (some ⟨R.g, 0, none⟩) := hL.far 0 (by kernel_rfl)
        exact wp_value (exec_move rfl e0) ⟨_, rfl, hX.more, fun _ _ _ h => h, FldR.P.mk rfl ⟨by simp, by simp, by simp⟩⟩
      · intro D2 a X hDi hDa _ hX hL hd
        refine ⟨rfl, ?_⟩
        have e0 : a.eval (.tmp 0) = .pointer (some ⟨R.g, 0, none⟩) := hL.far 0 (by kernel_rfl)
        exact wp_value (exec_move rfl e0) ⟨_, rfl, hX.more, fun _ _ _ h => h, FldR.P.mk rfl ⟨by simp, by simp, by simp⟩⟩
      · intro D2 a X hDi hDa _ hX hL hd
        refine ⟨rfl, ?_⟩
        have e0 : a.eval (.tmp 15) = .pointer (some ⟨R.g, 0, none⟩) := (hd 1 15 (by kernel_rfl) (by kernel_rfl)).is rfl
        exact wp_value (exec_nilCheck rfl e0) ⟨_, rfl, hX.more, fun _ _ _ h => h, FldR.P.mk rfl ⟨by simp, by simp, by simp⟩⟩
      · intro D2 a X hDi hDa _ hX hL hd
        refine ⟨rfl, ?_⟩
        have e0 : a.eval (.tmp 16) = .pointer (some ⟨R.g, 0, none⟩) := (hd 2 16 (by kernel_rfl) (by kernel_rfl)).is rfl
        exact wp_value (exec_fieldAddr rfl e0 (hfa X)) ⟨_, rfl, hX.more, fun _ _ _ h => h, FldR.P.mk rfl ⟨by simp, by simp, by simp⟩⟩
      · intro D2 a X hDi hDa _ hX hL hd
        refine ⟨rfl, ?_⟩
        have e0 : a.eval (.tmp 17) = .pointer (some ⟨R.g, 2, none⟩) := (hd 3 17 (by kernel_rfl) (by kernel_rfl)).is rfl
        exact wp_value (exec_load rfl e0 (hls X (hX.1 (hDa 10 (by kernel_rfl))))) ⟨_, rfl, hX.more, fun _ _ _ h => h, FldR.P.mk rfl ⟨by simp, by simp, by simp⟩⟩
      · intro D2 a X hDi hDa _ hX hL hd
        refine ⟨rfl, ?_⟩
        have e0 : a.eval (.tmp 5) = .pointer (some ⟨xb, 0, none⟩) := hL.far 5 (by kernel_rfl)
        exact wp_value (exec_load rfl e0 (hlx X hX.2.2)) ⟨_, rfl, hX.more, fun _ _ _ h => h, FldR.P.mk rfl ⟨by simp, by simp, by simp⟩⟩
      · intro D2 a X hDi hDa _ hX hL hd
        refine ⟨rfl, ?_⟩
        have e0 : a.eval (.tmp 19) = .agg #[.int .i32 lo, .int .i32 hi, .int .i64 vv] := (hd 5 19 (by kernel_rfl) (by kernel_rfl)).is rfl
        refine wp_value (exec_buildSlice rfl (ps := #[(0, .agg #[.int .i32 lo, .int .i32 hi, .int .i64 vv])]) (by simp only [List.map_toArray, List.map_cons, List.map_nil, e0] <;> rfl) (BS X)) ⟨_, rfl, (hX.below ((Below.refl _ X).alloc (Nat.le_refl _) _)).more, fun _ _ _ h => h.below ((Below.refl _ X).alloc (Nat.le_refl _) _), FldR.P.bs rfl ⟨by simp, by simp⟩ ⟨X.heap.size, rfl, alloc_at rfl, hX.2.2.size⟩⟩
      · intro D2 a X hDi hDa _ hX hL hd
        refine ⟨rfl, ?_⟩
        have e0 : a.eval (.tmp 18) = cv := (hd 4 18 (by kernel_rfl) (by kernel_rfl)).is rfl
        obtain ⟨b2, hb1, hb2, hb3⟩ := (hd 6 20 (by kernel_rfl) (by kernel_rfl)).2.1 rfl
        have h28 := hDa 10 (by kernel_rfl)
        have hown := hX.2.1 hDi
        refine wp_append_lies X (.tmp 18) (.tmp 20) 88 rfl 0 160 ti (.agg #[.int .i32 0, .int .i32 0, .int .i64 0]) 3 16 Tryz.underlying88 HI2.1 HI2.2.1 HI2.2.2.1 HI2.2.2.2 rfl (by decide) (cv) q (rwE xs) e0 hown.1 ⟨b2, 0, none⟩ 1 1 [.int .i32 lo, .int .i32 hi, .int .i64 vv] hb1 rfl (World.news_of_block hb2) HOC (by decide) HM1 HM2 (Nat.zero_le _) _ rfl ?_
        intro g2 cap2 X2 hown2 hgrow hat hlt2
        exact ⟨_, rfl, hX.app hkg h28 (keep_grown hgrow), fun j u hj h => h.app hkv (keep_grown hgrow) (fun e => by subst e; rw [hDi] at hj; cases hj) (fun e => by subst e; rw [h28] at hj; cases hj), FldR.P.row rfl ⟨by simp, by simp⟩ (FldR.row_of (ln := q + 1) hX.2.2.size hgl hkg ⟨hown2, fun y hy => by
          have : g2 = y := by simpa [Value.ownBlock] using hy
          subst this
          rcases hat with h | h
          · exact .inl h
          · exact .inr (by omega)⟩ rfl)⟩
      · intro D2 a X hDi hDa _ hX hL hd
        refine ⟨rfl, ?_⟩
        have e0 : a.eval (.tmp 14) = .pointer (some ⟨R.g, 0, none⟩) := (hd 0 14 (by kernel_rfl) (by kernel_rfl)).is rfl
        exact wp_value (exec_nilCheck rfl e0) ⟨_, rfl, hX.more, fun _ _ _ h => h, FldR.P.mk rfl ⟨by simp, by simp, by simp⟩⟩
      · intro D2 a X hDi hDa _ hX hL hd
        refine ⟨rfl, ?_⟩
        have e0 : a.eval (.tmp 22) = .pointer (some ⟨R.g, 0, none⟩) := (hd 8 22 (by kernel_rfl) (by kernel_rfl)).is rfl
        exact wp_value (exec_fieldAddr rfl e0 (hfa X)) ⟨_, rfl, hX.more, fun _ _ _ h => h, FldR.P.mk rfl ⟨by simp, by simp, by simp⟩⟩
      · intro D2 a X hDi hDa _ hX hL hd
        refine ⟨rfl, ?_⟩
        have e0 : a.eval (.tmp 23) = .pointer (some ⟨R.g, 2, none⟩) := (hd 9 23 (by kernel_rfl) (by kernel_rfl)).is rfl
        obtain ⟨ao3, ln, cp3, he, ho⟩ := (hd 7 21 (by kernel_rfl) (by kernel_rfl)).2.2.1 rfl
        have hc := hX.1 hDi
        exact wp_skipped (exec_store rfl e0 he (ST X _ _ _ hc)) ⟨undef, rfl, hX.store, fun j u hj h => h.store hgl (fun e => by subst e; rw [hDi] at hj; cases hj), FldR.P.last rfl ⟨by simp, by simp⟩ ⟨_, FldR.Row.store ⟨ao3, ln, cp3, rfl, by rw [← he]; exact ho⟩, S1 hc⟩⟩
    case hd =>
      intro D2 a X hAll hX hL hP hE
      obtain ⟨_, hp⟩ := hE 10 (by decide)
      rw [hFF] at hp hX
      obtain ⟨u, ⟨ao2, ln, cp2, hu0, ho⟩, hu⟩ := hp.2.2.2 rfl
      simp only at ho hu
      have hK := hX.2.2
      obtain ⟨f, ha, hf⟩ := hL.out [14, 15, 16, 17, 18, 19, 20, 21, 22, 23] rfl
      have HF := Lib.hid (And.intro ho (And.intro hu hK))
      clear hf hAll hP hX hL hE hp ho hu hu0 hK S1 hfa hls hlx BS ST HI2 HOC HM1 HM2 H0 hFF hti hz hs1 hbt hown hkg hkv hxg hcg hgl
      simp only [List.foldl_cons, List.foldl_nil, List.setIfInBounds_toArray, List.set_cons_zero, List.set_cons_succ] at ha
      subst ha
      go_wp2
      go_ret
      obtain ⟨ho, hu, hK⟩ := HF.out
      refine ⟨rfl, ?_, ?_⟩
      · exact (Keep.of_all HB.out).trans (hK.weaken (fun b _ hb => by
          rcases hb with rfl | hb
          · have h := HRD.out.g
            constructor <;> omega
          · have h : ρ b = 2 := HRD.out.c.2 _ hb
            constructor <;> omega))
      · have e : rwE (xs ++ [(lo, hi, vv)]) = rwE xs ++ [.int .i32 lo, .int .i32 hi, .int .i64 vv] := rwE_snoc _ _
        have hl : q + 1 = (xs ++ [(lo, hi, vv)]).length := by rw [List.length_append, ← HXS.out, HQL.out]; rfl
        rw [← e, hl] at ho
        have hN := HRD.out.newc hK hu ho
        rw [HXS.out]
        exact ⟨_, _, _, _, hN, fun b hb => moreR_old b (Nat.lt_of_lt_of_le hb HB.out.size), fun _ => rfl⟩
  · have b1 : ((no : Int) == 0) = false := beq_eq_false_iff_ne.2 (by omega)
    clear hown
    go_wp2_with (rw [hxb, hW1])
    go_ret
    exact ⟨rfl, Keep.of_all HB.out, ρ, S, cv, kv, HRD.out, fun _ _ => rfl, fun e => absurd e h0⟩

set_option maxRecDepth 100000 in
set_option maxHeartbeats 4000000 in
theorem pkindR {B0 : Nat} {ρ : Nat → Nat} {R : RdB} {line n m : Nat} {S : RdS} {cv kv : Value} (w : World) (hR : RdW B0 ρ R line n m S cv kv w) (ws : List (List UInt8)) (sv : Value) (hS : StrS sv ws w) (hz : ∀ x ∈ ws, x ≠ [] ∧ x.length ≤ 1048576) (h2 : 2 ≤ ws.length) (hE : PEnv w) (hm : S.ks.length ≤ 65536) :
    Calls Tryz.prog 93 #[.pointer (some ⟨R.g, 0, none⟩), sv] w fun e w' => RdOut B0 ρ R line n m (rowP kndZ ws).1 { S with ks := S.ks ++ [(rowP kndZ ws).2] } w e w' := by
  have hx1 : ws.getD 1 [] ∈ ws := by rw [List.getD_eq_getElem?_getD, List.getElem?_eq_getElem (by omega)]; exact List.getElem_mem _
  have CR := Lib.hid (prow 138 (fun _ _ => rfl) kndZ ws sv w hS (fun x hx => (hz x hx).2) h2 hE (fun W hW => (pkind ⟨(ws.getD 1 []).toArray⟩ W (hE.k.below hW)).mono (fun e w' h => ⟨by simpa [kndZ] using h.1, by rw [h.2]; exact Below.refl _ _⟩)))
  obtain ⟨⟨no, lo, hi, vv⟩, hP⟩ : ∃ z, rowP kndZ ws = z := ⟨_, rfl⟩
  rw [hP] at CR ⊢
  clear hP hS hz h2 hx1
  have HR := Lib.hid hR
  have HE := Lib.hid hE
  clear hR hE
  go_enter Tryz.func93, Tryz.ntmps93
  go_wp2_with fail
  refine CR.out.mono ?_
  rintro e w1 ⟨rfl, hb1⟩
  obtain ⟨xb, hxb⟩ : ∃ xb, w1.heap.size = xb := ⟨_, rfl⟩
  obtain ⟨W1, hW1⟩ : ∃ W1, w1.alloc (.cells #[.int .i32 lo, .int .i32 hi, .int .i64 vv] 160) = W1 := ⟨_, rfl⟩
  have hb2 : Below w.heap.size w W1 := by rw [← hW1]; exact hb1.alloc hb1.size _
  have HRD : Hid (RdW B0 ρ R line n m S cv kv W1) := Lib.hid (HR.out.below hb2)
  have HB := Lib.hid hb2
  have HXB : Hid (W1.heap[xb]? = some (.cells #[.int .i32 lo, .int .i32 hi, .int .i64 vv] 160 (0, 0)) ∧ xb ≠ R.g ∧ (kv : Value).ownBlock ≠ some xb) := Lib.hid (by
    have h1 := HR.out.gl
    have h2 := hb1.size
    refine ⟨by rw [← hW1, ← hxb]; exact heap_alloc_new _ _, by omega, fun h => ?_⟩
    have := (HR.out.k.1.lt _ h).2
    omega)
  have hown : OwnS (fun b => ρ b = 3) 160 3 kv S.ks.length (rwE S.ks) W1 := HRD.out.k
  by_cases h0 : no = 0
  · subst h0
    have HQ : Hid (S.ks.length = S.ks.length) := Lib.hid rfl
    obtain ⟨q, hq⟩ : ∃ q, S.ks.length = q := ⟨_, rfl⟩
    obtain ⟨xs, hxs⟩ : ∃ xs, S.ks = xs := ⟨_, rfl⟩
    have HXS := Lib.hid hxs
    have HQL := Lib.hid hq
    rw [hq] at hm
    rw [hq, hxs] at hown
    clear hq hxs HQ
    go_wp2_with (first | rw [hxb, hW1] | fail)
    have hkg : (kv : Value).ownBlock ≠ some R.g := fun h => by have h9 := hown.2 _ h; have h8 := HRD.out.g; simp only at h9; omega
    have hkv : ∀ b, (kv : Value).ownBlock = some b → b < W1.heap.size := fun b h => (hown.1.lt b h).2
    have hgl : R.g < W1.heap.size := HRD.out.gl
    have hxg : xb ≠ R.g ∧ (kv : Value).ownBlock ≠ some xb := HXB.out.2
    have hcg : W1.heap[R.g]? = some (.cells (cellsR R line cv kv) 92 (0, 0)) := HRD.out.cell
    have hfa : ∀ X : World, (Instr.fieldAt 92 (.pointer (some ⟨R.g, 0, none⟩)) 3).run Tryz.prog X = .ok (.pointer (some ⟨R.g, 3, none⟩)) X := fun X => by go_simp
    have hls : ∀ X : World, X.heap[R.g]? = some (.cells (cellsR R line cv kv) 92 (0, 0)) → (Instr.loadAt 88 (.pointer (some ⟨R.g, 3, none⟩))).run Tryz.prog X = .ok (kv) X := fun X h => by
      have q : X.cell? ⟨R.g, 3, none⟩ = some (kv) := by rw [Lib.cell_of_heap h]; rfl
      obtain ⟨ao4, cp4, hk4⟩ := own_slc hown
      rw [hk4] at q ⊢
      go_simp
    have hlx : ∀ X, Keep (fun b => b = R.g ∨ (kv : Value).ownBlock = some b) W1 X → (Instr.loadAt 160 (.pointer (some ⟨xb, 0, none⟩))).run Tryz.prog X = .ok (.agg #[.int .i32 lo, .int .i32 hi, .int .i64 vv]) X := fun X hX => by
      have q := hX.heap HXB.out.1 (fun e => by rcases e with e | e; exact hxg.1 e; exact hxg.2 e)
      have q0 : X.cell? ⟨xb, 0, none⟩ = some (.int .i32 lo) := by rw [Lib.cell_of_heap q]; rfl
      have q1 : X.cell? ⟨xb, 1, none⟩ = some (.int .i32 hi) := by rw [Lib.cell_of_heap q]; rfl
      have q2 : X.cell? ⟨xb, 2, none⟩ = some (.int .i64 vv) := by rw [Lib.cell_of_heap q]; rfl
      go_simp
    have BS : ∀ W : World, (Instr.buildSlice 88 1 #[(0, .agg #[.int .i32 lo, .int .i32 hi, .int .i64 vv])]).run Tryz.prog W = .ok (.slice (some ⟨W.heap.size, 0, none⟩) 1 1) (W.alloc (.cells #[.int .i32 lo, .int .i32 hi, .int .i64 vv] 160)) := fun W => by go_simp
    have ST : ∀ (W : World) (ao9 : Option Addr) (m2 cap : Nat), W.heap[R.g]? = some (.cells (cellsR R line cv kv) 92 (0, 0)) → (Instr.storeAt 88 (.pointer (some ⟨R.g, 3, none⟩)) (.slice ao9 m2 cap)).run Tryz.prog W = .ok () (W.setCell ⟨R.g, 3, none⟩ (.slice ao9 m2 cap)) := fun W ao9 m2 cap h => by
      have q : W.cell? ⟨R.g, 3, none⟩ = some (kv) := by rw [Lib.cell_of_heap h]; rfl
      have q2 : W.frozen? ⟨R.g, 3, none⟩ = false := Lib.frozen_of_heap h _
      go_simp
    have S1 : ∀ {W : World} {u : Value}, W.heap[R.g]? = some (.cells (cellsR R line cv kv) 92 (0, 0)) → (W.setCell ⟨R.g, 3, none⟩ u).heap[R.g]? = some (.cells (cellsR R line cv u) 92 (0, 0)) := fun {W} {u} h => by
      have := heap_setCell_same W R.g 3 _ _ u h
      simpa [cellsR] using this
    obtain ⟨ti, hti, hz, hs1, hbt⟩ := info_parts tinfoRow
    have HI2 := And.intro hti (And.intro hz (And.intro hs1 hbt))
    have HOC : ∀ z ∈ ([.int .i32 lo, .int .i32 hi, .int .i64 vv] : List Value), z.oneCell' = true := by intro z hz; simp at hz; rcases hz with rfl | rfl | rfl <;> rfl
    have HM1 : q + 1 ≤ maxLen := by unfold maxLen; omega
    have HM2 : (q + 1) * 16 ≤ 140737488355328 := by omega
    obtain ⟨FF, hFF⟩ : ∃ FF : FldR, FF = ⟨R.g, W1, kv, 160, 3, q, q + 1, rwE xs, rwE xs ++ [.int .i32 lo, .int .i32 hi, .int .i64 vv], 92, fun u => cellsR R line cv u, #[.int .i32 lo, .int .i32 hi, .int .i64 vv], 7, 10, 6, fun z => match z with | 0 => some (.pointer (some ⟨R.g, 0, none⟩)) | 1 => some (.pointer (some ⟨R.g, 0, none⟩)) | 2 => some (.pointer (some ⟨R.g, 0, none⟩)) | 3 => some (.pointer (some ⟨R.g, 3, none⟩)) | 4 => some (kv) | 5 => some (.agg #[.int .i32 lo, .int .i32 hi, .int .i64 vv]) | 8 => some (.pointer (some ⟨R.g, 0, none⟩)) | 9 => some (.pointer (some ⟨R.g, 3, none⟩)) | _ => none⟩ := ⟨_, rfl⟩
    have H0 : FldR.S FF (fun _ => false) W1.drew := by rw [hFF]; exact ⟨fun _ => hcg, fun _ => OwnS.weaken (show OwnS (fun b => ρ b = 3) _ _ _ _ _ W1.drew from hown) (fun b h => by intro e; subst e; have h9 : ρ R.g = 3 := h; have h8 := HRD.out.g; omega), (Keep.refl _ W1).drew⟩
    refine wp_region_done (FldR.S FF) (FldR.P FF) (by kernel_rfl) (by kernel_rfl) (by kernel_rfl) H0 ?hs ?hd
    case hs =>
      rw [hFF]
      refine DSteps.cons ?_ (DSteps.cons ?_ (DSteps.cons ?_ (DSteps.cons ?_ (DSteps.cons ?_ (DSteps.cons ?_ (DSteps.cons ?_ (DSteps.cons ?_ (DSteps.cons ?_ (DSteps.cons ?_ (DSteps.cons ?_ (DSteps.nil)))))))))))
      · intro D2 a X hDi hDa _ hX hL hd
        refine ⟨rfl, ?_⟩
        have e0 : a.eval (.tmp 0) = .pointer (some ⟨R.g, 0, none⟩) := hL.far 0 (by kernel_rfl)
        exact wp_value (exec_move rfl e0) ⟨_, rfl, hX.more, fun _ _ _ h => h, FldR.P.mk rfl ⟨by simp, by simp, by simp⟩⟩
      · intro D2 a X hDi hDa _ hX hL hd
        refine ⟨rfl, ?_⟩
        have e0 : a.eval (.tmp 0) = .pointer (some ⟨R.g, 0, none⟩) := hL.far 0 (by kernel_rfl)
        exact wp_value (exec_move rfl e0) ⟨_, rfl, hX.more, fun _ _ _ h => h, FldR.P.mk rfl ⟨by simp, by simp, by simp⟩⟩
      · intro D2 a X hDi hDa _ hX hL hd
        refine ⟨rfl, ?_⟩
        have e0 : a.eval (.tmp 15) = .pointer (some ⟨R.g, 0, none⟩) := (hd 1 15 (by kernel_rfl) (by kernel_rfl)).is rfl
        exact wp_value (exec_nilCheck rfl e0) ⟨_, rfl, hX.more, fun _ _ _ h => h, FldR.P.mk rfl ⟨by simp, by simp, by simp⟩⟩
      · intro D2 a X hDi hDa _ hX hL hd
        refine ⟨rfl, ?_⟩
        have e0 : a.eval (.tmp 16) = .pointer (some ⟨R.g, 0, none⟩) := (hd 2 16 (by kernel_rfl) (by kernel_rfl)).is rfl
        exact wp_value (exec_fieldAddr rfl e0 (hfa X)) ⟨_, rfl, hX.more, fun _ _ _ h => h, FldR.P.mk rfl ⟨by simp, by simp, by simp⟩⟩
      · intro D2 a X hDi hDa _ hX hL hd
        refine ⟨rfl, ?_⟩
        have e0 : a.eval (.tmp 17) = .pointer (some ⟨R.g, 3, none⟩) := (hd 3 17 (by kernel_rfl) (by kernel_rfl)).is rfl
        exact wp_value (exec_load rfl e0 (hls X (hX.1 (hDa 10 (by kernel_rfl))))) ⟨_, rfl, hX.more, fun _ _ _ h => h, FldR.P.mk rfl ⟨by simp, by simp, by simp⟩⟩
      · intro D2 a X hDi hDa _ hX hL hd
        refine ⟨rfl, ?_⟩
        have e0 : a.eval (.tmp 5) = .pointer (some ⟨xb, 0, none⟩) := hL.far 5 (by kernel_rfl)
        exact wp_value (exec_load rfl e0 (hlx X hX.2.2)) ⟨_, rfl, hX.more, fun _ _ _ h => h, FldR.P.mk rfl ⟨by simp, by simp, by simp⟩⟩
      · intro D2 a X hDi hDa _ hX hL hd
        refine ⟨rfl, ?_⟩
        have e0 : a.eval (.tmp 19) = .agg #[.int .i32 lo, .int .i32 hi, .int .i64 vv] := (hd 5 19 (by kernel_rfl) (by kernel_rfl)).is rfl
        refine wp_value (exec_buildSlice rfl (ps := #[(0, .agg #[.int .i32 lo, .int .i32 hi, .int .i64 vv])]) (by simp only [List.map_toArray, List.map_cons, List.map_nil, e0] <;> rfl) (BS X)) ⟨_, rfl, (hX.below ((Below.refl _ X).alloc (Nat.le_refl _) _)).more, fun _ _ _ h => h.below ((Below.refl _ X).alloc (Nat.le_refl _) _), FldR.P.bs rfl ⟨by simp, by simp⟩ ⟨X.heap.size, rfl, alloc_at rfl, hX.2.2.size⟩⟩
      · intro D2 a X hDi hDa _ hX hL hd
        refine ⟨rfl, ?_⟩
        have e0 : a.eval (.tmp 18) = kv := (hd 4 18 (by kernel_rfl) (by kernel_rfl)).is rfl
        obtain ⟨b2, hb1, hb2, hb3⟩ := (hd 6 20 (by kernel_rfl) (by kernel_rfl)).2.1 rfl
        have h28 := hDa 10 (by kernel_rfl)
        have hown := hX.2.1 hDi
        refine wp_append_lies X (.tmp 18) (.tmp 20) 88 rfl 0 160 ti (.agg #[.int .i32 0, .int .i32 0, .int .i64 0]) 3 16 Tryz.underlying88 HI2.1 HI2.2.1 HI2.2.2.1 HI2.2.2.2 rfl (by decide) (kv) q (rwE xs) e0 hown.1 ⟨b2, 0, none⟩ 1 1 [.int .i32 lo, .int .i32 hi, .int .i64 vv] hb1 rfl (World.news_of_block hb2) HOC (by decide) HM1 HM2 (Nat.zero_le _) _ rfl ?_
        intro g2 cap2 X2 hown2 hgrow hat hlt2
        exact ⟨_, rfl, hX.app hkg h28 (keep_grown hgrow), fun j u hj h => h.app hkv (keep_grown hgrow) (fun e => by subst e; rw [hDi] at hj; cases hj) (fun e => by subst e; rw [h28] at hj; cases hj), FldR.P.row rfl ⟨by simp, by simp⟩ (FldR.row_of (ln := q + 1) hX.2.2.size hgl hkg ⟨hown2, fun y hy => by
          have : g2 = y := by simpa [Value.ownBlock] using hy
          subst this
          rcases hat with h | h
          · exact .inl h
          · exact .inr (by omega)⟩ rfl)⟩
      · intro D2 a X hDi hDa _ hX hL hd
        refine ⟨rfl, ?_⟩
        have e0 : a.eval (.tmp 14) = .pointer (some ⟨R.g, 0, none⟩) := (hd 0 14 (by kernel_rfl) (by kernel_rfl)).is rfl
        exact wp_value (exec_nilCheck rfl e0) ⟨_, rfl, hX.more, fun _ _ _ h => h, FldR.P.mk rfl ⟨by simp, by simp, by simp⟩⟩
      · intro D2 a X hDi hDa _ hX hL hd
        refine ⟨rfl, ?_⟩
        have e0 : a.eval (.tmp 22) = .pointer (some ⟨R.g, 0, none⟩) := (hd 8 22 (by kernel_rfl) (by kernel_rfl)).is rfl
        exact wp_value (exec_fieldAddr rfl e0 (hfa X)) ⟨_, rfl, hX.more, fun _ _ _ h => h, FldR.P.mk rfl ⟨by simp, by simp, by simp⟩⟩
      · intro D2 a X hDi hDa _ hX hL hd
        refine ⟨rfl, ?_⟩
        have e0 : a.eval (.tmp 23) = .pointer (some ⟨R.g, 3, none⟩) := (hd 9 23 (by kernel_rfl) (by kernel_rfl)).is rfl
        obtain ⟨ao3, ln, cp3, he, ho⟩ := (hd 7 21 (by kernel_rfl) (by kernel_rfl)).2.2.1 rfl
        have hc := hX.1 hDi
        exact wp_skipped (exec_store rfl e0 he (ST X _ _ _ hc)) ⟨undef, rfl, hX.store, fun j u hj h => h.store hgl (fun e => by subst e; rw [hDi] at hj; cases hj), FldR.P.last rfl ⟨by simp, by simp⟩ ⟨_, FldR.Row.store ⟨ao3, ln, cp3, rfl, by rw [← he]; exact ho⟩, S1 hc⟩⟩
    case hd =>
      intro D2 a X hAll hX hL hP hE
      obtain ⟨_, hp⟩ := hE 10 (by decide)
      rw [hFF] at hp hX
      obtain ⟨u, ⟨ao2, ln, cp2, hu0, ho⟩, hu⟩ := hp.2.2.2 rfl
      simp only at ho hu
      have hK := hX.2.2
      obtain ⟨f, ha, hf⟩ := hL.out [14, 15, 16, 17, 18, 19, 20, 21, 22, 23] rfl
      have HF := Lib.hid (And.intro ho (And.intro hu hK))
      clear hf hAll hP hX hL hE hp ho hu hu0 hK S1 hfa hls hlx BS ST HI2 HOC HM1 HM2 H0 hFF hti hz hs1 hbt hown hkg hkv hxg hcg hgl
      simp only [List.foldl_cons, List.foldl_nil, List.setIfInBounds_toArray, List.set_cons_zero, List.set_cons_succ] at ha
      subst ha
      go_wp2
      go_ret
      obtain ⟨ho, hu, hK⟩ := HF.out
      refine ⟨rfl, ?_, ?_⟩
      · exact (Keep.of_all HB.out).trans (hK.weaken (fun b _ hb => by
          rcases hb with rfl | hb
          · have h := HRD.out.g
            constructor <;> omega
          · have h : ρ b = 3 := HRD.out.k.2 _ hb
            constructor <;> omega))
      · have e : rwE (xs ++ [(lo, hi, vv)]) = rwE xs ++ [.int .i32 lo, .int .i32 hi, .int .i64 vv] := rwE_snoc _ _
        have hl : q + 1 = (xs ++ [(lo, hi, vv)]).length := by rw [List.length_append, ← HXS.out, HQL.out]; rfl
        rw [← e, hl] at ho
        have hN := HRD.out.newk hK hu ho
        rw [HXS.out]
        exact ⟨_, _, _, _, hN, fun b hb => moreR_old b (Nat.lt_of_lt_of_le hb HB.out.size), fun _ => rfl⟩
  · have b1 : ((no : Int) == 0) = false := beq_eq_false_iff_ne.2 (by omega)
    clear hown
    go_wp2_with (rw [hxb, hW1])
    go_ret
    exact ⟨rfl, Keep.of_all HB.out, ρ, S, cv, kv, HRD.out, fun _ _ => rfl, fun e => absurd e h0⟩
end Go.Proofs.YtcfhblbmpbfoaaaGreatDoor
