/- Parts of the proof of what the last text says. -/
import Derived.Test.YthhepebkfokddaaGreatDoorGy5
import Derived.Deep.AppendLies
import Derived.Test.YthhepebkfokddaaGreatDoorGy2
/- props: class and kind. WRITTEN by wip/tools/gen_ji.py. -/
namespace Go.Proofs.YthhepebkfokddaaGreatDoor
open Go Go.RowKit Go.Kt Go.Kt.Rg Go.Maps

theorem tinfoRow : (Tryz.prog.info? 106).map (fun i => (i.zero, i.size, i.bytes)) = some (some (.agg #[.int .i32 0, .int .i32 0, .int .i64 0]), 3, 16) := by kernel_rfl
def kndZ (l : List UInt8) : Nat × Int := ((kndP l).1, ((kndP l).2 : Nat))
theorem own_slc {Y : Nat → Prop} {e : TypeId} {size n : Nat} {v : Value} {xs : List Value} {W : World} (h : OwnS Y e size v n xs W) : ∃ ao cap, v = .slice ao n cap := by
  rcases h.1.2 with ⟨rfl, rfl⟩ | ⟨g, cap, cur, rfl, _⟩
  · exact ⟨_, _, rfl⟩
  · exact ⟨_, _, rfl⟩

set_option maxRecDepth 100000 in
set_option maxHeartbeats 4000000 in
theorem pclassR {B0 : Nat} {ρ : Nat → Nat} {R : RdB} {line n m : Nat} {S : RdS} {cv kv : Value} (w : World) (hR : RdW B0 ρ R line n m S cv kv w) (ws : List (List UInt8)) (sv : Value) (hS : StrS sv ws w) (hz : ∀ x ∈ ws, x ≠ [] ∧ x.length ≤ 1048576) (h2 : 2 ≤ ws.length) (hE : PEnv w) (hm : S.cs.length ≤ 65536) :
    Calls Tryz.prog 36 #[.pointer (some ⟨R.g, 0, none⟩), sv] w fun e w' => RdOut B0 ρ R line n m (rowP clsP ws).1 { S with cs := S.cs ++ [(rowP clsP ws).2] } w e w' := by
  have hx1 : ws.getD 1 [] ∈ ws := by rw [List.getD_eq_getElem?_getD, List.getElem?_eq_getElem (by omega)]; exact List.getElem_mem _
  have CR := Lib.hid (prow 73 (fun _ _ => rfl) clsP ws sv w hS (fun x hx => (hz x hx).2) h2 hE (fun W hW => (pclass ⟨(ws.getD 1 []).toArray⟩ W (by rw [bsize]; have := (hz _ hx1).2; omega) (by simpa using (hz _ hx1).1) (hE.v.below hW)).mono (fun e w' h => by simpa using h)))
  obtain ⟨⟨no, lo, hi, vv⟩, hP⟩ : ∃ z, rowP clsP ws = z := ⟨_, rfl⟩
  rw [hP] at CR ⊢
  clear hP hS hz h2 hx1
  have HR := Lib.hid hR
  have HE := Lib.hid hE
  clear hR hE
  go_enter Tryz.func36, Tryz.ntmps36
  go_wp2_with fail
  refine CR.out.mono ?_
  rintro e w1 ⟨rfl, hb1⟩
  obtain ⟨xb, hxb⟩ : ∃ xb, w1.heap.size = xb := ⟨_, rfl⟩
  obtain ⟨W1, hW1⟩ : ∃ W1, w1.alloc (.cells #[.int .i32 lo, .int .i32 hi, .int .i64 vv] 106) = W1 := ⟨_, rfl⟩
  have hb2 : Below w.heap.size w W1 := by rw [← hW1]; exact hb1.alloc hb1.size _
  have HRD : Hid (RdW B0 ρ R line n m S cv kv W1) := Lib.hid (HR.out.below hb2)
  have HB := Lib.hid hb2
  have HXB : Hid (W1.heap[xb]? = some (.cells #[.int .i32 lo, .int .i32 hi, .int .i64 vv] 106 (0, 0)) ∧ xb ≠ R.g ∧ (cv : Value).ownBlock ≠ some xb) := Lib.hid (by
    have h1 := HR.out.gl
    have h2 := hb1.size
    refine ⟨by rw [← hW1, ← hxb]; exact heap_alloc_new _ _, by omega, fun h => ?_⟩
    have := (HR.out.c.1.lt _ h).2
    omega)
  have hown : OwnS (fun b => ρ b = 2) 106 3 cv S.cs.length (rwE S.cs) W1 := HRD.out.c
  by_cases h0 : no = 0
  · subst h0
    have HQ : Hid (S.cs.length = S.cs.length) := Lib.hid rfl
    obtain ⟨q, hq⟩ : ∃ q, S.cs.length = q := ⟨_, rfl⟩
    obtain ⟨xs, hxs⟩ : ∃ xs, S.cs = xs := ⟨_, rfl⟩
    have HXS := Lib.hid hxs
    have HQL := Lib.hid hq
    rw [hq] at hm
    rw [hq, hxs] at hown
    clear hq hxs HQ
    go_wp2_with (first | rw [hxb, hW1] | fail)
    have hkg : (cv : Value).ownBlock ≠ some R.g := fun h => by have h9 := hown.2 _ h; have h8 := HRD.out.g; simp only at h9; omega
    have hkv : ∀ b, (cv : Value).ownBlock = some b → b < W1.heap.size := fun b h => (hown.1.lt b h).2
    have hgl : R.g < W1.heap.size := HRD.out.gl
    have hxg : xb ≠ R.g ∧ (cv : Value).ownBlock ≠ some xb := HXB.out.2
    have hcg : W1.heap[R.g]? = some (.cells (cellsR R line cv kv) 57 (0, 0)) := HRD.out.cell
    have hfa : ∀ X : World, (Instr.fieldAt 57 (.pointer (some ⟨R.g, 0, none⟩)) 2).run Tryz.prog X = .ok (.pointer (some ⟨R.g, 2, none⟩)) X := fun X => by go_simp
    have hls : ∀ X : World, X.heap[R.g]? = some (.cells (cellsR R line cv kv) 57 (0, 0)) → (Instr.loadAt 53 (.pointer (some ⟨R.g, 2, none⟩))).run Tryz.prog X = .ok (cv) X := fun X h => by
      have q : X.cell? ⟨R.g, 2, none⟩ = some (cv) := by rw [Lib.cell_of_heap h]; rfl
      obtain ⟨ao4, cp4, hk4⟩ := own_slc hown
      rw [hk4] at q ⊢
      go_simp
    have hlx : ∀ X, Keep (fun b => b = R.g ∨ (cv : Value).ownBlock = some b) W1 X → (Instr.loadAt 106 (.pointer (some ⟨xb, 0, none⟩))).run Tryz.prog X = .ok (.agg #[.int .i32 lo, .int .i32 hi, .int .i64 vv]) X := fun X hX => by
      have q := hX.heap HXB.out.1 (fun e => by rcases e with e | e; exact hxg.1 e; exact hxg.2 e)
      have q0 : X.cell? ⟨xb, 0, none⟩ = some (.int .i32 lo) := by rw [Lib.cell_of_heap q]; rfl
      have q1 : X.cell? ⟨xb, 1, none⟩ = some (.int .i32 hi) := by rw [Lib.cell_of_heap q]; rfl
      have q2 : X.cell? ⟨xb, 2, none⟩ = some (.int .i64 vv) := by rw [Lib.cell_of_heap q]; rfl
      go_simp
    have BS : ∀ W : World, (Instr.buildSlice 53 1 #[(0, .agg #[.int .i32 lo, .int .i32 hi, .int .i64 vv])]).run Tryz.prog W = .ok (.slice (some ⟨W.heap.size, 0, none⟩) 1 1) (W.alloc (.cells #[.int .i32 lo, .int .i32 hi, .int .i64 vv] 106)) := fun W => by go_simp
    have ST : ∀ (W : World) (ao9 : Option Addr) (m2 cap : Nat), W.heap[R.g]? = some (.cells (cellsR R line cv kv) 57 (0, 0)) → (Instr.storeAt 53 (.pointer (some ⟨R.g, 2, none⟩)) (.slice ao9 m2 cap)).run Tryz.prog W = .ok () (W.setCell ⟨R.g, 2, none⟩ (.slice ao9 m2 cap)) := fun W ao9 m2 cap h => by
      have q : W.cell? ⟨R.g, 2, none⟩ = some (cv) := by rw [Lib.cell_of_heap h]; rfl
      have q2 : W.frozen? ⟨R.g, 2, none⟩ = false := Lib.frozen_of_heap h _
      go_simp
    have S1 : ∀ {W : World} {u : Value}, W.heap[R.g]? = some (.cells (cellsR R line cv kv) 57 (0, 0)) → (W.setCell ⟨R.g, 2, none⟩ u).heap[R.g]? = some (.cells (cellsR R line u kv) 57 (0, 0)) := fun {W} {u} h => by
      have := heap_setCell_same W R.g 2 _ _ u h
      simpa [cellsR] using this
    obtain ⟨ti, hti, hz, hs1, hbt⟩ := info_parts tinfoRow
    have HI2 := And.intro hti (And.intro hz (And.intro hs1 hbt))
    have HOC : ∀ z ∈ ([.int .i32 lo, .int .i32 hi, .int .i64 vv] : List Value), z.oneCell' = true := by intro z hz; simp at hz; rcases hz with rfl | rfl | rfl <;> rfl
    have HM1 : q + 1 ≤ maxLen := by unfold maxLen; omega
    have HM2 : (q + 1) * 16 ≤ 140737488355328 := by omega
    obtain ⟨FF, hFF⟩ : ∃ FF : FldR, FF = ⟨R.g, W1, cv, 106, 3, q, q + 1, rwE xs, rwE xs ++ [.int .i32 lo, .int .i32 hi, .int .i64 vv], 57, fun u => cellsR R line u kv, #[.int .i32 lo, .int .i32 hi, .int .i64 vv], 7, 10, 6, fun z => match z with | 0 => some (.pointer (some ⟨R.g, 0, none⟩)) | 1 => some (.pointer (some ⟨R.g, 0, none⟩)) | 2 => some (.pointer (some ⟨R.g, 0, none⟩)) | 3 => some (.pointer (some ⟨R.g, 2, none⟩)) | 4 => some (cv) | 5 => some (.agg #[.int .i32 lo, .int .i32 hi, .int .i64 vv]) | 8 => some (.pointer (some ⟨R.g, 0, none⟩)) | 9 => some (.pointer (some ⟨R.g, 2, none⟩)) | _ => none⟩ := ⟨_, rfl⟩
    have H0 : FldR.S FF (fun _ => false) W1.drew := by rw [hFF]; exact ⟨fun _ => hcg, fun _ => OwnS.weaken (show OwnS (fun b => ρ b = 2) _ _ _ _ _ W1.drew from hown) (fun b h => by intro e; subst e; have h9 : ρ R.g = 2 := h; have h8 := HRD.out.g; omega), (Keep.refl _ W1).drew⟩
    refine wp_region_done (FldR.S FF) (FldR.P FF) (by kernel_rfl) (by kernel_rfl) (by kernel_rfl) H0 ?hs ?hd
    case hs =>
      rw [hFF]
      refine DSteps.cons ?_ (DSteps.cons ?_ (DSteps.cons ?_ (DSteps.cons ?_ (DSteps.cons ?_ (DSteps.cons ?_ (DSteps.cons ?_ (DSteps.cons ?_ (DSteps.cons ?_ (DSteps.cons ?_ (DSteps.cons ?_ (DSteps.nil)))))))))))
      · intro D2 a X hDi hDa _ hX hL hd
        refine ⟨rfl, ?_⟩
        have e0 : a.eval (.tmp 0) = .pointer (some ⟨R.g, 0, none⟩) := hL.far 0 (by kernel_rfl)
        exact wp_value (exec_move rfl e0) ⟨_, rfl, hX.more, fun _ _ _ h => h, FldR.P.mk rfl ⟨by simp, by simp, by simp⟩⟩
      · intro D2 a X hDi hDa _ hX hL hd
        refine ⟨rfl, ?_⟩
        have e0 : a.eval (.tmp 0) = .pointer (some ⟨R.g, 0, none⟩) := hL.far 0 (by kernel_rfl)
        exact wp_value (exec_move rfl e0) ⟨_, rfl, hX.more, fun _ _ _ h => h, FldR.P.mk rfl ⟨by simp, by simp, by simp⟩⟩
      · intro D2 a X hDi hDa _ hX hL hd
        refine ⟨rfl, ?_⟩
        have e0 : a.eval (.tmp 15) = .pointer (some ⟨R.g, 0, none⟩) := (hd 1 15 (by kernel_rfl) (by kernel_rfl)).is rfl
        exact wp_value (exec_nilCheck rfl e0) ⟨_, rfl, hX.more, fun _ _ _ h => h, FldR.P.mk rfl ⟨by simp, by simp, by simp⟩⟩
      · intro D2 a X hDi hDa _ hX hL hd
        refine ⟨rfl, ?_⟩
        have e0 : a.eval (.tmp 16) = .pointer (some ⟨R.g, 0, none⟩) := (hd 2 16 (by kernel_rfl) (by kernel_rfl)).is rfl
        exact wp_value (exec_fieldAddr rfl e0 (hfa X)) ⟨_, rfl, hX.more, fun _ _ _ h => h, FldR.P.mk rfl ⟨by simp, by simp, by simp⟩⟩
      · intro D2 a X hDi hDa _ hX hL hd
        refine ⟨rfl, ?_⟩
        have e0 : a.eval (.tmp 17) = .pointer (some ⟨R.g, 2, none⟩) := (hd 3 17 (by kernel_rfl) (by kernel_rfl)).is rfl
        exact wp_value (exec_load rfl e0 (hls X (hX.1 (hDa 10 (by kernel_rfl))))) ⟨_, rfl, hX.more, fun _ _ _ h => h, FldR.P.mk rfl ⟨by simp, by simp, by simp⟩⟩
      · intro D2 a X hDi hDa _ hX hL hd
        refine ⟨rfl, ?_⟩
        have e0 : a.eval (.tmp 5) = .pointer (some ⟨xb, 0, none⟩) := hL.far 5 (by kernel_rfl)
        exact wp_value (exec_load rfl e0 (hlx X hX.2.2)) ⟨_, rfl, hX.more, fun _ _ _ h => h, FldR.P.mk rfl ⟨by simp, by simp, by simp⟩⟩
      · intro D2 a X hDi hDa _ hX hL hd
        refine ⟨rfl, ?_⟩
        have e0 : a.eval (.tmp 19) = .agg #[.int .i32 lo, .int .i32 hi, .int .i64 vv] := (hd 5 19 (by kernel_rfl) (by kernel_rfl)).is rfl
        refine wp_value (exec_buildSlice rfl (ps := #[(0, .agg #[.int .i32 lo, .int .i32 hi, .int .i64 vv])]) (by simp only [List.map_toArray, List.map_cons, List.map_nil, e0] <;> rfl) (BS X)) ⟨_, rfl, (hX.below ((Below.refl _ X).alloc (Nat.le_refl _) _)).more, fun _ _ _ h => h.below ((Below.refl _ X).alloc (Nat.le_refl _) _), FldR.P.bs rfl ⟨by simp, by simp⟩ ⟨X.heap.size, rfl, alloc_at rfl, hX.2.2.size⟩⟩
      · intro D2 a X hDi hDa _ hX hL hd
        refine ⟨rfl, ?_⟩
        have e0 : a.eval (.tmp 18) = cv := (hd 4 18 (by kernel_rfl) (by kernel_rfl)).is rfl
        obtain ⟨b2, hb1, hb2, hb3⟩ := (hd 6 20 (by kernel_rfl) (by kernel_rfl)).2.1 rfl
        have h28 := hDa 10 (by kernel_rfl)
        have hown := hX.2.1 hDi
        refine wp_append_lies X (.tmp 18) (.tmp 20) 53 rfl 0 106 ti (.agg #[.int .i32 0, .int .i32 0, .int .i64 0]) 3 16 Tryz.underlying53 HI2.1 HI2.2.1 HI2.2.2.1 HI2.2.2.2 rfl (by decide) (cv) q (rwE xs) e0 hown.1 ⟨b2, 0, none⟩ 1 1 [.int .i32 lo, .int .i32 hi, .int .i64 vv] hb1 rfl (World.news_of_block hb2) HOC (by decide) HM1 HM2 (Nat.zero_le _) _ rfl ?_
        intro g2 cap2 X2 hown2 hgrow hat hlt2
        exact ⟨_, rfl, hX.app hkg h28 (keep_grown hgrow), fun j u hj h => h.app hkv (keep_grown hgrow) (fun e => by subst e; rw [hDi] at hj; cases hj) (fun e => by subst e; rw [h28] at hj; cases hj), FldR.P.row rfl ⟨by simp, by simp⟩ (FldR.row_of (ln := q + 1) hX.2.2.size hgl hkg ⟨hown2, fun y hy => by
          have : g2 = y := by simpa [Value.ownBlock] using hy
          subst this
          rcases hat with h | h
          · exact .inl h
          · exact .inr (by omega)⟩ rfl)⟩
      · intro D2 a X hDi hDa _ hX hL hd
        refine ⟨rfl, ?_⟩
        have e0 : a.eval (.tmp 14) = .pointer (some ⟨R.g, 0, none⟩) := (hd 0 14 (by kernel_rfl) (by kernel_rfl)).is rfl
        exact wp_value (exec_nilCheck rfl e0) ⟨_, rfl, hX.more, fun _ _ _ h => h, FldR.P.mk rfl ⟨by simp, by simp, by simp⟩⟩
      · intro D2 a X hDi hDa _ hX hL hd
        refine ⟨rfl, ?_⟩
        have e0 : a.eval (.tmp 22) = .pointer (some ⟨R.g, 0, none⟩) := (hd 8 22 (by kernel_rfl) (by kernel_rfl)).is rfl
        exact wp_value (exec_fieldAddr rfl e0 (hfa X)) ⟨_, rfl, hX.more, fun _ _ _ h => h, FldR.P.mk rfl ⟨by simp, by simp, by simp⟩⟩
      · intro D2 a X hDi hDa _ hX hL hd
        refine ⟨rfl, ?_⟩
        have e0 : a.eval (.tmp 23) = .pointer (some ⟨R.g, 2, none⟩) := (hd 9 23 (by kernel_rfl) (by kernel_rfl)).is rfl
        obtain ⟨ao3, ln, cp3, he, ho⟩ := (hd 7 21 (by kernel_rfl) (by kernel_rfl)).2.2.1 rfl
        have hc := hX.1 hDi
        exact wp_skipped (exec_store rfl e0 he (ST X _ _ _ hc)) ⟨undef, rfl, hX.store, fun j u hj h => h.store hgl (fun e => by subst e; rw [hDi] at hj; cases hj), FldR.P.last rfl ⟨by simp, by simp⟩ ⟨_, FldR.Row.store ⟨ao3, ln, cp3, rfl, by rw [← he]; exact ho⟩, S1 hc⟩⟩
    case hd =>
      intro D2 a X hAll hX hL hP hE
      obtain ⟨_, hp⟩ := hE 10 (by decide)
      rw [hFF] at hp hX
      obtain ⟨u, ⟨ao2, ln, cp2, hu0, ho⟩, hu⟩ := hp.2.2.2 rfl
      simp only at ho hu
      have hK := hX.2.2
      obtain ⟨f, ha, hf⟩ := hL.out [14, 15, 16, 17, 18, 19, 20, 21, 22, 23] rfl
      have HF := Lib.hid (And.intro ho (And.intro hu hK))
      clear hf hAll hP hX hL hE hp ho hu hu0 hK S1 hfa hls hlx BS ST HI2 HOC HM1 HM2 H0 hFF hti hz hs1 hbt hown hkg hkv hxg hcg hgl
      simp only [List.foldl_cons, List.foldl_nil, List.setIfInBounds_toArray, List.set_cons_zero, List.set_cons_succ] at ha
      subst ha
      go_wp2
      go_ret
      obtain ⟨ho, hu, hK⟩ := HF.out
      refine ⟨rfl, ?_, ?_⟩
      · exact (Keep.of_all HB.out).trans (hK.weaken (fun b _ hb => by
          rcases hb with rfl | hb
          · have h := HRD.out.g
            constructor <;> omega
          · have h : ρ b = 2 := HRD.out.c.2 _ hb
            constructor <;> omega))
      · have e : rwE (xs ++ [(lo, hi, vv)]) = rwE xs ++ [.int .i32 lo, .int .i32 hi, .int .i64 vv] := rwE_snoc _ _
        have hl : q + 1 = (xs ++ [(lo, hi, vv)]).length := by rw [List.length_append, ← HXS.out, HQL.out]; rfl
        rw [← e, hl] at ho
        have hN := HRD.out.newc hK hu ho
        rw [HXS.out]
        exact ⟨_, _, _, _, hN, fun b hb => moreR_old b (Nat.lt_of_lt_of_le hb HB.out.size), fun _ => rfl⟩
  · have b1 : ((no : Int) == 0) = false := beq_eq_false_iff_ne.2 (by omega)
    clear hown
    go_wp2_with (rw [hxb, hW1])
    go_ret
    exact ⟨rfl, Keep.of_all HB.out, ρ, S, cv, kv, HRD.out, fun _ _ => rfl, fun e => absurd e h0⟩

set_option maxRecDepth 100000 in
set_option maxHeartbeats 4000000 in
theorem pkindR {B0 : Nat} {ρ : Nat → Nat} {R : RdB} {line n m : Nat} {S : RdS} {cv kv : Value} (w : World) (hR : RdW B0 ρ R line n m S cv kv w) (ws : List (List UInt8)) (sv : Value) (hS : StrS sv ws w) (hz : ∀ x ∈ ws, x ≠ [] ∧ x.length ≤ 1048576) (h2 : 2 ≤ ws.length) (hE : PEnv w) (hm : S.ks.length ≤ 65536) :
    Calls Tryz.prog 37 #[.pointer (some ⟨R.g, 0, none⟩), sv] w fun e w' => RdOut B0 ρ R line n m (rowP kndZ ws).1 { S with ks := S.ks ++ [(rowP kndZ ws).2] } w e w' := by
  have hx1 : ws.getD 1 [] ∈ ws := by rw [List.getD_eq_getElem?_getD, List.getElem?_eq_getElem (by omega)]; exact List.getElem_mem _
  have CR := Lib.hid (prow 74 (fun _ _ => rfl) kndZ ws sv w hS (fun x hx => (hz x hx).2) h2 hE (fun W hW => (pkind ⟨(ws.getD 1 []).toArray⟩ W (hE.k.below hW)).mono (fun e w' h => ⟨by simpa [kndZ] using h.1, by rw [h.2]; exact Below.refl _ _⟩)))
  obtain ⟨⟨no, lo, hi, vv⟩, hP⟩ : ∃ z, rowP kndZ ws = z := ⟨_, rfl⟩
  rw [hP] at CR ⊢
  clear hP hS hz h2 hx1
  have HR := Lib.hid hR
  have HE := Lib.hid hE
  clear hR hE
  go_enter Tryz.func37, Tryz.ntmps37
  go_wp2_with fail
  refine CR.out.mono ?_
  rintro e w1 ⟨rfl, hb1⟩
  obtain ⟨xb, hxb⟩ : ∃ xb, w1.heap.size = xb := ⟨_, rfl⟩
  obtain ⟨W1, hW1⟩ : ∃ W1, w1.alloc (.cells #[.int .i32 lo, .int .i32 hi, .int .i64 vv] 106) = W1 := ⟨_, rfl⟩
  have hb2 : Below w.heap.size w W1 := by rw [← hW1]; exact hb1.alloc hb1.size _
  have HRD : Hid (RdW B0 ρ R line n m S cv kv W1) := Lib.hid (HR.out.below hb2)
  have HB := Lib.hid hb2
  have HXB : Hid (W1.heap[xb]? = some (.cells #[.int .i32 lo, .int .i32 hi, .int .i64 vv] 106 (0, 0)) ∧ xb ≠ R.g ∧ (kv : Value).ownBlock ≠ some xb) := Lib.hid (by
    have h1 := HR.out.gl
    have h2 := hb1.size
    refine ⟨by rw [← hW1, ← hxb]; exact heap_alloc_new _ _, by omega, fun h => ?_⟩
    have := (HR.out.k.1.lt _ h).2
    omega)
  have hown : OwnS (fun b => ρ b = 3) 106 3 kv S.ks.length (rwE S.ks) W1 := HRD.out.k
  by_cases h0 : no = 0
  · subst h0
    have HQ : Hid (S.ks.length = S.ks.length) := Lib.hid rfl
    obtain ⟨q, hq⟩ : ∃ q, S.ks.length = q := ⟨_, rfl⟩
    obtain ⟨xs, hxs⟩ : ∃ xs, S.ks = xs := ⟨_, rfl⟩
    have HXS := Lib.hid hxs
    have HQL := Lib.hid hq
    rw [hq] at hm
    rw [hq, hxs] at hown
    clear hq hxs HQ
    go_wp2_with (first | rw [hxb, hW1] | fail)
    have hkg : (kv : Value).ownBlock ≠ some R.g := fun h => by have h9 := hown.2 _ h; have h8 := HRD.out.g; simp only at h9; omega
    have hkv : ∀ b, (kv : Value).ownBlock = some b → b < W1.heap.size := fun b h => (hown.1.lt b h).2
    have hgl : R.g < W1.heap.size := HRD.out.gl
    have hxg : xb ≠ R.g ∧ (kv : Value).ownBlock ≠ some xb := HXB.out.2
    have hcg : W1.heap[R.g]? = some (.cells (cellsR R line cv kv) 57 (0, 0)) := HRD.out.cell
    have hfa : ∀ X : World, (Instr.fieldAt 57 (.pointer (some ⟨R.g, 0, none⟩)) 3).run Tryz.prog X = .ok (.pointer (some ⟨R.g, 3, none⟩)) X := fun X => by go_simp
    have hls : ∀ X : World, X.heap[R.g]? = some (.cells (cellsR R line cv kv) 57 (0, 0)) → (Instr.loadAt 53 (.pointer (some ⟨R.g, 3, none⟩))).run Tryz.prog X = .ok (kv) X := fun X h => by
      have q : X.cell? ⟨R.g, 3, none⟩ = some (kv) := by rw [Lib.cell_of_heap h]; rfl
      obtain ⟨ao4, cp4, hk4⟩ := own_slc hown
      rw [hk4] at q ⊢
      go_simp
    have hlx : ∀ X, Keep (fun b => b = R.g ∨ (kv : Value).ownBlock = some b) W1 X → (Instr.loadAt 106 (.pointer (some ⟨xb, 0, none⟩))).run Tryz.prog X = .ok (.agg #[.int .i32 lo, .int .i32 hi, .int .i64 vv]) X := fun X hX => by
      have q := hX.heap HXB.out.1 (fun e => by rcases e with e | e; exact hxg.1 e; exact hxg.2 e)
      have q0 : X.cell? ⟨xb, 0, none⟩ = some (.int .i32 lo) := by rw [Lib.cell_of_heap q]; rfl
      have q1 : X.cell? ⟨xb, 1, none⟩ = some (.int .i32 hi) := by rw [Lib.cell_of_heap q]; rfl
      have q2 : X.cell? ⟨xb, 2, none⟩ = some (.int .i64 vv) := by rw [Lib.cell_of_heap q]; rfl
      go_simp
    have BS : ∀ W : World, (Instr.buildSlice 53 1 #[(0, .agg #[.int .i32 lo, .int .i32 hi, .int .i64 vv])]).run Tryz.prog W = .ok (.slice (some ⟨W.heap.size, 0, none⟩) 1 1) (W.alloc (.cells #[.int .i32 lo, .int .i32 hi, .int .i64 vv] 106)) := fun W => by go_simp
    have ST : ∀ (W : World) (ao9 : Option Addr) (m2 cap : Nat), W.heap[R.g]? = some (.cells (cellsR R line cv kv) 57 (0, 0)) → (Instr.storeAt 53 (.pointer (some ⟨R.g, 3, none⟩)) (.slice ao9 m2 cap)).run Tryz.prog W = .ok () (W.setCell ⟨R.g, 3, none⟩ (.slice ao9 m2 cap)) := fun W ao9 m2 cap h => by
      have q : W.cell? ⟨R.g, 3, none⟩ = some (kv) := by rw [Lib.cell_of_heap h]; rfl
      have q2 : W.frozen? ⟨R.g, 3, none⟩ = false := Lib.frozen_of_heap h _
      go_simp
    have S1 : ∀ {W : World} {u : Value}, W.heap[R.g]? = some (.cells (cellsR R line cv kv) 57 (0, 0)) → (W.setCell ⟨R.g, 3, none⟩ u).heap[R.g]? = some (.cells (cellsR R line cv u) 57 (0, 0)) := fun {W} {u} h => by
      have := heap_setCell_same W R.g 3 _ _ u h
      simpa [cellsR] using this
    obtain ⟨ti, hti, hz, hs1, hbt⟩ := info_parts tinfoRow
    have HI2 := And.intro hti (And.intro hz (And.intro hs1 hbt))
    have HOC : ∀ z ∈ ([.int .i32 lo, .int .i32 hi, .int .i64 vv] : List Value), z.oneCell' = true := by intro z hz; simp at hz; rcases hz with rfl | rfl | rfl <;> rfl
    have HM1 : q + 1 ≤ maxLen := by unfold maxLen; omega
    have HM2 : (q + 1) * 16 ≤ 140737488355328 := by omega
    obtain ⟨FF, hFF⟩ : ∃ FF : FldR, FF = ⟨R.g, W1, kv, 106, 3, q, q + 1, rwE xs, rwE xs ++ [.int .i32 lo, .int .i32 hi, .int .i64 vv], 57, fun u => cellsR R line cv u, #[.int .i32 lo, .int .i32 hi, .int .i64 vv], 7, 10, 6, fun z => match z with | 0 => some (.pointer (some ⟨R.g, 0, none⟩)) | 1 => some (.pointer (some ⟨R.g, 0, none⟩)) | 2 => some (.pointer (some ⟨R.g, 0, none⟩)) | 3 => some (.pointer (some ⟨R.g, 3, none⟩)) | 4 => some (kv) | 5 => some (.agg #[.int .i32 lo, .int .i32 hi, .int .i64 vv]) | 8 => some (.pointer (some ⟨R.g, 0, none⟩)) | 9 => some (.pointer (some ⟨R.g, 3, none⟩)) | _ => none⟩ := ⟨_, rfl⟩
    have H0 : FldR.S FF (fun _ => false) W1.drew := by rw [hFF]; exact ⟨fun _ => hcg, fun _ => OwnS.weaken (show OwnS (fun b => ρ b = 3) _ _ _ _ _ W1.drew from hown) (fun b h => by intro e; subst e; have h9 : ρ R.g = 3 := h; have h8 := HRD.out.g; omega), (Keep.refl _ W1).drew⟩
    refine wp_region_done (FldR.S FF) (FldR.P FF) (by kernel_rfl) (by kernel_rfl) (by kernel_rfl) H0 ?hs ?hd
    case hs =>
      rw [hFF]
      refine DSteps.cons ?_ (DSteps.cons ?_ (DSteps.cons ?_ (DSteps.cons ?_ (DSteps.cons ?_ (DSteps.cons ?_ (DSteps.cons ?_ (DSteps.cons ?_ (DSteps.cons ?_ (DSteps.cons ?_ (DSteps.cons ?_ (DSteps.nil)))))))))))
      · intro D2 a X hDi hDa _ hX hL hd
        refine ⟨rfl, ?_⟩
        have e0 : a.eval (.tmp 0) = .pointer (some ⟨R.g, 0, none⟩) := hL.far 0 (by kernel_rfl)
        exact wp_value (exec_move rfl e0) ⟨_, rfl, hX.more, fun _ _ _ h => h, FldR.P.mk rfl ⟨by simp, by simp, by simp⟩⟩
      · intro D2 a X hDi hDa _ hX hL hd
        refine ⟨rfl, ?_⟩
        have e0 : a.eval (.tmp 0) = .pointer (some ⟨R.g, 0, none⟩) := hL.far 0 (by kernel_rfl)
        exact wp_value (exec_move rfl e0) ⟨_, rfl, hX.more, fun _ _ _ h => h, FldR.P.mk rfl ⟨by simp, by simp, by simp⟩⟩
      · intro D2 a X hDi hDa _ hX hL hd
        refine ⟨rfl, ?_⟩
        have e0 : a.eval (.tmp 15) = .pointer (some ⟨R.g, 0, none⟩) := (hd 1 15 (by kernel_rfl) (by kernel_rfl)).is rfl
        exact wp_value (exec_nilCheck rfl e0) ⟨_, rfl, hX.more, fun _ _ _ h => h, FldR.P.mk rfl ⟨by simp, by simp, by simp⟩⟩
      · intro D2 a X hDi hDa _ hX hL hd
        refine ⟨rfl, ?_⟩
        have e0 : a.eval (.tmp 16) = .pointer (some ⟨R.g, 0, none⟩) := (hd 2 16 (by kernel_rfl) (by kernel_rfl)).is rfl
        exact wp_value (exec_fieldAddr rfl e0 (hfa X)) ⟨_, rfl, hX.more, fun _ _ _ h => h, FldR.P.mk rfl ⟨by simp, by simp, by simp⟩⟩
      · intro D2 a X hDi hDa _ hX hL hd
        refine ⟨rfl, ?_⟩
        have e0 : a.eval (.tmp 17) = .pointer (some ⟨R.g, 3, none⟩) := (hd 3 17 (by kernel_rfl) (by kernel_rfl)).is rfl
        exact wp_value (exec_load rfl e0 (hls X (hX.1 (hDa 10 (by kernel_rfl))))) ⟨_, rfl, hX.more, fun _ _ _ h => h, FldR.P.mk rfl ⟨by simp, by simp, by simp⟩⟩
      · intro D2 a X hDi hDa _ hX hL hd
        refine ⟨rfl, ?_⟩
        have e0 : a.eval (.tmp 5) = .pointer (some ⟨xb, 0, none⟩) := hL.far 5 (by kernel_rfl)
        exact wp_value (exec_load rfl e0 (hlx X hX.2.2)) ⟨_, rfl, hX.more, fun _ _ _ h => h, FldR.P.mk rfl ⟨by simp, by simp, by simp⟩⟩
      · intro D2 a X hDi hDa _ hX hL hd
        refine ⟨rfl, ?_⟩
        have e0 : a.eval (.tmp 19) = .agg #[.int .i32 lo, .int .i32 hi, .int .i64 vv] := (hd 5 19 (by kernel_rfl) (by kernel_rfl)).is rfl
        refine wp_value (exec_buildSlice rfl (ps := #[(0, .agg #[.int .i32 lo, .int .i32 hi, .int .i64 vv])]) (by simp only [List.map_toArray, List.map_cons, List.map_nil, e0] <;> rfl) (BS X)) ⟨_, rfl, (hX.below ((Below.refl _ X).alloc (Nat.le_refl _) _)).more, fun _ _ _ h => h.below ((Below.refl _ X).alloc (Nat.le_refl _) _), FldR.P.bs rfl ⟨by simp, by simp⟩ ⟨X.heap.size, rfl, alloc_at rfl, hX.2.2.size⟩⟩
      · intro D2 a X hDi hDa _ hX hL hd
        refine ⟨rfl, ?_⟩
        have e0 : a.eval (.tmp 18) = kv := (hd 4 18 (by kernel_rfl) (by kernel_rfl)).is rfl
        obtain ⟨b2, hb1, hb2, hb3⟩ := (hd 6 20 (by kernel_rfl) (by kernel_rfl)).2.1 rfl
        have h28 := hDa 10 (by kernel_rfl)
        have hown := hX.2.1 hDi
        refine wp_append_lies X (.tmp 18) (.tmp 20) 53 rfl 0 106 ti (.agg #[.int .i32 0, .int .i32 0, .int .i64 0]) 3 16 Tryz.underlying53 HI2.1 HI2.2.1 HI2.2.2.1 HI2.2.2.2 rfl (by decide) (kv) q (rwE xs) e0 hown.1 ⟨b2, 0, none⟩ 1 1 [.int .i32 lo, .int .i32 hi, .int .i64 vv] hb1 rfl (World.news_of_block hb2) HOC (by decide) HM1 HM2 (Nat.zero_le _) _ rfl ?_
        intro g2 cap2 X2 hown2 hgrow hat hlt2
        exact ⟨_, rfl, hX.app hkg h28 (keep_grown hgrow), fun j u hj h => h.app hkv (keep_grown hgrow) (fun e => by subst e; rw [hDi] at hj; cases hj) (fun e => by subst e; rw [h28] at hj; cases hj), FldR.P.row rfl ⟨by simp, by simp⟩ (FldR.row_of (ln := q + 1) hX.2.2.size hgl hkg ⟨hown2, fun y hy => by
          have : g2 = y := by simpa [Value.ownBlock] using hy
          subst this
          rcases hat with h | h
          · exact .inl h
          · exact .inr (by omega)⟩ rfl)⟩
      · intro D2 a X hDi hDa _ hX hL hd
        refine ⟨rfl, ?_⟩
        have e0 : a.eval (.tmp 14) = .pointer (some ⟨R.g, 0, none⟩) := (hd 0 14 (by kernel_rfl) (by kernel_rfl)).is rfl
        exact wp_value (exec_nilCheck rfl e0) ⟨_, rfl, hX.more, fun _ _ _ h => h, FldR.P.mk rfl ⟨by simp, by simp, by simp⟩⟩
      · intro D2 a X hDi hDa _ hX hL hd
        refine ⟨rfl, ?_⟩
        have e0 : a.eval (.tmp 22) = .pointer (some ⟨R.g, 0, none⟩) := (hd 8 22 (by kernel_rfl) (by kernel_rfl)).is rfl
        exact wp_value (exec_fieldAddr rfl e0 (hfa X)) ⟨_, rfl, hX.more, fun _ _ _ h => h, FldR.P.mk rfl ⟨by simp, by simp, by simp⟩⟩
      · intro D2 a X hDi hDa _ hX hL hd
        refine ⟨rfl, ?_⟩
        have e0 : a.eval (.tmp 23) = .pointer (some ⟨R.g, 3, none⟩) := (hd 9 23 (by kernel_rfl) (by kernel_rfl)).is rfl
        obtain ⟨ao3, ln, cp3, he, ho⟩ := (hd 7 21 (by kernel_rfl) (by kernel_rfl)).2.2.1 rfl
        have hc := hX.1 hDi
        exact wp_skipped (exec_store rfl e0 he (ST X _ _ _ hc)) ⟨undef, rfl, hX.store, fun j u hj h => h.store hgl (fun e => by subst e; rw [hDi] at hj; cases hj), FldR.P.last rfl ⟨by simp, by simp⟩ ⟨_, FldR.Row.store ⟨ao3, ln, cp3, rfl, by rw [← he]; exact ho⟩, S1 hc⟩⟩
    case hd =>
      intro D2 a X hAll hX hL hP hE
      obtain ⟨_, hp⟩ := hE 10 (by decide)
      rw [hFF] at hp hX
      obtain ⟨u, ⟨ao2, ln, cp2, hu0, ho⟩, hu⟩ := hp.2.2.2 rfl
      simp only at ho hu
      have hK := hX.2.2
      obtain ⟨f, ha, hf⟩ := hL.out [14, 15, 16, 17, 18, 19, 20, 21, 22, 23] rfl
      have HF := Lib.hid (And.intro ho (And.intro hu hK))
      clear hf hAll hP hX hL hE hp ho hu hu0 hK S1 hfa hls hlx BS ST HI2 HOC HM1 HM2 H0 hFF hti hz hs1 hbt hown hkg hkv hxg hcg hgl
      simp only [List.foldl_cons, List.foldl_nil, List.setIfInBounds_toArray, List.set_cons_zero, List.set_cons_succ] at ha
      subst ha
      go_wp2
      go_ret
      obtain ⟨ho, hu, hK⟩ := HF.out
      refine ⟨rfl, ?_, ?_⟩
      · exact (Keep.of_all HB.out).trans (hK.weaken (fun b _ hb => by
          rcases hb with rfl | hb
          · have h := HRD.out.g
            constructor <;> omega
          · have h : ρ b = 3 := HRD.out.k.2 _ hb
            constructor <;> omega))
      · have e : rwE (xs ++ [(lo, hi, vv)]) = rwE xs ++ [.int .i32 lo, .int .i32 hi, .int .i64 vv] := rwE_snoc _ _
        have hl : q + 1 = (xs ++ [(lo, hi, vv)]).length := by rw [List.length_append, ← HXS.out, HQL.out]; rfl
        rw [← e, hl] at ho
        have hN := HRD.out.newk hK hu ho
        rw [HXS.out]
        exact ⟨_, _, _, _, hN, fun b hb => moreR_old b (Nat.lt_of_lt_of_le hb HB.out.size), fun _ => rfl⟩
  · have b1 : ((no : Int) == 0) = false := beq_eq_false_iff_ne.2 (by omega)
    clear hown
    go_wp2_with (rw [hxb, hW1])
    go_ret
    exact ⟨rfl, Keep.of_all HB.out, ρ, S, cv, kv, HRD.out, fun _ _ => rfl, fun e => absurd e h0⟩
end Go.Proofs.YthhepebkfokddaaGreatDoor
/- What is the same of any program: an iterator that writes blocks of its own (Z: a captured variable) between rounds, and the loop over it: K8, with Z. -/
namespace Go.Kt
open Go Go.RowKit
variable {P : Program}

def LowZ {β : Type} (Z : Nat → Prop) (B : Nat) (J : β → (Nat → Prop) → World → Prop) : Prop := ∀ s Y W W', Keep (fun b => (Z b ∨ B ≤ b) ∧ ¬ Y b) W W' → J s Y W → J s Y W'
def Iter3 {α : Type} (P : Program) (gf : Nat) (lb : Array Value) (encs : α → Array Value) (L : List α) (Z Nd : Nat → Prop) (w0 : World) : Prop :=
  ∀ (l : Nat) (X : Nat → Prop) (J Jx : List α → (Nat → Prop) → World → Prop) (W : World),
    (∀ b, (Z b ∨ Nd b) → ¬ X b) → (∀ b, X b → b < W.heap.size) → (∀ b, (Z b ∨ Nd b) → W.heap[b]? = w0.heap[b]?) → w0.heap.size ≤ W.heap.size →
    LowZ Z W.heap.size J → LowZ Z W.heap.size Jx → Slim J →
    (∀ pre x Y W1, pre ++ [x] <+: L → J pre Y W1 → W.heap.size ≤ W1.heap.size → (∀ b, Y b → W.heap.size ≤ b) → YieldAt Fence.wide 0 P l (encs x) W1 fun e W' =>
      ∃ Y', Keep (fun b => X b ∨ Y b) W1 W' ∧ (∀ b, Y' b → Y b ∨ W1.heap.size ≤ b) ∧ ((e = .returned (.bool true) ∧ J (pre ++ [x]) Y' W') ∨ (e = .returned (.bool false) ∧ Jx (pre ++ [x]) Y' W'))) →
    J [] (fun _ => False) W →
    Calls P gf (#[.func (.yield l) #[] #[]] ++ lb) W fun e W' => (∃ v, e = .returned v) ∧ Keep (fun b => X b ∨ Z b) W W' ∧ ((∃ Y, (∀ b, Y b → W.heap.size ≤ b) ∧ J L Y W') ∨ ∃ pre Y, pre <+: L ∧ (∀ b, Y b → W.heap.size ≤ b) ∧ Jx pre Y W')

def Round3 {α : Type} (P : Program) (ps : Array Tmp) (assign body : Code) (tmps : Array Value) (encs : α → Array Value) (L : List α) (X Z : Nat → Prop) (I : List α → (Nat → Prop) → World → Prop) (Ix : Code → List α → (Nat → Prop) → World → Prop) (w : World) (l : Nat) : Prop :=
  ∀ (pre : List α) (x : α) (Y : Nat → Prop) (W : World), pre ++ [x] <+: L → I pre Y W → Keep (fun b => X b ∨ Z b) w W → (∀ b, Y b → w.heap.size ≤ b ∧ b ≠ l) → l < W.heap.size → (∃ r, W.heap[l]? = some (.loop r)) →
    assign.wpIn (Fence.wide.inRound l) 0 P (Exit.then (fun a₁ w₁ => Keep (fun _ => False) W w₁ ∧
        (∀ W2, Keep (fun b => b = l) w₁ W2 → Keep (fun b => X b ∨ Z b) w W2 → I pre Y W2 → (∃ r, W2.heap[l]? = some (.loop r)) → body.wpIn (Fence.wide.inRound l) 0 P (roundEnd X Y I Ix (pre ++ [x]) W2) a₁ W2)) (fun _ _ _ => False))
      { tmps := (ps.zip (encs x)).foldl (fun t (p, v) => t.setIfInBounds p v) tmps, defers := [] } W

theorem loop_core3 {α : Type} {F : Fence} {ps : Array Tmp} {assign body : Code} {Q : Exit → Act → World → Prop} {a a' : Act} {w W1 : World}
    {gf : Nat} {lb : Array Value} {encs : α → Array Value} {L : List α} {Z Nd X : Nat → Prop} {w0 : World} (hit : Iter3 P gf lb encs L Z Nd w0)
    (hps : ∀ x, (encs x).size = ps.size) (l : Nat) (rec : LoopState → Option Code → Loop) (fn : FuncId) (D : Nat)
    (hrec : ∀ st pe, rec st pe = { state := st, pending := pe, fn, tmps := a.tmps, params := ps, assign, body, defers := D })
    (hX : ∀ b, X b → b < w.heap.size) (hNd : ∀ b, (Z b ∨ Nd b) → ¬ X b ∧ b < w.heap.size) (hNdw : ∀ b, (Z b ∨ Nd b) → w.heap[b]? = w0.heap[b]?) (hw0 : w0.heap.size ≤ w.heap.size)
    (hl : w.heap.size ≤ l) (hL1 : W1.heap[l]? = some (.loop (rec .ready none))) (hbw : Below w.heap.size w W1)
    (I : List α → (Nat → Prop) → World → Prop) (Ix : Code → List α → (Nat → Prop) → World → Prop) (hI : LowZ Z w.heap.size I) (hSI : Slim I) (hIx : ∀ c, LowZ Z w.heap.size (Ix c)) (h0 : I [] (fun _ => False) w)
    (hround : Round3 P ps assign body a.tmps encs L X Z I Ix w l)
    (hdone : ∀ Y W, I L Y W → (∀ b, Y b → W1.heap.size ≤ b) → Keep (fun b => X b ∨ Z b) w W → Keep (fun b => (X b ∨ b = l) ∨ Z b) W1 W → Q .normal a' W)
    (hstop : ∀ c pre Y W, pre <+: L → Ix c pre Y W → (∀ b, Y b → W1.heap.size ≤ b) → Keep (fun b => X b ∨ Z b) w W → Keep (fun b => (X b ∨ b = l) ∨ Z b) W1 W → c.wpIn F 0 P Q a' W) :
    Calls P gf (#[.func (.yield l) #[] #[]] ++ lb) W1 (rangePost F 0 P l Q a') := by
  have hlt1 : l < W1.heap.size := (Array.getElem?_eq_some_iff.1 hL1).1
  have hB1 : w.heap.size ≤ W1.heap.size := hbw.size
  have hkw : Keep (fun b => X b ∨ Z b) w W1 := .of_all hbw
  -- a step that touches nothing below W1's heap's end but what is not of Y
  have low1 : ∀ {Y : Nat → Prop} {A B : World}, Keep (fun b => (Z b ∨ W1.heap.size ≤ b) ∧ ¬ Y b) A B → Keep (fun b => (Z b ∨ w.heap.size ≤ b) ∧ ¬ Y b) A B := fun h => h.weaken fun _ _ hb => ⟨hb.1.imp id (fun h => Nat.le_trans hB1 h), hb.2⟩
  have lowX : ∀ {Y : Nat → Prop} {A B : World}, Keep (fun b => (Z b ∨ W1.heap.size ≤ b) ∧ ¬ Y b) A B → Keep (fun b => X b ∨ Z b) w A → Keep (fun b => X b ∨ Z b) w B := fun h k =>
    ⟨h.os.trans k.os, h.tape.trans k.tape, h.output.trans k.output, Nat.le_trans k.size h.size, fun b hb hx => (h.same b (Nat.lt_of_lt_of_le hb k.size) (fun hy => by rcases hy.1 with h | h; exact hx (.inr h); omega)).trans (k.same b hb hx)⟩
  have lowl : ∀ {Y : Nat → Prop} {A B : World} {o : Obj}, Keep (fun b => (Z b ∨ W1.heap.size ≤ b) ∧ ¬ Y b) A B → A.heap[l]? = some o → B.heap[l]? = some o := fun h ho => h.heap ho (fun hy => by rcases hy.1 with h | h; have := (hNd l (.inl h)).2; omega; omega)
  -- the law's own turn of its record
  have turn : ∀ {Y : Nat → Prop} (W : World) (o : Obj), (∀ b, Y b → W1.heap.size ≤ b) → Keep (fun b => (Z b ∨ w.heap.size ≤ b) ∧ ¬ Y b) W (W.putObj l o) := fun W o hY => (Keep.refl _ W).putObj (.inl ⟨.inr hl, fun hy => by have := hY l hy; omega⟩) o
  refine (hit l (fun b => X b ∨ b = l) (fun pre Y W => (∀ b, Y b → W1.heap.size ≤ b) ∧ I pre Y W ∧ Keep (fun b => X b ∨ Z b) w W ∧ W.heap[l]? = some (.loop (rec .ready none)))
    (fun pre Y W => (∀ b, Y b → W1.heap.size ≤ b) ∧ ∃ c, Ix c pre Y W ∧ Keep (fun b => X b ∨ Z b) w W ∧ W.heap[l]? = some (.loop (rec .done (some c)))) W1
    (fun b hb => by have := hNd b hb; rintro (h | h); exact this.1 h; omega)
    (fun b hb => by rcases hb with hb | hb; have := hX b hb; omega; omega)
    (fun b hb => (hbw.block b (hNd b hb).2).trans (hNdw b hb)) (by omega)
    (fun s Y A B hb ⟨hY, h1, h2, h3⟩ => ⟨hY, hI s Y A B (low1 hb) h1, lowX hb h2, lowl hb h3⟩)
    (fun s Y A B hb ⟨hY, c, h1, h2, h3⟩ => ⟨hY, c, hIx c s Y A B (low1 hb) h1, lowX hb h2, lowl hb h3⟩)
    (fun s Y A ⟨hY, h1, h2, h3⟩ => ⟨fun b hb => hY b hb.1, hSI s Y A h1, h2, h3⟩)
    ?_ ⟨fun _ h => h.elim, hI _ _ _ _ (.of_all hbw) h0, hkw, hL1⟩).mono ?_
  · rintro pre x Y W hpre ⟨hY, hi, hk, hl3⟩ hsz _
    have hlt : l < W.heap.size := (Array.getElem?_eq_some_iff.1 hl3).1
    have hYl : ∀ b, Y b → w.heap.size ≤ b ∧ b ≠ l := fun b hb => by have := hY b hb; omega
    have hy := run_yield (P := P) (args := encs x) hl3 (by rw [hrec]; exact hps x)
    rw [hrec] at hy
    refine ⟨fn, _, assign, body, hy, roundIn_of_wpIn trivial (wpIn_mono (hround pre x Y W hpre hi hk hYl hlt ⟨_, hl3⟩) ?_)⟩
    intro e a₁ w₁ h
    cases e with
    | normal =>
      obtain ⟨hk1, hb1⟩ := h
      have hl4 : w₁.heap[l]? = some (.loop (rec .ready none)) := hk1.heap hl3 (fun hx => hx)
      refine ⟨_, run_beginRound hl4 (by rw [hrec]), ?_⟩
      have hlt4 : l < w₁.heap.size := (Array.getElem?_eq_some_iff.1 hl4).1
      have hi1 : I pre Y w₁ := hI _ _ _ _ (hk1.weaken (fun _ _ h => h.elim)) hi
      have hi2 := hI _ _ _ _ (turn (Y := Y) w₁ (.loop { rec .ready none with state := .busy }) hY) hi1
      have hkw1 : Keep (fun b => X b ∨ Z b) w (w₁.putObj l (.loop { rec .ready none with state := .busy })) := (hk.trans (hk1.weaken fun _ _ h => h.elim)).putObj (.inr hl) _
      have hl5 : (w₁.putObj l (.loop { rec .ready none with state := .busy })).heap[l]? = some (.loop { rec .ready none with state := .busy }) := World.putObj_heap_same hlt4
      refine wpIn_mono (hb1 _ ((Keep.refl (fun b => b = l) w₁).putObj (.inl rfl) _) hkw1 hi2 ⟨_, hl5⟩) ?_
      have hX2 : Keep (fun b => (X b ∨ b = l) ∨ Y b) W (w₁.putObj l (.loop { rec .ready none with state := .busy })) := (hk1.weaken (fun _ _ h => h.elim)).putObj (.inl (.inl (.inr rfl))) _
      have hsz2 : W.heap.size ≤ (w₁.putObj l (.loop { rec .ready none with state := .busy })).heap.size := hX2.size
      have fin : ∀ (jump : Option Code) (W3 : World) (I' : List α → (Nat → Prop) → World → Prop), LowZ Z w.heap.size I' → Left X Y I' (pre ++ [x]) (w₁.putObj l (.loop { rec .ready none with state := .busy })) W3 →
          (Instr.endRound l jump).run P W3 = .ok (.bool jump.isNone) (W3.putObj l (.loop (rec (if jump.isNone then .ready else .done) jump))) ∧
          (W3.putObj l (.loop (rec (if jump.isNone then .ready else .done) jump))).heap[l]? = some (.loop (rec (if jump.isNone then .ready else .done) jump)) ∧
          ∃ Y', (∀ b, Y' b → W1.heap.size ≤ b) ∧ (∀ b, Y' b → Y b ∨ W.heap.size ≤ b) ∧ I' (pre ++ [x]) Y' (W3.putObj l (.loop (rec (if jump.isNone then .ready else .done) jump))) ∧
          Keep (fun b => X b ∨ Z b) w (W3.putObj l (.loop (rec (if jump.isNone then .ready else .done) jump))) ∧
          Keep (fun b => (X b ∨ b = l) ∨ Y b) W (W3.putObj l (.loop (rec (if jump.isNone then .ready else .done) jump))) := fun jump W3 I' hI' ⟨Y', hk3, hY', hi3⟩ => by
        have hl6 := hk3.heap hl5 (fun hx => by rcases hx with hx | hx; have := hX l hx; omega; have := hY l hx; omega)
        have hr := run_endRound (P := P) jump hl6
        have er : ({ ({ rec .ready none with state := .busy } : Loop) with state := if jump.isNone then .ready else .done, pending := jump } : Loop) = rec (if jump.isNone then .ready else .done) jump := by
          rw [hrec, hrec]
        rw [er] at hr
        have hY1 : ∀ b, Y' b → W1.heap.size ≤ b := fun b hb => by rcases hY' b hb with h | h; exact hY b h; omega
        refine ⟨hr, World.putObj_heap_same (Array.getElem?_eq_some_iff.1 hl6).1, Y', hY1, fun b hb => by rcases hY' b hb with h | h; exact .inl h; exact .inr (by omega), hI' _ _ _ _ (turn W3 _ hY1) hi3, ?_, ?_⟩
        · refine Keep.putObj ?_ (.inr hl) _
          exact ⟨hk3.os.trans hkw1.os, hk3.tape.trans hkw1.tape, hk3.output.trans hkw1.output, Nat.le_trans hkw1.size hk3.size, fun b hb hx => (hk3.same b (Nat.lt_of_lt_of_le hb hkw1.size) (fun h => by rcases h with h | h; exact hx (.inl h); have := hY b h; omega)).trans (hkw1.same b hb hx)⟩
        · exact (hX2.trans (hk3.weaken (fun _ _ h => by rcases h with h | h; exact .inl (.inl h); exact .inr h))).putObj (.inl (.inl (.inr rfl))) _
      rintro e a3 W3 hp
      cases e with
      | normal =>
        obtain ⟨hr, hl7, Y', q1, q2, q3, q4, q5⟩ := fin none W3 I hI hp
        exact ⟨_, _, hr, Y', q5, q2, .inl ⟨rfl, q1, q3, q4, hl7⟩⟩
      | ret =>
        obtain ⟨hr, hl7, Y', q1, q2, q3, q4, q5⟩ := fin (some .ret) W3 _ (hIx _) hp
        exact ⟨_, _, hr, Y', q5, q2, .inr ⟨rfl, q1, .ret, q3, q4, hl7⟩⟩
      | exit id =>
        obtain ⟨hr, hl7, Y', q1, q2, q3, q4, q5⟩ := fin (some (.exit id)) W3 _ (hIx _) hp
        exact ⟨_, _, hr, Y', q5, q2, .inr ⟨rfl, q1, .exit id, q3, q4, hl7⟩⟩
      | goto t =>
        obtain ⟨hr, hl7, Y', q1, q2, q3, q4, q5⟩ := fin (some (.goto t)) W3 _ (hIx _) hp
        exact ⟨_, _, hr, Y', q5, q2, .inr ⟨rfl, q1, .goto t, q3, q4, hl7⟩⟩
      | panic ch => exact hp.elim
      | outgrown => exact hp.elim
    | ret => exact h.elim
    | exit id => exact h.elim
    | goto t => exact h.elim
    | panic ch => exact h.elim
    | outgrown => exact h.elim
  · rintro e W2 ⟨⟨v, rfl⟩, hk2, (⟨Y, _, hY, hi, hk, hl2⟩ | ⟨pre, Y, hpre, _, hY, c, hi, hk, hl2⟩)⟩
    · have hr := run_endLoop (P := P) hl2 (by rw [hrec]; simp)
      have e1 : (rec .ready none).pending = none := by rw [hrec]
      rw [e1] at hr
      exact ⟨none, _, hr, hdone Y _ (hI _ _ _ _ (turn W2 _ hY) hi) hY (hk.putObj (.inr hl) _) (hk2.putObj (.inl (.inl (.inr rfl))) _)⟩
    · have hr := run_endLoop (P := P) hl2 (by rw [hrec]; simp)
      have e1 : (rec .done (some c)).pending = some c := by rw [hrec]
      rw [e1] at hr
      exact ⟨some c, _, hr, hstop c pre Y _ hpre (hIx c _ _ _ _ (turn W2 _ hY) hi) hY (hk.putObj (.inr hl) _) (hk2.putObj (.inl (.inl (.inr rfl))) _)⟩

theorem loop_out3 {α : Type} {g : Operand} {ps : Array Tmp} {assign body : Code} {Q : Exit → Act → World → Prop} {a : Act} {w : World}
    {gf : Nat} {lb : Array Value} (hg : a.eval g = .func (.func gf) #[] lb) (eg : ∀ args w, (callFunc gf args).run P w = .ok (.enter gf args) w)
    {encs : α → Array Value} {L : List α} {Z Nd X : Nat → Prop} {w0 : World} (hit : Iter3 P gf lb encs L Z Nd w0) (hps : ∀ x, (encs x).size = ps.size)
    (hX : ∀ b, X b → b < w.heap.size) (hNd : ∀ b, (Z b ∨ Nd b) → ¬ X b ∧ b < w.heap.size) (hNdw : ∀ b, (Z b ∨ Nd b) → w.heap[b]? = w0.heap[b]?) (hw0 : w0.heap.size ≤ w.heap.size)
    (I : List α → (Nat → Prop) → World → Prop) (Ix : Code → List α → (Nat → Prop) → World → Prop) (hI : LowZ Z w.heap.size I) (hSI : Slim I) (hIx : ∀ c, LowZ Z w.heap.size (Ix c)) (h0 : I [] (fun _ => False) w)
    (hround : ∀ l, w.heap.size ≤ l → Round3 P ps assign body a.tmps encs L X Z I Ix w l)
    (hdone : ∀ D Y W, w.heap.size ≤ D → W.heap[D]? = some (.deferred (some [])) → I L Y W → (∀ b, Y b → w.heap.size ≤ b ∧ b ≠ D) → Keep (fun b => X b ∨ Z b) w W → Q .normal { a with defers := { target := .collected D, args := #[] } :: a.defers } W)
    (hstop : ∀ D c pre Y W, w.heap.size ≤ D → W.heap[D]? = some (.deferred (some [])) → pre <+: L → Ix c pre Y W → (∀ b, Y b → w.heap.size ≤ b ∧ b ≠ D) → Keep (fun b => X b ∨ Z b) w W → c.wpIn Fence.wide 0 P Q { a with defers := { target := .collected D, args := #[] } :: a.defers } W) :
    (Code.rangeFunc g ps assign body).wpIn Fence.wide 0 P Q a w := by
  refine wpIn_rangeFunc ?_
  intro fn _
  obtain ⟨rec, hrec⟩ : ∃ rec : LoopState → Option Code → Loop, rec = fun st pe => { state := st, pending := pe, fn, tmps := a.tmps, params := ps, assign, body, defers := w.heap.size } := ⟨_, rfl⟩
  obtain ⟨W1, hW1⟩ : ∃ W1, (w.alloc (.deferred (some []))).alloc (.loop (rec .ready none)) = W1 := ⟨_, rfl⟩
  have hL1 : W1.heap[w.heap.size + 1]? = some (.loop (rec .ready none)) := by
    rw [← hW1]; have := World.alloc_heap_new (w.alloc (.deferred (some []))) (.loop (rec .ready none)); rwa [World.size_alloc] at this
  have hD1 : W1.heap[w.heap.size]? = some (.deferred (some [])) := by
    rw [← hW1]; exact (Below.heap_alloc _ _ _ (by simp)).trans (World.alloc_heap_new w _)
  have hbw : Below w.heap.size w W1 := by
    rw [← hW1]; exact ((Below.refl _ w).alloc (Nat.le_refl _) _).alloc (by simp) _
  have hltD : w.heap.size < W1.heap.size := (Array.getElem?_eq_some_iff.1 hD1).1
  have hD : ∀ W, Keep (fun b => (X b ∨ b = w.heap.size + 1) ∨ Z b) W1 W → W.heap[w.heap.size]? = some (.deferred (some [])) := fun W hk =>
    hk.heap hD1 (fun h => by rcases h with (h | h) | h; have := hX _ h; omega; omega; have := (hNd _ (.inl h)).2; omega)
  refine ⟨w.heap.size + 1, [{ target := .collected w.heap.size, args := #[] }], W1, { target := .fn (.func gf) lb, args := #[.func (.yield (w.heap.size + 1)) #[] #[]] }, W1, gf,
    #[.func (.yield (w.heap.size + 1)) #[] #[]] ++ lb, W1, ?_, ?_, ?_, ?_, (fun h => by cases h), ?_⟩
  · rw [← hW1, hrec]; exact run_enterLoop_outer _ _ _ _ _
  · simp only [resolve, hg]
    simp [go_sem]
  · intro _ _; trivial
  · simp [invoke, go_sem, eg]
  · exact callsIn_wide.2 (loop_core3 hit hps (w.heap.size + 1) rec fn w.heap.size (by intro st pe; rw [hrec]) hX hNd hNdw hw0 (by omega) hL1 hbw I Ix hI hSI hIx h0
      (hround _ (by omega))
      (fun Y W hi hY hk hk1 => hdone _ Y W (Nat.le_refl _) (hD W hk1) hi (fun b hb => by have := hY b hb; omega) hk)
      (fun c pre Y W hp hi hY hk hk1 => hstop _ c pre Y W (Nat.le_refl _) (hD W hk1) hp hi (fun b hb => by have := hY b hb; omega) hk))
end Go.Kt
/- What is the same of any program: an iterator that hands out some list of which is told what its beginnings are (Ok) and what it is whole (Fin): K24 so. -/
namespace Go.Kt
open Go Go.RowKit
variable {P : Program}

def Iter5 {α : Type} (P : Program) (gf : Nat) (lb : Array Value) (encs : α → Array Value) (Ok Fin : List α → Prop) (Z Nd : Nat → Prop) (w0 : World) : Prop :=
  ∀ (l : Nat) (X : Nat → Prop) (J Jx : List α → (Nat → Prop) → World → Prop) (W : World),
    (∀ b, (Z b ∨ Nd b) → ¬ X b) → (∀ b, X b → b < W.heap.size) → (∀ b, (Z b ∨ Nd b) → W.heap[b]? = w0.heap[b]?) → w0.heap.size ≤ W.heap.size →
    LowZ Z W.heap.size J → LowZ Z W.heap.size Jx → Slim J →
    (∀ pre x Y W1, Ok (pre ++ [x]) → J pre Y W1 → W.heap.size ≤ W1.heap.size → (∀ b, Y b → W.heap.size ≤ b) → YieldAt Fence.wide 0 P l (encs x) W1 fun e W' =>
      ∃ Y', Keep (fun b => X b ∨ Y b) W1 W' ∧ (∀ b, Y' b → Y b ∨ W1.heap.size ≤ b) ∧ ((e = .returned (.bool true) ∧ J (pre ++ [x]) Y' W') ∨ (e = .returned (.bool false) ∧ Jx (pre ++ [x]) Y' W'))) →
    J [] (fun _ => False) W →
    Calls P gf (#[.func (.yield l) #[] #[]] ++ lb) W fun e W' => (∃ v, e = .returned v) ∧ Keep (fun b => X b ∨ Z b) W W' ∧ ((∃ L Y, Fin L ∧ (∀ b, Y b → W.heap.size ≤ b) ∧ J L Y W') ∨ ∃ pre Y, Ok pre ∧ (∀ b, Y b → W.heap.size ≤ b) ∧ Jx pre Y W')

def Round5 {α : Type} (P : Program) (ps : Array Tmp) (assign body : Code) (tmps : Array Value) (encs : α → Array Value) (Ok : List α → Prop) (X Z : Nat → Prop) (I : List α → (Nat → Prop) → World → Prop) (Ix : Code → List α → (Nat → Prop) → World → Prop) (w : World) (l : Nat) : Prop :=
  ∀ (pre : List α) (x : α) (Y : Nat → Prop) (W : World), Ok (pre ++ [x]) → I pre Y W → Keep (fun b => X b ∨ Z b) w W → (∀ b, Y b → w.heap.size ≤ b ∧ b ≠ l) → l < W.heap.size → (∃ r, W.heap[l]? = some (.loop r)) →
    assign.wpIn (Fence.wide.inRound l) 0 P (Exit.then (fun a₁ w₁ => Keep (fun _ => False) W w₁ ∧
        (∀ W2, Keep (fun b => b = l) w₁ W2 → Keep (fun b => X b ∨ Z b) w W2 → I pre Y W2 → (∃ r, W2.heap[l]? = some (.loop r)) → body.wpIn (Fence.wide.inRound l) 0 P (roundEnd X Y I Ix (pre ++ [x]) W2) a₁ W2)) (fun _ _ _ => False))
      { tmps := (ps.zip (encs x)).foldl (fun t (p, v) => t.setIfInBounds p v) tmps, defers := [] } W

theorem loop_core5 {α : Type} {F : Fence} {ps : Array Tmp} {assign body : Code} {Q : Exit → Act → World → Prop} {a a' : Act} {w W1 : World}
    {gf : Nat} {lb : Array Value} {encs : α → Array Value} {Ok Fin : List α → Prop} {Z Nd X : Nat → Prop} {w0 : World} (hit : Iter5 P gf lb encs Ok Fin Z Nd w0)
    (hps : ∀ x, (encs x).size = ps.size) (l : Nat) (rec : LoopState → Option Code → Loop) (fn : FuncId) (D : Nat)
    (hrec : ∀ st pe, rec st pe = { state := st, pending := pe, fn, tmps := a.tmps, params := ps, assign, body, defers := D })
    (hX : ∀ b, X b → b < w.heap.size) (hNd : ∀ b, (Z b ∨ Nd b) → ¬ X b ∧ b < w.heap.size) (hNdw : ∀ b, (Z b ∨ Nd b) → w.heap[b]? = w0.heap[b]?) (hw0 : w0.heap.size ≤ w.heap.size)
    (hl : w.heap.size ≤ l) (hL1 : W1.heap[l]? = some (.loop (rec .ready none))) (hbw : Below w.heap.size w W1)
    (I : List α → (Nat → Prop) → World → Prop) (Ix : Code → List α → (Nat → Prop) → World → Prop) (hI : LowZ Z w.heap.size I) (hSI : Slim I) (hIx : ∀ c, LowZ Z w.heap.size (Ix c)) (h0 : I [] (fun _ => False) w)
    (hround : Round5 P ps assign body a.tmps encs Ok X Z I Ix w l)
    (hdone : ∀ L Y W, Fin L → I L Y W → (∀ b, Y b → W1.heap.size ≤ b) → Keep (fun b => X b ∨ Z b) w W → Keep (fun b => (X b ∨ b = l) ∨ Z b) W1 W → Q .normal a' W)
    (hstop : ∀ c pre Y W, Ok pre → Ix c pre Y W → (∀ b, Y b → W1.heap.size ≤ b) → Keep (fun b => X b ∨ Z b) w W → Keep (fun b => (X b ∨ b = l) ∨ Z b) W1 W → c.wpIn F 0 P Q a' W) :
    Calls P gf (#[.func (.yield l) #[] #[]] ++ lb) W1 (rangePost F 0 P l Q a') := by
  have hlt1 : l < W1.heap.size := (Array.getElem?_eq_some_iff.1 hL1).1
  have hB1 : w.heap.size ≤ W1.heap.size := hbw.size
  have hkw : Keep (fun b => X b ∨ Z b) w W1 := .of_all hbw
  -- a step that touches nothing below W1's heap's end but what is not of Y
  have low1 : ∀ {Y : Nat → Prop} {A B : World}, Keep (fun b => (Z b ∨ W1.heap.size ≤ b) ∧ ¬ Y b) A B → Keep (fun b => (Z b ∨ w.heap.size ≤ b) ∧ ¬ Y b) A B := fun h => h.weaken fun _ _ hb => ⟨hb.1.imp id (fun h => Nat.le_trans hB1 h), hb.2⟩
  have lowX : ∀ {Y : Nat → Prop} {A B : World}, Keep (fun b => (Z b ∨ W1.heap.size ≤ b) ∧ ¬ Y b) A B → Keep (fun b => X b ∨ Z b) w A → Keep (fun b => X b ∨ Z b) w B := fun h k =>
    ⟨h.os.trans k.os, h.tape.trans k.tape, h.output.trans k.output, Nat.le_trans k.size h.size, fun b hb hx => (h.same b (Nat.lt_of_lt_of_le hb k.size) (fun hy => by rcases hy.1 with h | h; exact hx (.inr h); omega)).trans (k.same b hb hx)⟩
  have lowl : ∀ {Y : Nat → Prop} {A B : World} {o : Obj}, Keep (fun b => (Z b ∨ W1.heap.size ≤ b) ∧ ¬ Y b) A B → A.heap[l]? = some o → B.heap[l]? = some o := fun h ho => h.heap ho (fun hy => by rcases hy.1 with h | h; have := (hNd l (.inl h)).2; omega; omega)
  -- the law's own turn of its record
  have turn : ∀ {Y : Nat → Prop} (W : World) (o : Obj), (∀ b, Y b → W1.heap.size ≤ b) → Keep (fun b => (Z b ∨ w.heap.size ≤ b) ∧ ¬ Y b) W (W.putObj l o) := fun W o hY => (Keep.refl _ W).putObj (.inl ⟨.inr hl, fun hy => by have := hY l hy; omega⟩) o
  refine (hit l (fun b => X b ∨ b = l) (fun pre Y W => (∀ b, Y b → W1.heap.size ≤ b) ∧ I pre Y W ∧ Keep (fun b => X b ∨ Z b) w W ∧ W.heap[l]? = some (.loop (rec .ready none)))
    (fun pre Y W => (∀ b, Y b → W1.heap.size ≤ b) ∧ ∃ c, Ix c pre Y W ∧ Keep (fun b => X b ∨ Z b) w W ∧ W.heap[l]? = some (.loop (rec .done (some c)))) W1
    (fun b hb => by have := hNd b hb; rintro (h | h); exact this.1 h; omega)
    (fun b hb => by rcases hb with hb | hb; have := hX b hb; omega; omega)
    (fun b hb => (hbw.block b (hNd b hb).2).trans (hNdw b hb)) (by omega)
    (fun s Y A B hb ⟨hY, h1, h2, h3⟩ => ⟨hY, hI s Y A B (low1 hb) h1, lowX hb h2, lowl hb h3⟩)
    (fun s Y A B hb ⟨hY, c, h1, h2, h3⟩ => ⟨hY, c, hIx c s Y A B (low1 hb) h1, lowX hb h2, lowl hb h3⟩)
    (fun s Y A ⟨hY, h1, h2, h3⟩ => ⟨fun b hb => hY b hb.1, hSI s Y A h1, h2, h3⟩)
    ?_ ⟨fun _ h => h.elim, hI _ _ _ _ (.of_all hbw) h0, hkw, hL1⟩).mono ?_
  · rintro pre x Y W hpre ⟨hY, hi, hk, hl3⟩ hsz _
    have hlt : l < W.heap.size := (Array.getElem?_eq_some_iff.1 hl3).1
    have hYl : ∀ b, Y b → w.heap.size ≤ b ∧ b ≠ l := fun b hb => by have := hY b hb; omega
    have hy := run_yield (P := P) (args := encs x) hl3 (by rw [hrec]; exact hps x)
    rw [hrec] at hy
    refine ⟨fn, _, assign, body, hy, roundIn_of_wpIn trivial (wpIn_mono (hround pre x Y W hpre hi hk hYl hlt ⟨_, hl3⟩) ?_)⟩
    intro e a₁ w₁ h
    cases e with
    | normal =>
      obtain ⟨hk1, hb1⟩ := h
      have hl4 : w₁.heap[l]? = some (.loop (rec .ready none)) := hk1.heap hl3 (fun hx => hx)
      refine ⟨_, run_beginRound hl4 (by rw [hrec]), ?_⟩
      have hlt4 : l < w₁.heap.size := (Array.getElem?_eq_some_iff.1 hl4).1
      have hi1 : I pre Y w₁ := hI _ _ _ _ (hk1.weaken (fun _ _ h => h.elim)) hi
      have hi2 := hI _ _ _ _ (turn (Y := Y) w₁ (.loop { rec .ready none with state := .busy }) hY) hi1
      have hkw1 : Keep (fun b => X b ∨ Z b) w (w₁.putObj l (.loop { rec .ready none with state := .busy })) := (hk.trans (hk1.weaken fun _ _ h => h.elim)).putObj (.inr hl) _
      have hl5 : (w₁.putObj l (.loop { rec .ready none with state := .busy })).heap[l]? = some (.loop { rec .ready none with state := .busy }) := World.putObj_heap_same hlt4
      refine wpIn_mono (hb1 _ ((Keep.refl (fun b => b = l) w₁).putObj (.inl rfl) _) hkw1 hi2 ⟨_, hl5⟩) ?_
      have hX2 : Keep (fun b => (X b ∨ b = l) ∨ Y b) W (w₁.putObj l (.loop { rec .ready none with state := .busy })) := (hk1.weaken (fun _ _ h => h.elim)).putObj (.inl (.inl (.inr rfl))) _
      have hsz2 : W.heap.size ≤ (w₁.putObj l (.loop { rec .ready none with state := .busy })).heap.size := hX2.size
      have fin : ∀ (jump : Option Code) (W3 : World) (I' : List α → (Nat → Prop) → World → Prop), LowZ Z w.heap.size I' → Left X Y I' (pre ++ [x]) (w₁.putObj l (.loop { rec .ready none with state := .busy })) W3 →
          (Instr.endRound l jump).run P W3 = .ok (.bool jump.isNone) (W3.putObj l (.loop (rec (if jump.isNone then .ready else .done) jump))) ∧
          (W3.putObj l (.loop (rec (if jump.isNone then .ready else .done) jump))).heap[l]? = some (.loop (rec (if jump.isNone then .ready else .done) jump)) ∧
          ∃ Y', (∀ b, Y' b → W1.heap.size ≤ b) ∧ (∀ b, Y' b → Y b ∨ W.heap.size ≤ b) ∧ I' (pre ++ [x]) Y' (W3.putObj l (.loop (rec (if jump.isNone then .ready else .done) jump))) ∧
          Keep (fun b => X b ∨ Z b) w (W3.putObj l (.loop (rec (if jump.isNone then .ready else .done) jump))) ∧
          Keep (fun b => (X b ∨ b = l) ∨ Y b) W (W3.putObj l (.loop (rec (if jump.isNone then .ready else .done) jump))) := fun jump W3 I' hI' ⟨Y', hk3, hY', hi3⟩ => by
        have hl6 := hk3.heap hl5 (fun hx => by rcases hx with hx | hx; have := hX l hx; omega; have := hY l hx; omega)
        have hr := run_endRound (P := P) jump hl6
        have er : ({ ({ rec .ready none with state := .busy } : Loop) with state := if jump.isNone then .ready else .done, pending := jump } : Loop) = rec (if jump.isNone then .ready else .done) jump := by
          rw [hrec, hrec]
        rw [er] at hr
        have hY1 : ∀ b, Y' b → W1.heap.size ≤ b := fun b hb => by rcases hY' b hb with h | h; exact hY b h; omega
        refine ⟨hr, World.putObj_heap_same (Array.getElem?_eq_some_iff.1 hl6).1, Y', hY1, fun b hb => by rcases hY' b hb with h | h; exact .inl h; exact .inr (by omega), hI' _ _ _ _ (turn W3 _ hY1) hi3, ?_, ?_⟩
        · refine Keep.putObj ?_ (.inr hl) _
          exact ⟨hk3.os.trans hkw1.os, hk3.tape.trans hkw1.tape, hk3.output.trans hkw1.output, Nat.le_trans hkw1.size hk3.size, fun b hb hx => (hk3.same b (Nat.lt_of_lt_of_le hb hkw1.size) (fun h => by rcases h with h | h; exact hx (.inl h); have := hY b h; omega)).trans (hkw1.same b hb hx)⟩
        · exact (hX2.trans (hk3.weaken (fun _ _ h => by rcases h with h | h; exact .inl (.inl h); exact .inr h))).putObj (.inl (.inl (.inr rfl))) _
      rintro e a3 W3 hp
      cases e with
      | normal =>
        obtain ⟨hr, hl7, Y', q1, q2, q3, q4, q5⟩ := fin none W3 I hI hp
        exact ⟨_, _, hr, Y', q5, q2, .inl ⟨rfl, q1, q3, q4, hl7⟩⟩
      | ret =>
        obtain ⟨hr, hl7, Y', q1, q2, q3, q4, q5⟩ := fin (some .ret) W3 _ (hIx _) hp
        exact ⟨_, _, hr, Y', q5, q2, .inr ⟨rfl, q1, .ret, q3, q4, hl7⟩⟩
      | exit id =>
        obtain ⟨hr, hl7, Y', q1, q2, q3, q4, q5⟩ := fin (some (.exit id)) W3 _ (hIx _) hp
        exact ⟨_, _, hr, Y', q5, q2, .inr ⟨rfl, q1, .exit id, q3, q4, hl7⟩⟩
      | goto t =>
        obtain ⟨hr, hl7, Y', q1, q2, q3, q4, q5⟩ := fin (some (.goto t)) W3 _ (hIx _) hp
        exact ⟨_, _, hr, Y', q5, q2, .inr ⟨rfl, q1, .goto t, q3, q4, hl7⟩⟩
      | panic ch => exact hp.elim
      | outgrown => exact hp.elim
    | ret => exact h.elim
    | exit id => exact h.elim
    | goto t => exact h.elim
    | panic ch => exact h.elim
    | outgrown => exact h.elim
  · rintro e W2 ⟨⟨v, rfl⟩, hk2, (⟨L, Y, hFin, _, hY, hi, hk, hl2⟩ | ⟨pre, Y, hpre, _, hY, c, hi, hk, hl2⟩)⟩
    · have hr := run_endLoop (P := P) hl2 (by rw [hrec]; simp)
      have e1 : (rec .ready none).pending = none := by rw [hrec]
      rw [e1] at hr
      exact ⟨none, _, hr, hdone L Y _ hFin (hI _ _ _ _ (turn W2 _ hY) hi) hY (hk.putObj (.inr hl) _) (hk2.putObj (.inl (.inl (.inr rfl))) _)⟩
    · have hr := run_endLoop (P := P) hl2 (by rw [hrec]; simp)
      have e1 : (rec .done (some c)).pending = some c := by rw [hrec]
      rw [e1] at hr
      exact ⟨some c, _, hr, hstop c pre Y _ hpre (hIx c _ _ _ _ (turn W2 _ hY) hi) hY (hk.putObj (.inr hl) _) (hk2.putObj (.inl (.inl (.inr rfl))) _)⟩

theorem loop_out5 {α : Type} {g : Operand} {ps : Array Tmp} {assign body : Code} {Q : Exit → Act → World → Prop} {a : Act} {w : World}
    {gf : Nat} {lb : Array Value} (hg : a.eval g = .func (.func gf) #[] lb) (eg : ∀ args w, (callFunc gf args).run P w = .ok (.enter gf args) w)
    {encs : α → Array Value} {Ok Fin : List α → Prop} {Z Nd X : Nat → Prop} {w0 : World} (hit : Iter5 P gf lb encs Ok Fin Z Nd w0) (hps : ∀ x, (encs x).size = ps.size)
    (hX : ∀ b, X b → b < w.heap.size) (hNd : ∀ b, (Z b ∨ Nd b) → ¬ X b ∧ b < w.heap.size) (hNdw : ∀ b, (Z b ∨ Nd b) → w.heap[b]? = w0.heap[b]?) (hw0 : w0.heap.size ≤ w.heap.size)
    (I : List α → (Nat → Prop) → World → Prop) (Ix : Code → List α → (Nat → Prop) → World → Prop) (hI : LowZ Z w.heap.size I) (hSI : Slim I) (hIx : ∀ c, LowZ Z w.heap.size (Ix c)) (h0 : I [] (fun _ => False) w)
    (hround : ∀ l, w.heap.size ≤ l → Round5 P ps assign body a.tmps encs Ok X Z I Ix w l)
    (hdone : ∀ D L Y W, Fin L → w.heap.size ≤ D → W.heap[D]? = some (.deferred (some [])) → I L Y W → (∀ b, Y b → w.heap.size ≤ b ∧ b ≠ D) → Keep (fun b => X b ∨ Z b) w W → Q .normal { a with defers := { target := .collected D, args := #[] } :: a.defers } W)
    (hstop : ∀ D c pre Y W, w.heap.size ≤ D → W.heap[D]? = some (.deferred (some [])) → Ok pre → Ix c pre Y W → (∀ b, Y b → w.heap.size ≤ b ∧ b ≠ D) → Keep (fun b => X b ∨ Z b) w W → c.wpIn Fence.wide 0 P Q { a with defers := { target := .collected D, args := #[] } :: a.defers } W) :
    (Code.rangeFunc g ps assign body).wpIn Fence.wide 0 P Q a w := by
  refine wpIn_rangeFunc ?_
  intro fn _
  obtain ⟨rec, hrec⟩ : ∃ rec : LoopState → Option Code → Loop, rec = fun st pe => { state := st, pending := pe, fn, tmps := a.tmps, params := ps, assign, body, defers := w.heap.size } := ⟨_, rfl⟩
  obtain ⟨W1, hW1⟩ : ∃ W1, (w.alloc (.deferred (some []))).alloc (.loop (rec .ready none)) = W1 := ⟨_, rfl⟩
  have hL1 : W1.heap[w.heap.size + 1]? = some (.loop (rec .ready none)) := by
    rw [← hW1]; have := World.alloc_heap_new (w.alloc (.deferred (some []))) (.loop (rec .ready none)); rwa [World.size_alloc] at this
  have hD1 : W1.heap[w.heap.size]? = some (.deferred (some [])) := by
    rw [← hW1]; exact (Below.heap_alloc _ _ _ (by simp)).trans (World.alloc_heap_new w _)
  have hbw : Below w.heap.size w W1 := by
    rw [← hW1]; exact ((Below.refl _ w).alloc (Nat.le_refl _) _).alloc (by simp) _
  have hltD : w.heap.size < W1.heap.size := (Array.getElem?_eq_some_iff.1 hD1).1
  have hD : ∀ W, Keep (fun b => (X b ∨ b = w.heap.size + 1) ∨ Z b) W1 W → W.heap[w.heap.size]? = some (.deferred (some [])) := fun W hk =>
    hk.heap hD1 (fun h => by rcases h with (h | h) | h; have := hX _ h; omega; omega; have := (hNd _ (.inl h)).2; omega)
  refine ⟨w.heap.size + 1, [{ target := .collected w.heap.size, args := #[] }], W1, { target := .fn (.func gf) lb, args := #[.func (.yield (w.heap.size + 1)) #[] #[]] }, W1, gf,
    #[.func (.yield (w.heap.size + 1)) #[] #[]] ++ lb, W1, ?_, ?_, ?_, ?_, (fun h => by cases h), ?_⟩
  · rw [← hW1, hrec]; exact run_enterLoop_outer _ _ _ _ _
  · simp only [resolve, hg]
    simp [go_sem]
  · intro _ _; trivial
  · simp [invoke, go_sem, eg]
  · exact callsIn_wide.2 (loop_core5 hit hps (w.heap.size + 1) rec fn w.heap.size (by intro st pe; rw [hrec]) hX hNd hNdw hw0 (by omega) hL1 hbw I Ix hI hSI hIx h0
      (hround _ (by omega))
      (fun L Y W hF hi hY hk hk1 => hdone _ L Y W hF (Nat.le_refl _) (hD W hk1) hi (fun b hb => by have := hY b hb; omega) hk)
      (fun c pre Y W hp hi hY hk hk1 => hstop _ c pre Y W (Nat.le_refl _) (hD W hk1) hp hi (fun b hb => by have := hY b hb; omega) hk))
end Go.Kt
