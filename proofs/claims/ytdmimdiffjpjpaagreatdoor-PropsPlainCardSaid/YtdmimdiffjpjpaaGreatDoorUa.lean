/- props: rows from behind (slices.Backward). -/
import Derived.Test.YtdmimdiffjpjpaaGreatDoorGz1
import Derived.Test.YtdmimdiffjpjpaaGreatDoorJz
import Derived.BigRegionIn
import Derived.LoopIn
import Derived.BigFrameIn
namespace Go.Proofs.YtdmimdiffjpjpaaGreatDoor
open Go Go.RowKit Go.Kt Go.Kt.Rg Go.Maps
attribute [local go_sem] Oper.semAt_some

/-- Rows from behind, with their places. -/
def backL (rows : List (Nat × Nat × Int)) : List (Nat × Nat × Nat × Int) := ((List.range rows.length).map fun i => (i, rows.getD i (0, 0, 0))).reverse
theorem backL_len (rows : List (Nat × Nat × Int)) : (backL rows).length = rows.length := by simp [backL]
theorem backL_get (rows : List (Nat × Nat × Int)) {k : Nat} (hk : k < rows.length) : (backL rows)[k]? = some (rows.length - 1 - k, rows.getD (rows.length - 1 - k) (0, 0, 0)) := by
  unfold backL
  rw [List.getElem?_reverse (by simpa using hk)]
  simp only [List.length_map, List.length_range, List.getElem?_map]
  rw [List.getElem?_range (by omega)]
  rfl
def encB (x : Nat × Nat × Nat × Int) : Array Value := #[.int .i64 x.1, .agg #[.int .i32 x.2.1, .int .i32 x.2.2.1, .int .i64 x.2.2.2]]

theorem pback_call (g n cp : Nat) (w : World) :
    Calls Tryz.prog 128 #[.slice (some ⟨g, 0, none⟩) n cp] w fun e w' => e = .returned (.func (.func 171) #[] #[.pointer (some ⟨w.heap.size, 0, none⟩)]) ∧ w.alloc (.cells #[.slice (some ⟨g, 0, none⟩) n cp] 55) = w' := by
  go_enter Tryz.func128, Tryz.ntmps128
  go_wp2
  go_ret
  exact ⟨rfl, rfl⟩
theorem enters_back : ∀ args w, (callFunc 171 args).run Tryz.prog w = .ok (.enter 171 args) w := enters_of Tryz.func171 (by kernel_rfl) rfl

set_option maxRecDepth 100000 in
set_option maxHeartbeats 4000000 in
theorem pback_iter (rows : List (Nat × Nat × Int)) (n g cp bs : Nat) (w0 : World) (hn : rows.length = n) (hbs : w0.cell? ⟨bs, 0, none⟩ = some (.slice (some ⟨g, 0, none⟩) n cp)) (hn2 : n ≤ 1073741824)
    (hc : ∀ (i : Nat) (r : Nat × Nat × Int), rows[i]? = some r → w0.cell? ⟨g, i * 3, none⟩ = some (.int .i32 r.1) ∧ w0.cell? ⟨g, i * 3 + 1, none⟩ = some (.int .i32 r.2.1) ∧ w0.cell? ⟨g, i * 3 + 2, none⟩ = some (.int .i64 r.2.2)) :
    Iter2 Tryz.prog 171 #[.pointer (some ⟨bs, 0, none⟩)] encB (backL rows) (fun x => x = bs ∨ x = g) w0 := by
  intro m X J Jx W hNd hX hsame hsz hJ hJx hSl hY h0
  have q1 : W.cell? ⟨bs, 0, none⟩ = some (.slice (some ⟨g, 0, none⟩) n cp) := (World.cell?_of_block (a := ⟨bs, 0, none⟩) (hsame bs (.inl rfl))).trans hbs
  have HC : Hid (∀ (i : Nat) (r : Nat × Nat × Int), rows[i]? = some r → W.cell? ⟨g, i * 3, none⟩ = some (.int .i32 r.1) ∧ W.cell? ⟨g, i * 3 + 1, none⟩ = some (.int .i32 r.2.1) ∧ W.cell? ⟨g, i * 3 + 2, none⟩ = some (.int .i64 r.2.2)) := Lib.hid fun i r hr => by
    have h := hc i r hr
    have e := hsame g (.inr rfl)
    exact ⟨(World.cell?_of_block (a := ⟨g, _, none⟩) e).trans h.1, (World.cell?_of_block (a := ⟨g, _, none⟩) e).trans h.2.1, (World.cell?_of_block (a := ⟨g, _, none⟩) e).trans h.2.2⟩
  have hXb : Hid (¬ X bs ∧ ¬ X g) := Lib.hid ⟨hNd bs (.inl rfl), hNd g (.inr rfl)⟩
  have HK := Lib.hid (And.intro hX (And.intro hJ (And.intro hJx (And.intro hSl hY))))
  have HG := Lib.hid (fun k (hk : k < rows.length) => backL_get rows hk)
  have HLN : Hid ((backL rows).length = n) := Lib.hid (by rw [backL_len, hn])
  have HN := Lib.hid hn
  obtain ⟨L, hL⟩ : ∃ L, backL rows = L := ⟨_, rfl⟩
  rw [hL] at HK HG HLN ⊢
  have hfn : ∀ k, Fence.wide.fn k := fun _ => trivial
  have hdep : Fence.wide.depth = none := rfl
  have q0 : IntKind.i64.wrap ((n : Int) - 1) = (n : Int) - 1 := IntWalk.i64_in _ (by omega)
  clear hNd hsame hsz hX hJ hJx hSl hY hc hbs hn hL
  refine (callsIn_wide (n := 0)).1 ?_
  refine callsIn_of_wp Tryz.func171 rfl trivial ?_ rfl
  simp only [Tryz.ntmps171, List.size_toArray, List.length_cons, List.length_nil, Nat.reduceAdd, Nat.reduceSub, Array.replicate_succ, Array.replicate_zero, List.push_toArray, List.append_toArray, List.nil_append, List.cons_append]
  gi_wp2_with fail
  gi_loopw [3] (fun x wr => ∃ (k : Nat) (Y : Nat → Prop), x = .int .i64 ((n : Int) - 1 - k) ∧ k ≤ n ∧ (∀ y, Y y → W.heap.size ≤ y) ∧ J (L.take k) Y wr ∧ Keep X W wr) (fun x _ => (RowKit.intOf x + 1).toNat)
  case atStart => exact ⟨0, fun _ => False, by simp, by omega, fun _ h => h.elim, by simpa using h0, Keep.refl _ _⟩
  case round =>
    obtain ⟨k, Y, rfl, hk, hYl, hJs, hkp⟩ := hrel
    have q2 := hkp.cell q1 hXb.out.1
    have HI := Lib.hid (And.intro hYl (And.intro hJs hkp))
    by_cases hlt : k < n
    · obtain ⟨i, hi⟩ : ∃ i, n - 1 - k = i := ⟨_, rfl⟩
      have hii : (n : Int) - 1 - k = (i : Int) := by omega
      have hin : i < n := by omega
      obtain ⟨r, hr⟩ : ∃ r, rows[i]? = some r := ⟨_, List.getElem?_eq_getElem (by rw [HN.out]; exact hin)⟩
      have hg := HG.out k (by rw [HN.out]; exact hlt)
      rw [HN.out, hi, List.getD_eq_getElem?_getD, hr] at hg
      have hcr := HC.out i r hr
      have htk : L.take (k + 1) = L.take k ++ [(i, r)] := by rw [List.take_add_one, hg]; rfl
      have hpx : L.take k ++ [(i, r)] <+: L := by rw [← htk]; exact List.take_prefix _ _
      obtain ⟨lo, hi', vv⟩ := r
      simp only at hcr
      have d0 := hkp.cell hcr.1 hXb.out.2
      have d1 := hkp.cell hcr.2.1 hXb.out.2
      have d2 := hkp.cell hcr.2.2 hXb.out.2
      have b0 : (0 : Int) ≤ (i : Int) := by omega
      have b1 : (i : Int) < (n : Int) := by omega
      have hyy : YieldAt Fence.wide 0 Tryz.prog m #[.int .i64 (i : Nat), .agg #[.int .i32 (lo : Nat), .int .i32 (hi' : Nat), .int .i64 vv]] wr _ := HK.out.2.2.2.2 (L.take k) (i, lo, hi', vv) Y wr hpx hJs hkp.size hYl
      obtain ⟨fn, tmps, assign, body, hy, hR⟩ := hyy
      have q3 : IntKind.i64.wrap ((i : Int) - 1) = (i : Int) - 1 := IntWalk.i64_in _ (by omega)
      have HT := Lib.hid (And.intro htk (And.intro hpx hi))
      rw [hii]
      clear hg hcr htk hpx hYl hJs hkp hr hi hii
      gi_wp2_with fail
      refine hR.mono ?_
      rintro e3 V3 ⟨Y', hk4, hY', (⟨rfl, hJ3⟩ | ⟨rfl, hJx3⟩)⟩
      all_goals have hk3 := HI.out.2.2
      all_goals have hzk := hk3.size
      all_goals have hkW : Keep X W V3 := ⟨hk4.os.trans hk3.os, hk4.tape.trans hk3.tape, hk4.output.trans hk3.output, Nat.le_trans hk3.size hk4.size, fun b hb hx => (hk4.same b (Nat.lt_of_lt_of_le hb hk3.size) (fun h => by rcases h with h | h; exact hx h; have := HI.out.1 b h; omega)).trans (hk3.same b hb hx)⟩
      all_goals have hYl2 : ∀ b, Y' b → W.heap.size ≤ b := fun b hb => by rcases hY' b hb with h | h; exact HI.out.1 b h; omega
      · have HF := Lib.hid (And.intro hYl2 (And.intro hJ3 hkW))
        clear hk4 hk3 hYl2 hJ3 hkW hY'
        gi_wp2_with fail
        go_roundw
        case rel => exact ⟨k + 1, Y', by have := HT.out.2.2; congr 1; omega, by omega, HF.out.1, by rw [HT.out.1]; exact HF.out.2.1, HF.out.2.2⟩
        case measure => (simp [RowKit.intOf] <;> omega)
      · have HF := Lib.hid (And.intro hYl2 (And.intro hJx3 hkW))
        clear hk4 hk3 hYl2 hJx3 hkW hY'
        gi_wp2_with fail
        refine bodyPost_ret (results_none rfl _ _ _) rfl ?_
        exact ⟨⟨_, rfl⟩, HF.out.2.2, .inr ⟨_, Y', HT.out.2.1, HF.out.1, HF.out.2.1⟩⟩
    · have hkn : k = n := by omega
      subst hkn
      have b0 : ¬ (0 : Int) ≤ (k : Int) - 1 - k := by omega
      have e : L.take k = L := by rw [← HLN.out]; exact List.take_length
      rw [e] at HI
      clear hYl hJs hkp e
      gi_wp2_with fail
      go_end0
      exact ⟨⟨_, rfl⟩, HI.out.2.2, .inl ⟨Y, HI.out.1, HI.out.2.1⟩⟩
end Go.Proofs.YtdmimdiffjpjpaaGreatDoor
