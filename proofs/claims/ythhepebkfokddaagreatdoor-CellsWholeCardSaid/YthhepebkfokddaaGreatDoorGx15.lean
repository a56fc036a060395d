/- Parts of the proof of what the last text says. -/
import Derived.Test.YthhepebkfokddaaGreatDoorGx8
import Derived.Test.YthhepebkfokddaaGreatDoorGx1
import Derived.Test.YthhepebkfokddaaGreatDoorGx14
import Derived.RangeFuncBound
import Derived.Shelf.Abstract
import Derived.Shelf.RegionOpen
import Derived.OwnWalkIn
import Derived.TacticsInMore
import Derived.LoopNIn
import Derived.LoopIn
import Derived.Test.YthhepebkfokddaaGreatDoorGx5
import Derived.Laws.IdiomStrings
import Derived.Test.YthhepebkfokddaaGreatDoorGx2
import Derived.Laws.Cover4
import Derived.Laws.MakeOwn
import Derived.Sort.QuietIn
import Derived.Sort.QuietTacIn
namespace Go.Proofs.YthhepebkfokddaaGreatDoor
open Go Go.RowKit Go.Kt Go.Kt.Rg
def hanR : List (Nat × Nat × Int) := [(44032, 55203, 0), (4352, 4370, 0), (4449, 4469, 0), (4520, 4546, 0)]
def noR : List (Nat × Nat × Int) := [(55296, 57343, 0)]
def sylR : List (Nat × Nat × Int) := [(44032, 55203, 1)]
theorem phanR (w : World) : Calls Tryz.prog 51 #[] w fun e w' => e = .returned (.slice (some ⟨w.heap.size, 0, none⟩) 4 4) ∧ w.alloc (.cells (rwE hanR).toArray 106) = w' := by
 go_enter Tryz.func51, Tryz.ntmps51
 go_wp2
 go_ret
 exact ⟨rfl, rfl⟩
theorem pnoR (w : World) : Calls Tryz.prog 52 #[] w fun e w' => e = .returned (.slice (some ⟨w.heap.size, 0, none⟩) 1 1) ∧ w.alloc (.cells (rwE noR).toArray 106) = w' := by
 go_enter Tryz.func52, Tryz.ntmps52
 go_wp2
 go_ret
 exact ⟨rfl, rfl⟩
theorem psylR (w : World) : Calls Tryz.prog 53 #[] w fun e w' => e = .returned (.slice (some ⟨w.heap.size, 0, none⟩) 1 1) ∧ w.alloc (.cells (rwE sylR).toArray 106) = w' := by
 go_enter Tryz.func53, Tryz.ntmps53
 go_wp2
 go_ret
 exact ⟨rfl, rfl⟩
end Go.Proofs.YthhepebkfokddaaGreatDoor
namespace Go.Proofs.YthhepebkfokddaaGreatDoor
open Go Go.RowKit Go.Kt Go.Kt.Rg Go.Maps
def rd0 : RdS := ⟨[], [], fun _ => none, fun _ => none, fun _ => none, fun _ => none⟩
theorem MapG.alloc {P : Program} {k : TypeId} {b n : Nat} {f : Lit → Option Value} {w : World} (h : MapG P k b n f w) (o : Obj) : MapG P k b n f (w.alloc o) := MapG.keep h ((Keep.refl (fun _ => False) w).alloc o) (fun h => h)
theorem ptF_none {vs : Nat → Option Value} (h : ∀ x, vs x = none) (kl : Lit) : none = ptF vs kl := by
 unfold ptF
 split
 ·split
  ·rw [h]
  ·rfl
 ·rfl
theorem says_put (g : Nat) (kl : Lit) (hk : WideAt.IsKeyLit kl) : putF (putF (putF (putF (fun _ => none) (.string [99, 108, 97, 115, 115]) (saysV g 36)) (.string [107, 105, 110, 100]) (saysV g 37)) (.string [102, 111, 108, 100]) (saysV g 38)) (.string [100, 101, 99, 111, 109, 112]) (saysV g 39) kl = saysF g kl := by
 by_cases e4 : kl = .string [100, 101, 99, 111, 109, 112]
 ·subst e4; rw [putF_same _ _ hk]; rfl
 rw [putF_other _ e4]
 by_cases e3 : kl = .string [102, 111, 108, 100]
 ·subst e3; rw [putF_same _ _ hk]; rfl
 rw [putF_other _ e3]
 by_cases e2 : kl = .string [107, 105, 110, 100]
 ·subst e2; rw [putF_same _ _ hk]; rfl
 rw [putF_other _ e2]
 by_cases e1 : kl = .string [99, 108, 97, 115, 115]
 ·subst e1; rw [putF_same _ _ hk]; rfl
 rw [putF_other _ e1]
 unfold saysF
 split
 ·rename_i b
  rw [if_neg (fun h => e1 (by rw [h])), if_neg (fun h => e2 (by rw [h])), if_neg (fun h => e3 (by rw [h])), if_neg (fun h => e4 (by rw [h]))]
 ·rfl
def newRole (H : Nat) : Nat → Nat := fun b => if b = H then 4 else if b = H + 1 then 5 else if b = H + 1 + 1 then 6 else if b = H + 1 + 1 + 1 then 7 else if b = H + 1 + 1 + 1 + 1 then 1 else if b = H + 1 + 1 + 1 + 1 + 1 then 8 else 0
theorem newRole_le (H b : Nat) (h : newRole H b ≠ 0) : H ≤ b := by
 unfold newRole at h
 refine Nat.le_of_not_lt fun hb => h ?_
 rw [if_neg (by omega), if_neg (by omega), if_neg (by omega), if_neg (by omega), if_neg (by omega), if_neg (by omega)]
theorem newRole0 (H : Nat) : newRole H (H) = 4 := by unfold newRole; rw [if_pos rfl]
theorem newRole1 (H : Nat) : newRole H (H + 1) = 5 := by unfold newRole; rw [if_neg (by omega), if_pos rfl]
theorem newRole2 (H : Nat) : newRole H (H + 1 + 1) = 6 := by unfold newRole; rw [if_neg (by omega), if_neg (by omega), if_pos rfl]
theorem newRole3 (H : Nat) : newRole H (H + 1 + 1 + 1) = 7 := by unfold newRole; rw [if_neg (by omega), if_neg (by omega), if_neg (by omega), if_pos rfl]
theorem newRole4 (H : Nat) : newRole H (H + 1 + 1 + 1 + 1) = 1 := by unfold newRole; rw [if_neg (by omega), if_neg (by omega), if_neg (by omega), if_neg (by omega), if_pos rfl]
theorem newRole5 (H : Nat) : newRole H (H + 1 + 1 + 1 + 1 + 1) = 8 := by unfold newRole; rw [if_neg (by omega), if_neg (by omega), if_neg (by omega), if_neg (by omega), if_neg (by omega), if_pos rfl]
set_option maxRecDepth 100000 in
set_option maxHeartbeats 4000000 in
theorem pnewR (w : World) : Calls Tryz.prog 17 #[] w fun e w' => ∃ R : RdB, e = .returned (.pointer (some ⟨R.g, 0, none⟩)) ∧ Below w.heap.size w w' ∧ ∃ ρ, RdW w.heap.size ρ R 0 0 0 rd0 (.slice none 0 0) (.slice none 0 0) w' := by
 have hm1 : ∀ W : World, (Instr.makeMap 54 none).run Tryz.prog W = .ok (.map (some W.heap.size)) (W.alloc (.map #[] 0)) := fun W => run_makeMap _ _
 have hm2 : ∀ W : World, (Instr.makeMap 55 none).run Tryz.prog W = .ok (.map (some W.heap.size)) (W.alloc (.map #[] 0)) := fun W => run_makeMap _ _
 have hm3 : ∀ W : World, (Instr.makeMap 52 none).run Tryz.prog W = .ok (.map (some W.heap.size)) (W.alloc (.map #[] 0)) := fun W => run_makeMap _ _
 go_enter Tryz.func17, Tryz.ntmps17
 go_wp2_with fail
 clear hm1 hm2 hm3
 obtain ⟨H, hH⟩ : ∃ H, w.heap.size = H := ⟨_, rfl⟩
 rw [hH]
 have k1 : ∀ (W : World) (o : Obj), (W.alloc o).heap.size = W.heap.size + 1 := fun W o => Array.size_push _
 obtain ⟨W0, hW0⟩ : ∃ W0, ((((((w.alloc (.map #[] 0)).alloc (.map #[] 0)).alloc (.map #[] 0)).alloc (.map #[] 0)).alloc (.cells #[.map none, .int .i64 0, .slice none 0 0, .slice none 0 0, .map (some H), .map (some (H + 1)), .map (some (H + 1 + 1)), .map (some (H + 1 + 1 + 1))] 57)).alloc (.map #[] 0)) = W0 := ⟨_, rfl⟩
 rw [hW0]
 have hM0 : MapG Tryz.prog 9 (H + 1 + 1 + 1 + 1 + 1) 0 (fun _ => none) W0 := by
  have := MapG.made (((((w.alloc (.map #[] 0)).alloc (.map #[] 0)).alloc (.map #[] 0)).alloc (.map #[] 0)).alloc (.cells #[.map none, .int .i64 0, .slice none 0 0, .slice none 0 0, .map (some H), .map (some (H + 1)), .map (some (H + 1 + 1)), .map (some (H + 1 + 1 + 1))] 57)) Tryz.prog 9
  rw [hW0] at this
  simp only [k1, hH] at this
  exact this
 obtain ⟨w1, hr1, hM1, hK1⟩ := hM0.put (string_keyed Tryz.underlying9) Tryz.underlying52 (by decide) (val := saysV (H + 1 + 1 + 1 + 1) 36) (key := .string ⟨#[99, 108, 97, 115, 115]⟩) (kl := .string [99, 108, 97, 115, 115]) (Go.WideMaps.keyOf_string_mk (P := Tryz.prog) Tryz.underlying9 (s := ⟨#[99, 108, 97, 115, 115]⟩) (by decide))
 unfold saysV at hr1
 rw [hr1]
 clear hr1
 go_wp2_with fail
 obtain ⟨w2, hr2, hM2, hK2⟩ := hM1.put (string_keyed Tryz.underlying9) Tryz.underlying52 (by decide) (val := saysV (H + 1 + 1 + 1 + 1) 37) (key := .string ⟨#[107, 105, 110, 100]⟩) (kl := .string [107, 105, 110, 100]) (Go.WideMaps.keyOf_string_mk (P := Tryz.prog) Tryz.underlying9 (s := ⟨#[107, 105, 110, 100]⟩) (by decide))
 unfold saysV at hr2
 rw [hr2]
 clear hr2
 go_wp2_with fail
 obtain ⟨w3, hr3, hM3, hK3⟩ := hM2.put (string_keyed Tryz.underlying9) Tryz.underlying52 (by decide) (val := saysV (H + 1 + 1 + 1 + 1) 38) (key := .string ⟨#[102, 111, 108, 100]⟩) (kl := .string [102, 111, 108, 100]) (Go.WideMaps.keyOf_string_mk (P := Tryz.prog) Tryz.underlying9 (s := ⟨#[102, 111, 108, 100]⟩) (by decide))
 unfold saysV at hr3
 rw [hr3]
 clear hr3
 go_wp2_with fail
 obtain ⟨w4, hr4, hM4, hK4⟩ := hM3.put (string_keyed Tryz.underlying9) Tryz.underlying52 (by decide) (val := saysV (H + 1 + 1 + 1 + 1) 39) (key := .string ⟨#[100, 101, 99, 111, 109, 112]⟩) (kl := .string [100, 101, 99, 111, 109, 112]) (Go.WideMaps.keyOf_string_mk (P := Tryz.prog) Tryz.underlying9 (s := ⟨#[100, 101, 99, 111, 109, 112]⟩) (by decide))
 unfold saysV at hr4
 rw [hr4]
 clear hr4
 have hcell : W0.heap[H + 1 + 1 + 1 + 1]? = some (.cells #[.map none, .int .i64 0, .slice none 0 0, .slice none 0 0, .map (some H), .map (some (H + 1)), .map (some (H + 1 + 1)), .map (some (H + 1 + 1 + 1))] 57 (0, 0)) := by
  rw [← hW0, heap_alloc_if, if_neg (by simp only [k1, hH]; omega), heap_alloc_if, if_pos (by simp only [k1, hH])]
 have g1 : Hid (MapG Tryz.prog 21 H 0 (fun _ => none) W0) := Lib.hid (by
  have := MapG.made w Tryz.prog 21
  rw [hH] at this
  rw [← hW0]
  exact MapG.alloc (MapG.alloc (MapG.alloc (MapG.alloc (MapG.alloc this _) _) _) _) _)
 have g2 : Hid (MapG Tryz.prog 21 (H + 1) 0 (fun _ => none) W0) := Lib.hid (by
  have := MapG.made (w.alloc (.map #[] 0)) Tryz.prog 21
  simp only [k1, hH] at this
  rw [← hW0]
  exact MapG.alloc (MapG.alloc (MapG.alloc (MapG.alloc this _) _) _) _)
 have g3 : Hid (MapG Tryz.prog 21 (H + 1 + 1) 0 (fun _ => none) W0) := Lib.hid (by
  have := MapG.made ((w.alloc (.map #[] 0)).alloc (.map #[] 0)) Tryz.prog 21
  simp only [k1, hH] at this
  rw [← hW0]
  exact MapG.alloc (MapG.alloc (MapG.alloc this _) _) _)
 have g4 : Hid (MapG Tryz.prog 21 (H + 1 + 1 + 1) 0 (fun _ => none) W0) := Lib.hid (by
  have := MapG.made (((w.alloc (.map #[] 0)).alloc (.map #[] 0)).alloc (.map #[] 0)) Tryz.prog 21
  simp only [k1, hH] at this
  rw [← hW0]
  exact MapG.alloc (MapG.alloc this _) _)
 have hBW : Below H w W0 := by
  rw [← hW0, ← hH]
  exact ((((((Below.refl _ w).alloc (Nat.le_refl _) _).alloc (by simp) _).alloc (by simp; omega) _).alloc (by simp; omega) _).alloc (by simp; omega) _).alloc (by simp; omega) _
 have hKK := ((hK1.trans hK2).trans hK3).trans hK4
 have HKK := Lib.hid hKK
 have HBW := Lib.hid hBW
 have HM4 := Lib.hid (MapG.congr hM4 (says_put _))
 have hz : W0.heap.size = H + 1 + 1 + 1 + 1 + 1 + 1 := by rw [← hW0]; simp only [k1, hH]
 have HZ := Lib.hid hz
 have hcell4 := hKK.heap hcell (by omega)
 have HC4 := Lib.hid hcell4
 have c0 : w4.cell? ⟨H + 1 + 1 + 1 + 1, 0, none⟩ = some (.map none) := by rw [Lib.cell_of_heap hcell4]; rfl
 have f0 : w4.frozen? ⟨H + 1 + 1 + 1 + 1, 0, none⟩ = false := Lib.frozen_of_heap hcell4 _
 clear hM0 hM1 hM2 hM3 hM4 hK1 hK2 hK3 hK4 hKK hBW hcell hcell4 hW0 k1 hz
 go_wp2
 go_ret
 rw [hH]
 have hset := heap_setCell_same w4 (H + 1 + 1 + 1 + 1) 0 _ _ (.map (some (H + 1 + 1 + 1 + 1 + 1))) HC4.out
 obtain ⟨W5, hW5⟩ : ∃ W5, w4.setCell ⟨H + 1 + 1 + 1 + 1, 0, none⟩ (.map (some (H + 1 + 1 + 1 + 1 + 1))) = W5 := ⟨_, rfl⟩
 have hK5 : Keep (fun b => b = H + 1 + 1 + 1 + 1) w4 W5 := by
  rw [← hW5]
  exact Keep.setCell (X := fun b => b = H + 1 + 1 + 1 + 1) (Keep.refl _ w4) (p := ⟨H + 1 + 1 + 1 + 1, 0, none⟩) rfl _
 rw [hW5] at hset ⊢
 have hz4 := HKK.out.size
 rw [HZ.out] at hz4
 have hK : Keep (fun b => b = H + 1 + 1 + 1 + 1 + 1 ∨ b = H + 1 + 1 + 1 + 1) W0 W5 := (HKK.out.weaken (fun _ _ h => Or.inl h)).trans (hK5.weaken (fun _ _ h => Or.inr h))
 refine ⟨⟨H + 1 + 1 + 1 + 1, H + 1 + 1 + 1 + 1 + 1, H, H + 1, H + 1 + 1, H + 1 + 1 + 1⟩, rfl, HBW.out.trans (hK.below (by rw [HZ.out]; omega) (fun b hb => by omega)), newRole H, ?_⟩
 have gm : ∀ (b k : Nat) (f : Lit → Option Value), MapG Tryz.prog k b 0 (fun _ => none) W0 → b < H + 1 + 1 + 1 + 1 → (∀ kl, none = f kl) → MapG Tryz.prog k b 0 f W5 := fun b k f h h2 h3 => MapG.congr (MapG.keep h hK (by omega)) (fun kl _ => h3 kl)
 exact {
  hr := newRole_le H, hB := by have := hK5.size; omega, g := newRole4 H, cell := by simpa [cellsR] using hset
  c := own_nil _ _ _ _
  k := own_nil _ _ _ _
  d := ⟨newRole0 H, fun _ => none, gm (H) _ _ g1.out (by omega) (ptF_none (fun _ => rfl)), fun _ => rfl, fun _ _ _ h => by cases h⟩
  f := ⟨newRole1 H, fun _ => none, gm (H + 1) _ _ g2.out (by omega) (ptF_none (fun _ => rfl)), fun _ => rfl, fun _ _ _ h => by cases h⟩
  l := ⟨newRole2 H, gm (H + 1 + 1) _ _ g3.out (by omega) (ptF_none (fun _ => rfl))⟩
  e := ⟨newRole3 H, gm (H + 1 + 1 + 1) _ _ g4.out (by omega) (ptF_none (fun _ => rfl))⟩
  s := ⟨newRole5 H, MapG.keep HM4.out hK5 (show ¬ H + 1 + 1 + 1 + 1 + 1 = H + 1 + 1 + 1 + 1 by omega)⟩ }
end Go.Proofs.YthhepebkfokddaaGreatDoor
namespace Go.Proofs.YthhepebkfokddaaGreatDoor
open Go Go.RowKit Go.Kt Go.Shelf
attribute [local go_sem] Oper.semAt_some
theorem run_next_str {P : Program} (W : World) (k : Nat) (s : ByteArray) (pos : Nat) (ty : TypeId) (hb : W.heap[k]? = some (.stringIter s pos)) (h : pos < s.size) :
 (Instr.next (.pointer (some ⟨k, 0, none⟩)) true ty).run P W =
  .ok (.tuple #[.bool true, .int .i64 pos, .int .i32 (Utf8.decode s pos).1]) (W.putObj k (.stringIter s (pos + (Utf8.decode s pos).2))) := by
 simp only [Instr.next, getObj, setObj, Sem.run_bind, Sem.run, hb, Result.andThen, h, if_true]
 simp [goInt, World.putObj]
theorem run_next_str_end {P : Program} (W : World) (k : Nat) (s : ByteArray) (pos : Nat) (ty : TypeId) (hb : W.heap[k]? = some (.stringIter s pos)) (h : ¬ pos < s.size) :
 (Instr.next (.pointer (some ⟨k, 0, none⟩)) true ty).run P W = .ok (.tuple #[.bool false]) W := by
 simp [Instr.next, getObj, Sem.run, hb, h]
def unitsF (s : ByteArray) : Nat → Nat → List (Nat × Nat)
 | 0, _ => []
 | f + 1, pos => if pos < s.size then (pos, (Utf8.decode s pos).1) :: unitsF s f (pos + (Utf8.decode s pos).2) else []
def units (s : ByteArray) : List (Nat × Nat) := unitsF s s.size 0
abbrev enc2 (p : Nat × Nat) : Array Value := #[.int .i64 p.1, .int .i32 p.2]
theorem dec_width (s : ByteArray) (pos : Nat) (h : pos < s.size) : 1 ≤ (Utf8.decode s pos).2 ∧ (Utf8.decode s pos).2 ≤ 4 ∧ pos + (Utf8.decode s pos).2 ≤ s.size := by
 rcases decode_wide s pos h with ⟨_, e⟩ | ⟨w, h1, h4, hw, _, e⟩
 ·rw [e]; simp; omega
 ·omega
def iterPos (W : World) (k : Nat) : Nat := match W.heap[k]? with | some (.stringIter _ p) => p | _ => 0
theorem iterPos_eq {W : World} {k : Nat} {s : ByteArray} {p : Nat} (h : W.heap[k]? = some (.stringIter s p)) : iterPos W k = p := by simp [iterPos, h]
theorem all_iter (s : ByteArray) (bs : Nat) (w0 : World) (hc : w0.cell? ⟨bs, 0, none⟩ = some (.string s)) (_hs : s.size ≤ 4611686018427387904) :
 Iter Tryz.prog 66 #[.pointer (some ⟨bs, 0, none⟩)] enc2 (units s) (fun b => b = bs) w0 := by
 intro l X J Jx W hNd hX hsame hsz hJ hJx hY h0
 have hcW : W.cell? ⟨bs, 0, none⟩ = some (.string s) := (World.cell?_of_block (w := w0) (a := ⟨bs, 0, none⟩) (hsame bs rfl)).trans hc
 have hbs : bs < W.heap.size := lt_of_cell hcW
 have hX' : ¬ X bs := hNd bs rfl
 refine (callsIn_wide (n := 0)).1 ?_
 refine callsIn_of_wp Tryz.func66 rfl trivial ?_ rfl
 simp only [Tryz.ntmps66, List.size_toArray, List.length_cons, List.length_nil, Nat.reduceAdd, Nat.reduceSub, Array.replicate_succ, Array.replicate_zero, List.push_toArray, List.append_toArray, List.nil_append, List.cons_append]
 gi_wp2
 have HJ0 : J [] (fun _ => False) (W.alloc (.stringIter s 0)) := hJ _ _ _ _ ((Keep.refl _ W).alloc _) h0
 gi_loopw [3] (fun _ wr => ∃ (pre : List (Nat × Nat)) (Y : Nat → Prop) (pos f : Nat), (∀ b, Y b → W.heap.size + 1 ≤ b) ∧ pre ++ unitsF s f pos = units s ∧ s.size ≤ pos + f ∧ J pre Y wr ∧ Keep X W wr ∧ W.heap.size < wr.heap.size ∧ wr.heap[W.heap.size]? = some (.stringIter s pos))
  (fun _ wr => s.size - iterPos wr W.heap.size)
 case atStart =>
  exact ⟨[], _, 0, s.size, fun _ h => h.elim, rfl, by omega, HJ0, (Keep.refl X W).alloc _, (Array.getElem?_eq_some_iff.1 (World.alloc_heap_new W (.stringIter s 0))).1, World.alloc_heap_new W _⟩
 case round =>
  obtain ⟨pre, Y, pos, f, hYl, hp, hf, hJs, hk, hlt, hit⟩ := hrel
  by_cases hpos : pos < s.size
  ·obtain ⟨d1, d2, d3⟩ := dec_width s pos hpos
   obtain ⟨f', rfl⟩ : ∃ f', f = f' + 1 := ⟨f - 1, by omega⟩
   have hun : unitsF s (f' + 1) pos = (pos, (Utf8.decode s pos).1) :: unitsF s f' (pos + (Utf8.decode s pos).2) := by rw [unitsF, if_pos hpos]
   rw [hun] at hp
   have hpre : pre ++ [(pos, (Utf8.decode s pos).1)] <+: units s := ⟨unitsF s f' (pos + (Utf8.decode s pos).2), by rw [← hp]; simp⟩
   obtain ⟨W1, hW1⟩ : ∃ W1, wr.putObj W.heap.size (.stringIter s (pos + (Utf8.decode s pos).2)) = W1 := ⟨_, rfl⟩
   have hb1 : Below W.heap.size wr W1 := by rw [← hW1]; exact below_putObj (Nat.le_refl _) _
   have hit1 : W1.heap[W.heap.size]? = some (.stringIter s (pos + (Utf8.decode s pos).2)) := by rw [← hW1]; exact World.putObj_heap_same hlt
   have hk1 : Keep X W W1 := hk.then hb1
   have hst : Keep (fun b => W.heap.size ≤ b ∧ ¬ Y b) wr W1 := by rw [← hW1]; exact (Keep.refl _ wr).putObj (.inl ⟨Nat.le_refl _, fun hy => by have := hYl _ hy; omega⟩) _
   have hlt1 : W.heap.size < W1.heap.size := (Array.getElem?_eq_some_iff.1 hit1).1
   obtain ⟨fn, tmps, assign, body, hy, hR⟩ := hY pre _ Y W1 hpre (hJ _ _ _ _ hst hJs) (by omega) (fun b hb => by have := hYl b hb; omega)
   have hnx : ∀ ty, (Instr.next (.pointer (some ⟨W.heap.size, 0, none⟩)) true ty).run Tryz.prog wr = .ok (.tuple #[.bool true, .int .i64 pos, .int .i32 (Utf8.decode s pos).1]) W1 := fun ty => by
    rw [← hW1]; exact run_next_str wr W.heap.size s pos ty hit hpos
   generalize Utf8.decode s pos = dd at *
   obtain ⟨r, wd⟩ := dd
   have Hdat := Lib.hid (And.intro hp (And.intro hf (And.intro hit (And.intro hit1 hpre))))
   clear hp hf hun hpre hit hit1 hW1
   gi_wp2
   refine ⟨rfl, hR.mono ?_⟩
   rintro e W2 ⟨Y', hk2, hY', (⟨rfl, hJ2⟩ | ⟨rfl, hJx2⟩)⟩
   ·obtain ⟨hp, hf, hit, hit1, hpre⟩ := Hdat.out
    have hit2 := hk2.heap hit1 (fun h => by rcases h with h | h; have := hX _ h; omega; have := hYl _ h; omega)
    have hkW : Keep X W W2 := ⟨hk2.os.trans hk1.os, hk2.tape.trans hk1.tape, hk2.output.trans hk1.output, Nat.le_trans hk1.size hk2.size, fun b hb hx => (hk2.same b (Nat.lt_of_lt_of_le hb hk1.size) (fun h => by rcases h with h | h; exact hx h; have := hYl b h; omega)).trans (hk1.same b hb hx)⟩
    gi_wp2
    go_roundw
    case rel => exact ⟨pre ++ [(pos, r)], Y', pos + wd, f', fun b hb => by rcases hY' b hb with h | h; exact hYl b h; omega, by rw [List.append_assoc]; exact hp, by omega, hJ2, hkW, (Array.getElem?_eq_some_iff.1 hit2).1, hit2⟩
    case measure => rw [iterPos_eq hit2, iterPos_eq hit]; omega
   ·obtain ⟨hp, hf, hit, hit1, hpre⟩ := Hdat.out
    gi_wp2
    refine bodyPost_ret (results_none rfl _ _ _) rfl ?_
    have hkW : Keep X W W2 := ⟨hk2.os.trans hk1.os, hk2.tape.trans hk1.tape, hk2.output.trans hk1.output, Nat.le_trans hk1.size hk2.size, fun b hb hx => (hk2.same b (Nat.lt_of_lt_of_le hb hk1.size) (fun h => by rcases h with h | h; exact hx h; have := hYl b h; omega)).trans (hk1.same b hb hx)⟩
    exact ⟨⟨_, rfl⟩, hkW, .inr ⟨_, Y', hpre, fun b hb => by rcases hY' b hb with h | h; have := hYl b h; omega; omega, hJx2⟩⟩
  ·have hnx : ∀ ty, (Instr.next (.pointer (some ⟨W.heap.size, 0, none⟩)) true ty).run Tryz.prog wr = .ok (.tuple #[.bool false]) wr := fun ty => run_next_str_end wr W.heap.size s pos ty hit hpos
   have hun : unitsF s f pos = [] := by
    cases f with
    | zero => rfl
    | succ f => rw [unitsF, if_neg hpos]
   rw [hun, List.append_nil] at hp
   have Hp := Lib.hid hp
   clear hp hit hun
   gi_wp2
   go_end0
   exact ⟨⟨_, rfl⟩, hk, .inl ⟨Y, fun b hb => by have := hYl b hb; omega, Hp.out ▸ hJs⟩⟩
end Go.Proofs.YthhepebkfokddaaGreatDoor
namespace Go.Proofs.YthhepebkfokddaaGreatDoor
open Go Go.RowKit Go.Kt Go.Shelf
attribute [local go_sem] Oper.semAt_some
abbrev encP (p : Nat × Nat) : Array Value := #[.int .i64 p.1, .int .i64 p.2]
end Go.Proofs.YthhepebkfokddaaGreatDoor
namespace Go.Proofs.YthhepebkfokddaaGreatDoor
open Go Go.RowKit Go.Kt Go.Shelf
attribute [local go_sem] Oper.semAt_some
theorem utfAll_call (s : ByteArray) (w : World) :
 Calls Tryz.prog 31 #[.string s] w fun e w' => e = .returned (.func (.func 66) #[] #[.pointer (some ⟨w.heap.size, 0, none⟩)]) ∧ w.alloc (.cells #[.string s] 9) = w' := by
 go_enter Tryz.func31, Tryz.ntmps31
 go_wp2
 go_ret
 exact ⟨rfl, rfl⟩
theorem utfBack_call (s : ByteArray) (w : World) :
 Calls Tryz.prog 33 #[.string s] w fun e w' => e = .returned (.func (.func 67) #[] #[.pointer (some ⟨w.heap.size, 0, none⟩)]) ∧ w.alloc (.cells #[.string s] 9) = w' := by
 go_enter Tryz.func33, Tryz.ntmps33
 go_wp2
 go_ret
 exact ⟨rfl, rfl⟩
/-! what Mend writes -/
def rep (l : List UInt8) : Nat → List UInt8
 | 0 => []
 | n + 1 => rep l n ++ l
def mendStep (s by' : ByteArray) (whole : Bool) (st : List UInt8 × Nat) (p : Nat × Nat) : List UInt8 × Nat :=
 (st.1 ++ (s.extract st.2 p.1).data.toList ++ rep by'.data.toList (if whole then 1 else p.2), p.1 + p.2)
def mendF (s by' : ByteArray) (whole : Bool) (l : List (Nat × Nat)) : List UInt8 × Nat := l.foldl (mendStep s by' whole) ([], 0)
def mendL (s by' : ByteArray) (whole : Bool) : List UInt8 :=
 (mendF s by' whole (bads s)).1 ++ (s.extract (mendF s by' whole (bads s)).2 s.size).data.toList
def Chain (n : Nat) : Nat → List (Nat × Nat) → Prop
 | _, [] => True
 | lo, (a, k) :: r => lo ≤ a ∧ 1 ≤ k ∧ a + k ≤ n ∧ Chain n (a + k) r
end Go.Proofs.YthhepebkfokddaaGreatDoor
namespace Go.Proofs.YthhepebkfokddaaGreatDoor
open Go Go.RowKit Go.Kt Go.Shelf
attribute [local go_sem] Oper.semAt_some
end Go.Proofs.YthhepebkfokddaaGreatDoor
namespace Go.Proofs.YthhepebkfokddaaGreatDoor
open Go Go.RowKit Go.Kt Go.Shelf
def pieceCells (l : List (Nat × Nat)) : List Value := l.flatMap fun p => [.int .i64 p.1, .int .i64 p.2]
def OwnB (Y : Nat → Prop) (v : Value) (l : List UInt8) (W : World) : Prop := W.ownsRowF 0 5 1 v l.length (Lib.byteCells l) ∧ ∀ g, v.ownBlock = some g → Y g
end Go.Proofs.YthhepebkfokddaaGreatDoor
namespace Go.Proofs.YthhepebkfokddaaGreatDoor
open Go Go.RowKit Go.Kt Go.Shelf
def runeCells (s : ByteArray) : List Value := (units s).map fun p => Value.int .i32 p.2
theorem unitsF_len (s : ByteArray) : ∀ f i, (unitsF s f i).length ≤ f
 | 0, i => by simp [unitsF]
 | f + 1, i => by
   unfold unitsF
   split
   ·have := unitsF_len s f (i + (Utf8.decode s i).2)
    simp; omega
   ·simp
theorem units_len (s : ByteArray) : (units s).length ≤ s.size := unitsF_len s s.size 0
end Go.Proofs.YthhepebkfokddaaGreatDoor
namespace Go.Proofs.YthhepebkfokddaaGreatDoor
open Go Go.RowKit Go.Kt Go.Shelf
abbrev s1 : ByteArray := ⟨#[97, 195, 169]⟩
abbrev s2 : ByteArray := ⟨#[195]⟩
abbrev s3 : ByteArray := ⟨#[255, 98]⟩
theorem d1 : decP s1 1 = (233, 2) := by kernel_rfl
theorem d2 : decP s2 0 = (65533, 1) := by kernel_rfl
theorem d3 : runeCells s3 = [.int .i32 65533, .int .i32 98] := by kernel_rfl
theorem d4 : Utf8.encode 233 = ⟨#[195, 169]⟩ := by kernel_rfl
theorem d5 : mendL ⟨#[255]⟩ ⟨#[63]⟩ true = [63] := by kernel_rfl
theorem d6 : fullB ⟨#[97]⟩ = true := by kernel_rfl
end Go.Proofs.YthhepebkfokddaaGreatDoor
namespace Go.Proofs.YthhepebkfokddaaGreatDoor
open Go Go.RowKit Go.Kt Go.Shelf
def okF (s : ByteArray) : Nat → Nat → Bool
 | 0, _ => true
 | f + 1, i => if i < s.size then (if illB s i then false else okF s f (i + (Utf8.decode s i).2)) else true
def okB (s : ByteArray) : Bool := okF s s.size 0
end Go.Proofs.YthhepebkfokddaaGreatDoor
namespace Go.Proofs.YthhepebkfokddaaGreatDoor
open Go
def numsF (s : ByteArray) (f i : Nat) : List Nat := (unitsF s f i).map (·.2)
def placesF (s : ByteArray) (f i : Nat) : List Nat := (unitsF s f i).map (·.1)
theorem placesF_in (s : ByteArray) (f i : Nat) (h : i < s.size) : placesF s (f + 1) i = i :: placesF s f (i + (Utf8.decode s i).2) := by
 simp [placesF, unitsF, h]
theorem placesF_end (s : ByteArray) (f i : Nat) (h : s.size ≤ i) : placesF s f i = [] := by
 cases f with
 | zero => rfl
 | succ f => simp [placesF, unitsF, Nat.not_lt.2 h]
theorem placesF_ge (s : ByteArray) : ∀ f i p, p ∈ placesF s f i → i ≤ p
 | 0, _, p, h => by simp [placesF, unitsF] at h
 | f + 1, i, p, h => by
   rcases Nat.lt_or_ge i s.size with hi | hi
   ·rw [placesF_in s f i hi] at h
    rcases List.mem_cons.1 h with h | h
    ·omega
    ·have := placesF_ge s f _ p h; omega
   ·rw [placesF_end s _ i hi] at h; simp at h
theorem in_char (s : ByteArray) (i j : Nat) (hi : i < s.size) (hj : 1 ≤ j) (hw : j < (Utf8.decode s i).2) : 128 ≤ B s (i + j) ∧ B s (i + j) ≤ 191 := by
 rcases unit_at s i hi with ⟨_, e⟩ | ⟨u, u1, u4, _, e1, e2, _⟩
 ·rw [e] at hw; simp only at hw; omega
 ·have hc := ((wide_iff s i u hi u1 u4).1 e1).2
  rw [e2] at hw
  rcases hc with ⟨rfl, _⟩ | ⟨rfl, h⟩ | ⟨rfl, h⟩ | ⟨rfl, h⟩
  ·omega
  ·obtain rfl : j = 1 := by omega
   omega
  ·rcases (by omega : j = 1 ∨ j = 2) with rfl | rfl <;> omega
  ·rcases (by omega : j = 1 ∨ j = 2 ∨ j = 3) with rfl | rfl | rfl <;> omega
def nums (s : ByteArray) : List Nat := numsF s s.size 0
end Go.Proofs.YthhepebkfokddaaGreatDoor
namespace Go.Proofs.YthhepebkfokddaaGreatDoor
open Go Go.RowKit Go.Kt Go.Shelf
attribute [local go_sem] Oper.semAt_some
theorem tinfo4 : (Tryz.prog.info? 4).map (fun i => (i.zero, i.size, i.bytes)) = some (some (.bool false), 1, 1) := by kernel_rfl
def Plc (m : Nat) (s : ByteArray) (p : Nat → Bool) (W : World) : Prop :=
 ∃ c : Array Value, W.heap[m]? = some (.cells c 4 (0, 0)) ∧ ∀ i, i ≤ s.size → c[i]? = some (.bool (p i))
theorem Plc.keep {m : Nat} {s : ByteArray} {p : Nat → Bool} {X : Nat → Prop} {A B : World} (h : Plc m s p A) (hk : Keep X A B) (hX : ¬ X m) : Plc m s p B := by
 obtain ⟨c, h1, h2⟩ := h
 exact ⟨c, hk.heap h1 hX, h2⟩
theorem Plc.cell {m : Nat} {s : ByteArray} {p : Nat → Bool} {W : World} (h : Plc m s p W) {i : Nat} (hi : i ≤ s.size) : W.cell? ⟨m, i, none⟩ = some (.bool (p i)) := by
 obtain ⟨c, h1, h2⟩ := h
 rw [Lib.cell_of_heap h1]; exact h2 i hi
theorem Plc.frozen {m : Nat} {s : ByteArray} {p : Nat → Bool} {W : World} (h : Plc m s p W) (i : Nat) : W.frozen? ⟨m, i, none⟩ = false := by
 obtain ⟨c, h1, h2⟩ := h
 exact Lib.frozen_of_heap h1 i
theorem Plc.set {m : Nat} {s : ByteArray} {p : Nat → Bool} {W : World} (h : Plc m s p W) {j : Nat} (_ : j ≤ s.size) : Plc m s (fun i => p i || i == j) (W.setCell ⟨m, j, none⟩ (.bool true)) := by
 obtain ⟨c, h1, h2⟩ := h
 refine ⟨c.setIfInBounds j (.bool true), by simp [World.setCell, Array.getElem?_modify, h1], fun i hi => ?_⟩
 rw [Array.getElem?_setIfInBounds]
 have := h2 i hi
 have hlt := (Array.getElem?_eq_some_iff.1 this).1
 by_cases e : j = i
 ·subst e; rw [if_pos rfl, if_pos hlt]; simp
 ·rw [if_neg e, this]
  have : (i == j) = false := by simp; omega
  simp [this]
theorem Plc.congr {m : Nat} {s : ByteArray} {p q : Nat → Bool} {W : World} (h : Plc m s p W) (e : ∀ i, i ≤ s.size → p i = q i) : Plc m s q W := by
 obtain ⟨c, h1, h2⟩ := h
 exact ⟨c, h1, fun i hi => by rw [← e i hi]; exact h2 i hi⟩
def pcs (s : ByteArray) (pre : List (Nat × Nat)) (i : Nat) : Bool := (pre.map fun p => p.1).contains i || (i == s.size || i == 0)
def numsI (s : ByteArray) : List Int := (nums s).map fun x : Nat => (x : Int)
end Go.Proofs.YthhepebkfokddaaGreatDoor
namespace Go.Proofs.YthhepebkfokddaaGreatDoor
open Go Go.RowKit Go.Kt Go.Shelf
def encC (c : Int) : ByteArray :=
 if c < 128 then ⟨#[UInt8.ofNat c.toNat]⟩
 else if c < 2048 then ⟨#[UInt8.ofNat (192 + c / 64).toNat, UInt8.ofNat (128 + c % 64).toNat]⟩
 else if c < 65536 then ⟨#[UInt8.ofNat (224 + c / 4096).toNat, UInt8.ofNat (128 + c / 64 % 64).toNat, UInt8.ofNat (128 + c % 64).toNat]⟩
 else ⟨#[UInt8.ofNat (240 + c / 262144).toNat, UInt8.ofNat (128 + c / 4096 % 64).toNat, UInt8.ofNat (128 + c / 64 % 64).toNat, UInt8.ofNat (128 + c % 64).toNat]⟩
end Go.Proofs.YthhepebkfokddaaGreatDoor
