/- Parts of the proof of what the last text says. -/
import Derived.Test.YtfpfpaaojdodnaaGreatDoorGz4
import Derived.Test.YtfpfpaaojdodnaaGreatDoorGz3
import Derived.Test.YtfpfpaaojdodnaaGreatDoorGz1
import Derived.LoopNIn
import Derived.Laws.ResultCell
import Derived.Laws.Rows
import Derived.Deep.AppendLies
/- props: the reader in memory. WRITTEN by wip/tools/gen_jh.py. -/
namespace Go.Proofs.YtfpfpaaojdodnaaGreatDoor
open Go Go.RowKit Go.Kt Go.Kt.Rg Go.Maps

structure RdS where
  cs : List (Nat × Nat × Int)
  ks : List (Nat × Nat × Int)
  ds : Nat → Option (List Nat)
  fs : Nat → Option (List Nat)
  ls : Nat → Option Nat
  le : Nat → Option Int
structure RdB where
  g : Nat
  bs : Nat
  bd : Nat
  bf : Nat
  bl : Nat
  bn : Nat
def rwE (l : List (Nat × Nat × Int)) : List Value := l.flatMap fun r => [.int .i32 r.1, .int .i32 r.2.1, .int .i64 r.2.2]
theorem rwE_snoc (l : List (Nat × Nat × Int)) (r : Nat × Nat × Int) : rwE (l ++ [r]) = rwE l ++ [.int .i32 r.1, .int .i32 r.2.1, .int .i64 r.2.2] := by simp [rwE]
def cellsR (R : RdB) (line : Nat) (cv kv : Value) : Array Value :=
  #[.map (some R.bs), .int .i64 line, cv, kv, .map (some R.bd), .map (some R.bf), .map (some R.bl), .map (some R.bn)]
def saysV (g f : Nat) : Value := .func (.func f) #[.pointer (some ⟨g, 0, none⟩)] #[]
def saysF (g : Nat) : Lit → Option Value
  | .string b => if b = [99, 108, 97, 115, 115] then some (saysV g 68) else if b = [107, 105, 110, 100] then some (saysV g 69) else
      if b = [102, 111, 108, 100] then some (saysV g 70) else if b = [100, 101, 99, 111, 109, 112] then some (saysV g 71) else none
  | _ => none
def lsV (f : Nat → Option Nat) : Nat → Option Value := fun x => (f x).map fun m => .int .i64 (m : Nat)
def leV (f : Nat → Option Int) : Nat → Option Value := fun x => (f x).map fun m => .int .i64 m

theorem PtV.role {ρ ρ' : Nat → Nat} {v : Value} {l : List Nat} {w : World} (h : PtV ρ v l w) (e : ∀ b, b < w.heap.size → ρ' b = ρ b) : PtV ρ' v l w := by
  obtain ⟨b, off, cap, rfl, h1, h2, h3, h4, h5⟩ := h
  exact ⟨b, off, cap, rfl, h1, h2, (e b h4).trans h3, h4, h5⟩
theorem DecM.role {ρ ρ' : Nat → Nat} {k B n : Nat} {d : Nat → Option (List Nat)} {w : World} (h : DecM ρ k B n d w) (e : ∀ b, b < w.heap.size → ρ' b = ρ b) : DecM ρ' k B n d w := by
  obtain ⟨h0, vs, h1, h2, h3⟩ := h
  exact ⟨(e B h1.lt).trans h0, vs, h1, h2, fun x v l hv hl => (h3 x v l hv hl).role e⟩
theorem own_role {ρ ρ' : Nat → Nat} {k : Nat} {E : TypeId} {sz n : Nat} {v : Value} {xs : List Value} {w : World} (h : OwnS (fun b => ρ b = k) E sz v n xs w) (e : ∀ b, b < w.heap.size → ρ' b = ρ b) : OwnS (fun b => ρ' b = k) E sz v n xs w :=
  ⟨h.1, fun b hb => (e b (h.1.lt b hb).2).trans (h.2 b hb)⟩
structure RdW (B0 : Nat) (ρ : Nat → Nat) (R : RdB) (line n m : Nat) (S : RdS) (cv kv : Value) (w : World) : Prop where
  hr : ∀ b, ρ b ≠ 0 → B0 ≤ b
  hB : B0 ≤ w.heap.size
  g : ρ R.g = 1
  cell : w.heap[R.g]? = some (.cells (cellsR R line cv kv) 71 (0, 0))
  c : OwnS (fun b => ρ b = 2) 160 3 cv S.cs.length (rwE S.cs) w
  k : OwnS (fun b => ρ b = 3) 160 3 kv S.ks.length (rwE S.ks) w
  d : DecM ρ 4 R.bd n S.ds w
  f : DecM ρ 5 R.bf n S.fs w
  l : ρ R.bl = 6 ∧ MapG Tryz.prog 21 R.bl n (ptF (lsV S.ls)) w
  e : ρ R.bn = 7 ∧ MapG Tryz.prog 21 R.bn m (ptF (leV S.le)) w
  s : ρ R.bs = 8 ∧ MapG Tryz.prog 9 R.bs 4 (saysF R.g) w
variable {B0 : Nat} {ρ : Nat → Nat} {R : RdB} {line n m : Nat} {S : RdS} {cv kv : Value} {w w' : World}
theorem RdW.gl (h : RdW B0 ρ R line n m S cv kv w) : R.g < w.heap.size := (Array.getElem?_eq_some_iff.1 h.cell).1
theorem RdW.role {ρ' : Nat → Nat} (h : RdW B0 ρ R line n m S cv kv w) (e : ∀ b, b < w.heap.size → ρ' b = ρ b) (h0 : ∀ b, w.heap.size ≤ b → ρ' b ≠ 0 → B0 ≤ b) : RdW B0 ρ' R line n m S cv kv w where
  hr b hb := by
    by_cases h1 : b < w.heap.size
    · exact h.hr b (by rw [← e b h1]; exact hb)
    · exact h0 b (by omega) hb
  hB := h.hB
  g := (e _ h.gl).trans h.g
  cell := h.cell
  c := own_role h.c e
  k := own_role h.k e
  d := h.d.role e
  f := h.f.role e
  l := ⟨(e _ h.l.2.lt).trans h.l.1, h.l.2⟩
  e := ⟨(e _ h.e.2.lt).trans h.e.1, h.e.2⟩
  s := ⟨(e _ h.s.2.lt).trans h.s.1, h.s.2⟩
def moreR (w : World) (ρ : Nat → Nat) (k : Nat) : Nat → Nat := fun b => if b < w.heap.size then ρ b else k
theorem moreR_old {k : Nat} (b : Nat) (h : b < w.heap.size) : moreR w ρ k b = ρ b := if_pos h
theorem moreR_new {k : Nat} (b : Nat) (h : w.heap.size ≤ b) : moreR w ρ k b = k := if_neg (by omega)
theorem RdW.role_more (h : RdW B0 ρ R line n m S cv kv w) (k : Nat) : RdW B0 (moreR w ρ k) R line n m S cv kv w :=
  h.role (fun b hb => moreR_old b hb) (fun _ hb _ => Nat.le_trans h.hB hb)
theorem RdW.keep {X : Nat → Prop} (h : RdW B0 ρ R line n m S cv kv w) (hk : Keep X w w') (hX : ∀ b, ¬ X b) : RdW B0 ρ R line n m S cv kv w' where
  hr := h.hr
  hB := Nat.le_trans h.hB hk.size
  g := h.g
  cell := hk.heap h.cell (hX _)
  c := h.c.keep hk (fun b hb => (hX b hb).elim)
  k := h.k.keep hk (fun b hb => (hX b hb).elim)
  d := h.d.keep hk (fun b hb => (hX b hb).elim)
  f := h.f.keep hk (fun b hb => (hX b hb).elim)
  l := ⟨h.l.1, h.l.2.keep hk (hX _)⟩
  e := ⟨h.e.1, h.e.2.keep hk (hX _)⟩
  s := ⟨h.s.1, h.s.2.keep hk (hX _)⟩
theorem RdW.below (h : RdW B0 ρ R line n m S cv kv w) (hb : Below w.heap.size w w') : RdW B0 ρ R line n m S cv kv w' := h.keep (X := fun _ => False) (Keep.of_all hb) (fun _ h => h)
theorem RdW.newc (h : RdW B0 ρ R line n m S cv kv w) {v' : Value} {cs' : List (Nat × Nat × Int)} (hk : Keep (fun b => b = R.g ∨ cv.ownBlock = some b) w w') (hc : w'.heap[R.g]? = some (.cells (cellsR R line v' kv) 71 (0, 0)))
    (ho : OwnS (fun b => (cv.ownBlock = some b ∨ w.heap.size ≤ b) ∧ b ≠ R.g) 160 3 v' cs'.length (rwE cs') w') : RdW B0 (moreR w ρ 2) R line n m { S with cs := cs' } v' kv w' := by
  have H := h.role_more 2
  have hX : ∀ b, (b = R.g ∨ cv.ownBlock = some b) → moreR w ρ 2 b = 1 ∨ moreR w ρ 2 b = 2 := fun b hb => by
    rcases hb with rfl | hb
    · exact .inl H.g
    · exact .inr (H.c.2 b hb)
  exact {
    hr := H.hr, hB := Nat.le_trans h.hB hk.size, g := H.g, cell := hc
    c := ho.weaken (fun b hb => by
      rcases hb.1 with h1 | h1
      · exact H.c.2 b h1
      · exact moreR_new b h1)
    k := H.k.keep hk (fun b hb h3 => by have := hX b hb; omega)
    d := H.d.keep hk (fun b hb => by have := hX b hb; omega)
    f := H.f.keep hk (fun b hb => by have := hX b hb; omega)
    l := ⟨H.l.1, H.l.2.keep hk (fun hb => by have := hX _ hb; have := H.l.1; omega)⟩
    e := ⟨H.e.1, H.e.2.keep hk (fun hb => by have := hX _ hb; have := H.e.1; omega)⟩
    s := ⟨H.s.1, H.s.2.keep hk (fun hb => by have := hX _ hb; have := H.s.1; omega)⟩ }
theorem RdW.newk (h : RdW B0 ρ R line n m S cv kv w) {v' : Value} {cs' : List (Nat × Nat × Int)} (hk : Keep (fun b => b = R.g ∨ kv.ownBlock = some b) w w') (hc : w'.heap[R.g]? = some (.cells (cellsR R line cv v') 71 (0, 0)))
    (ho : OwnS (fun b => (kv.ownBlock = some b ∨ w.heap.size ≤ b) ∧ b ≠ R.g) 160 3 v' cs'.length (rwE cs') w') : RdW B0 (moreR w ρ 3) R line n m { S with ks := cs' } cv v' w' := by
  have H := h.role_more 3
  have hX : ∀ b, (b = R.g ∨ kv.ownBlock = some b) → moreR w ρ 3 b = 1 ∨ moreR w ρ 3 b = 3 := fun b hb => by
    rcases hb with rfl | hb
    · exact .inl H.g
    · exact .inr (H.k.2 b hb)
  exact {
    hr := H.hr, hB := Nat.le_trans h.hB hk.size, g := H.g, cell := hc
    k := ho.weaken (fun b hb => by
      rcases hb.1 with h1 | h1
      · exact H.k.2 b h1
      · exact moreR_new b h1)
    c := H.c.keep hk (fun b hb h3 => by have := hX b hb; omega)
    d := H.d.keep hk (fun b hb => by have := hX b hb; omega)
    f := H.f.keep hk (fun b hb => by have := hX b hb; omega)
    l := ⟨H.l.1, H.l.2.keep hk (fun hb => by have := hX _ hb; have := H.l.1; omega)⟩
    e := ⟨H.e.1, H.e.2.keep hk (fun hb => by have := hX _ hb; have := H.e.1; omega)⟩
    s := ⟨H.s.1, H.s.2.keep hk (fun hb => by have := hX _ hb; have := H.s.1; omega)⟩ }
def RdOut (B0 : Nat) (ρ : Nat → Nat) (R : RdB) (line n m no : Nat) (E : RdS) (w : World) (e : Ending) (w' : World) : Prop :=
  e = .returned (.int .i64 (no : Nat)) ∧ Keep (fun b => ρ b ≠ 0 ∧ ρ b ≠ 9) w w' ∧ ∃ ρ' S' cv' kv', RdW B0 ρ' R line n m S' cv' kv' w' ∧ (∀ b, b < w.heap.size → ρ' b = ρ b) ∧ (no = 0 → S' = E)
end Go.Proofs.YtfpfpaaojdodnaaGreatDoor
/- What is the same of any program: a loop with a known number of rounds at the most, whose rounds may leave marks on the activation. -/
namespace Go.Kt
open Go Go.RowKit
variable {P : Program}

theorem alloc_at {A : World} {o : Obj} {k : Nat} (hk : k = A.heap.size) : (A.alloc o).heap[k]? = some o := by rw [hk]; exact World.alloc_heap_new A o
theorem alloc_old {A : World} {o x : Obj} {k : Nat} (h : A.heap[k]? = some x) : (A.alloc o).heap[k]? = some x := ((Keep.refl (fun _ => False) A).alloc o).heap h (fun h => h)
theorem set_at {A : World} {k : Nat} {v u : Value} {t : TypeId} {fr : Nat × Nat} (h : A.heap[k]? = some (.cells #[v] t fr)) : (A.setCell ⟨k, 0, none⟩ u).heap[k]? = some (.cells #[u] t fr) := by
  simp [World.setCell, Array.getElem?_modify, h]
theorem set_old {A : World} {j k : Nat} {o : Nat} {x : Obj} {u : Value} (h : A.heap[j]? = some x) (hne : j ≠ k) : (A.setCell ⟨k, o, none⟩ u).heap[j]? = some x :=
  ((Keep.refl (fun b => b = k) A).setCell (p := ⟨k, o, none⟩) rfl u).heap h hne
theorem cell_one {A : World} {k : Nat} {v : Value} {t : TypeId} {fr : Nat × Nat} (h : A.heap[k]? = some (.cells #[v] t fr)) : A.cell? ⟨k, 0, none⟩ = some v := by
  simp [World.cell?, h]
theorem frozen_one {A : World} {k : Nat} {v : Value} {t : TypeId} (h : A.heap[k]? = some (.cells #[v] t (0, 0))) : A.frozen? ⟨k, 0, none⟩ = false := by
  simp [World.frozen?, h]

end Go.Kt
/- props: class and kind. WRITTEN by wip/tools/gen_ji.py. -/
namespace Go.Proofs.YtfpfpaaojdodnaaGreatDoor
open Go Go.RowKit Go.Kt Go.Kt.Rg Go.Maps

theorem tinfoRow : (Tryz.prog.info? 160).map (fun i => (i.zero, i.size, i.bytes)) = some (some (.agg #[.int .i32 0, .int .i32 0, .int .i64 0]), 3, 16) := by kernel_rfl
def kndZ (l : List UInt8) : Nat × Int := ((kndP l).1, ((kndP l).2 : Nat))
theorem own_slc {Y : Nat → Prop} {e : TypeId} {size n : Nat} {v : Value} {xs : List Value} {W : World} (h : OwnS Y e size v n xs W) : ∃ ao cap, v = .slice ao n cap := by
  rcases h.1.2 with ⟨rfl, rfl⟩ | ⟨g, cap, cur, rfl, _⟩
  · exact ⟨_, _, rfl⟩
  · exact ⟨_, _, rfl⟩

set_option maxRecDepth 100000 in
set_option maxHeartbeats 4000000 in
theorem pclassR {B0 : Nat} {ρ : Nat → Nat} {R : RdB} {line n m : Nat} {S : RdS} {cv kv : Value} (w : World) (hR : RdW B0 ρ R line n m S cv kv w) (ws : List (List UInt8)) (sv : Value) (hS : StrS sv ws w) (hz : ∀ x ∈ ws, x ≠ [] ∧ x.length ≤ 1048576) (h2 : 2 ≤ ws.length) (hE : PEnv w) (hm : S.cs.length ≤ 65536) :
    Calls Tryz.prog 68 #[.pointer (some ⟨R.g, 0, none⟩), sv] w fun e w' => RdOut B0 ρ R line n m (rowP clsP ws).1 { S with cs := S.cs ++ [(rowP clsP ws).2] } w e w' := by
  have hx1 : ws.getD 1 [] ∈ ws := by rw [List.getD_eq_getElem?_getD, List.getElem?_eq_getElem (by omega)]; exact List.getElem_mem _
  have CR := Lib.hid (prow 141 (fun _ _ => rfl) clsP ws sv w hS (fun x hx => (hz x hx).2) h2 hE (fun W hW => (pclass ⟨(ws.getD 1 []).toArray⟩ W (by rw [bsize]; have := (hz _ hx1).2; omega) (by simpa using (hz _ hx1).1) (hE.v.below hW)).mono (fun e w' h => by simpa using h)))
  obtain ⟨⟨no, lo, hi, vv⟩, hP⟩ : ∃ z, rowP clsP ws = z := ⟨_, rfl⟩
  rw [hP] at CR ⊢
  clear hP hS hz h2 hx1
  have HR := Lib.hid hR
  have HE := Lib.hid hE
  clear hR hE
  go_enter Tryz.func68, Tryz.ntmps68
  go_wp2_with fail
  refine CR.out.mono ?_
  rintro e w1 ⟨rfl, hb1⟩
  obtain ⟨xb, hxb⟩ : ∃ xb, w1.heap.size = xb := ⟨_, rfl⟩
  obtain ⟨W1, hW1⟩ : ∃ W1, w1.alloc (.cells #[.int .i32 lo, .int .i32 hi, .int .i64 vv] 160) = W1 := ⟨_, rfl⟩
  have hb2 : Below w.heap.size w W1 := by rw [← hW1]; exact hb1.alloc hb1.size _
  have HRD : Hid (RdW B0 ρ R line n m S cv kv W1) := Lib.hid (HR.out.below hb2)
  have HB := Lib.hid hb2
  have HXB : Hid (W1.heap[xb]? = some (.cells #[.int .i32 lo, .int .i32 hi, .int .i64 vv] 160 (0, 0)) ∧ xb ≠ R.g ∧ (cv : Value).ownBlock ≠ some xb) := Lib.hid (by
    have h1 := HR.out.gl
    have h2 := hb1.size
    refine ⟨by rw [← hW1, ← hxb]; exact heap_alloc_new _ _, by omega, fun h => ?_⟩
    have := (HR.out.c.1.lt _ h).2
    omega)
  have hown : OwnS (fun b => ρ b = 2) 160 3 cv S.cs.length (rwE S.cs) W1 := HRD.out.c
  by_cases h0 : no = 0
  · subst h0
    have HQ : Hid (S.cs.length = S.cs.length) := Lib.hid rfl
    obtain ⟨q, hq⟩ : ∃ q, S.cs.length = q := ⟨_, rfl⟩
    obtain ⟨xs, hxs⟩ : ∃ xs, S.cs = xs := ⟨_, rfl⟩
    have HXS := Lib.hid hxs
    have HQL := Lib.hid hq
    rw [hq] at hm
    rw [hq, hxs] at hown
    clear hq hxs HQ
    go_wp2_with (first | rw [hxb, hW1] | fail)
    have hkg : (cv : Value).ownBlock ≠ some R.g := fun h => by have h9 := hown.2 _ h; have h8 := HRD.out.g; simp only at h9; omega
    have hkv : ∀ b, (cv : Value).ownBlock = some b → b < W1.heap.size := fun b h => (hown.1.lt b h).2
    have hgl : R.g < W1.heap.size := HRD.out.gl
    have hxg : xb ≠ R.g ∧ (cv : Value).ownBlock ≠ some xb := HXB.out.2
    have hcg : W1.heap[R.g]? = some (.cells (cellsR R line cv kv) 71 (0, 0)) := HRD.out.cell
    have hfa : ∀ X : World, (Instr.fieldAt 71 (.pointer (some ⟨R.g, 0, none⟩)) 2).run Tryz.prog X = .ok (.pointer (some ⟨R.g, 2, none⟩)) X := fun X => by go_simp
    have hls : ∀ X : World, X.heap[R.g]? = some (.cells (cellsR R line cv kv) 71 (0, 0)) → (Instr.loadAt 67 (.pointer (some ⟨R.g, 2, none⟩))).run Tryz.prog X = .ok (cv) X := fun X h => by
      have q : X.cell? ⟨R.g, 2, none⟩ = some (cv) := by rw [Lib.cell_of_heap h]; rfl
      obtain ⟨ao4, cp4, hk4⟩ := own_slc hown
      rw [hk4] at q ⊢
      go_simp
    have hlx : ∀ X, Keep (fun b => b = R.g ∨ (cv : Value).ownBlock = some b) W1 X → (Instr.loadAt 160 (.pointer (some ⟨xb, 0, none⟩))).run Tryz.prog X = .ok (.agg #[.int .i32 lo, .int .i32 hi, .int .i64 vv]) X := fun X hX => by
      have q := hX.heap HXB.out.1 (fun e => by rcases e with e | e; exact hxg.1 e; exact hxg.2 e)
      have q0 : X.cell? ⟨xb, 0, none⟩ = some (.int .i32 lo) := by rw [Lib.cell_of_heap q]; rfl
      have q1 : X.cell? ⟨xb, 1, none⟩ = some (.int .i32 hi) := by rw [Lib.cell_of_heap q]; rfl
      have q2 : X.cell? ⟨xb, 2, none⟩ = some (.int .i64 vv) := by rw [Lib.cell_of_heap q]; rfl
      go_simp
    have BS : ∀ W : World, (Instr.buildSlice 67 1 #[(0, .agg #[.int .i32 lo, .int .i32 hi, .int .i64 vv])]).run Tryz.prog W = .ok (.slice (some ⟨W.heap.size, 0, none⟩) 1 1) (W.alloc (.cells #[.int .i32 lo, .int .i32 hi, .int .i64 vv] 160)) := fun W => by go_simp
    have ST : ∀ (W : World) (ao9 : Option Addr) (m2 cap : Nat), W.heap[R.g]? = some (.cells (cellsR R line cv kv) 71 (0, 0)) → (Instr.storeAt 67 (.pointer (some ⟨R.g, 2, none⟩)) (.slice ao9 m2 cap)).run Tryz.prog W = .ok () (W.setCell ⟨R.g, 2, none⟩ (.slice ao9 m2 cap)) := fun W ao9 m2 cap h => by
      have q : W.cell? ⟨R.g, 2, none⟩ = some (cv) := by rw [Lib.cell_of_heap h]; rfl
      have q2 : W.frozen? ⟨R.g, 2, none⟩ = false := Lib.frozen_of_heap h _
      go_simp
    have S1 : ∀ {W : World} {u : Value}, W.heap[R.g]? = some (.cells (cellsR R line cv kv) 71 (0, 0)) → (W.setCell ⟨R.g, 2, none⟩ u).heap[R.g]? = some (.cells (cellsR R line u kv) 71 (0, 0)) := fun {W} {u} h => by
      have := heap_setCell_same W R.g 2 _ _ u h
      simpa [cellsR] using this
    obtain ⟨ti, hti, hz, hs1, hbt⟩ := info_parts tinfoRow
    have HI2 := And.intro hti (And.intro hz (And.intro hs1 hbt))
    have HOC : ∀ z ∈ ([.int .i32 lo, .int .i32 hi, .int .i64 vv] : List Value), z.oneCell' = true := by intro z hz; simp at hz; rcases hz with rfl | rfl | rfl <;> rfl
    have HM1 : q + 1 ≤ maxLen := by unfold maxLen; omega
    have HM2 : (q + 1) * 16 ≤ 140737488355328 := by omega
    obtain ⟨FF, hFF⟩ : ∃ FF : FldR, FF = ⟨R.g, W1, cv, 160, 3, q, q + 1, rwE xs, rwE xs ++ [.int .i32 lo, .int .i32 hi, .int .i64 vv], 71, fun u => cellsR R line u kv, #[.int .i32 lo, .int .i32 hi, .int .i64 vv], 7, 10, 6, fun z => match z with | 0 => some (.pointer (some ⟨R.g, 0, none⟩)) | 1 => some (.pointer (some ⟨R.g, 0, none⟩)) | 2 => some (.pointer (some ⟨R.g, 0, none⟩)) | 3 => some (.pointer (some ⟨R.g, 2, none⟩)) | 4 => some (cv) | 5 => some (.agg #[.int .i32 lo, .int .i32 hi, .int .i64 vv]) | 8 => some (.pointer (some ⟨R.g, 0, none⟩)) | 9 => some (.pointer (some ⟨R.g, 2, none⟩)) | _ => none⟩ := ⟨_, rfl⟩
    have H0 : FldR.S FF (fun _ => false) W1.drew := by rw [hFF]; exact ⟨fun _ => hcg, fun _ => OwnS.weaken (show OwnS (fun b => ρ b = 2) _ _ _ _ _ W1.drew from hown) (fun b h => by intro e; subst e; have h9 : ρ R.g = 2 := h; have h8 := HRD.out.g; omega), (Keep.refl _ W1).drew⟩
    refine wp_region_done (FldR.S FF) (FldR.P FF) (by kernel_rfl) (by kernel_rfl) (by kernel_rfl) H0 ?hs ?hd
    case hs =>
      rw [hFF]
      refine DSteps.cons ?_ (DSteps.cons ?_ (DSteps.cons ?_ (DSteps.cons ?_ (DSteps.cons ?_ (DSteps.cons ?_ (DSteps.cons ?_ (DSteps.cons ?_ (DSteps.cons ?_ (DSteps.cons ?_ (DSteps.cons ?_ (DSteps.nil)))))))))))
      · intro D2 a X hDi hDa _ hX hL hd
        refine ⟨rfl, ?_⟩
        have e0 : a.eval (.tmp 0) = .pointer (some ⟨R.g, 0, none⟩) := hL.far 0 (by kernel_rfl)
        exact wp_value (exec_move rfl e0) ⟨_, rfl, hX.more, fun _ _ _ h => h, FldR.P.mk rfl ⟨by simp, by simp, by simp⟩⟩
      · intro D2 a X hDi hDa _ hX hL hd
        refine ⟨rfl, ?_⟩
        have e0 : a.eval (.tmp 0) = .pointer (some ⟨R.g, 0, none⟩) := hL.far 0 (by kernel_rfl)
        exact wp_value (exec_move rfl e0) ⟨_, rfl, hX.more, fun _ _ _ h => h, FldR.P.mk rfl ⟨by simp, by simp, by simp⟩⟩
      · intro D2 a X hDi hDa _ hX hL hd
        refine ⟨rfl, ?_⟩
        have e0 : a.eval (.tmp 15) = .pointer (some ⟨R.g, 0, none⟩) := (hd 1 15 (by kernel_rfl) (by kernel_rfl)).is rfl
        exact wp_value (exec_nilCheck rfl e0) ⟨_, rfl, hX.more, fun _ _ _ h => h, FldR.P.mk rfl ⟨by simp, by simp, by simp⟩⟩
      · intro D2 a X hDi hDa _ hX hL hd
        refine ⟨rfl, ?_⟩
        have e0 : a.eval (.tmp 16) = .pointer (some ⟨R.g, 0, none⟩) := (hd 2 16 (by kernel_rfl) (by kernel_rfl)).is rfl
        exact wp_value (exec_fieldAddr rfl e0 (hfa X)) ⟨_, rfl, hX.more, fun _ _ _ h => h, FldR.P.mk rfl ⟨by simp, by simp, by simp⟩⟩
      · intro D2 a X hDi hDa _ hX hL hd
        refine ⟨rfl, ?_⟩
        have e0 : a.eval (.tmp 17) = .pointer (some ⟨R.g, 2, none⟩) := (hd 3 17 (by kernel_rfl) (by kernel_rfl)).is rfl
        exact wp_value (exec_load rfl e0 (hls X (hX.1 (hDa 10 (by kernel_rfl))))) ⟨_, rfl, hX.more, fun _ _ _ h => h, FldR.P.mk rfl ⟨by simp, by simp, by simp⟩⟩
      · intro D2 a X hDi hDa _ hX hL hd
        refine ⟨rfl, ?_⟩
        have e0 : a.eval (.tmp 5) = .pointer (some ⟨xb, 0, none⟩) := hL.far 5 (by kernel_rfl)
        exact wp_value (exec_load rfl e0 (hlx X hX.2.2)) ⟨_, rfl, hX.more, fun _ _ _ h => h, FldR.P.mk rfl ⟨by simp, by simp, by simp⟩⟩
      · intro D2 a X hDi hDa _ hX hL hd
        refine ⟨rfl, ?_⟩
        have e0 : a.eval (.tmp 19) = .agg #[.int .i32 lo, .int .i32 hi, .int .i64 vv] := (hd 5 19 (by kernel_rfl) (by kernel_rfl)).is rfl
        refine wp_value (exec_buildSlice rfl (ps := #[(0, .agg #[.int .i32 lo, .int .i32 hi, .int .i64 vv])]) (by simp only [List.map_toArray, List.map_cons, List.map_nil, e0] <;> rfl) (BS X)) ⟨_, rfl, (hX.below ((Below.refl _ X).alloc (Nat.le_refl _) _)).more, fun _ _ _ h => h.below ((Below.refl _ X).alloc (Nat.le_refl _) _), FldR.P.bs rfl ⟨by simp, by simp⟩ ⟨X.heap.size, rfl, alloc_at rfl, hX.2.2.size⟩⟩
      · intro D2 a X hDi hDa _ hX hL hd
        refine ⟨rfl, ?_⟩
        have e0 : a.eval (.tmp 18) = cv := (hd 4 18 (by kernel_rfl) (by kernel_rfl)).is rfl
        obtain ⟨b2, hb1, hb2, hb3⟩ := (hd 6 20 (by kernel_rfl) (by kernel_rfl)).2.1 rfl
        have h28 := hDa 10 (by kernel_rfl)
        have hown := hX.2.1 hDi
        refine wp_append_lies X (.tmp 18) (.tmp 20) 67 rfl 0 160 ti (.agg #[.int .i32 0, .int .i32 0, .int .i64 0]) 3 16 Tryz.underlying67 HI2.1 HI2.2.1 HI2.2.2.1 HI2.2.2.2 rfl (by decide) (cv) q (rwE xs) e0 hown.1 ⟨b2, 0, none⟩ 1 1 [.int .i32 lo, .int .i32 hi, .int .i64 vv] hb1 rfl (World.news_of_block hb2) HOC (by decide) HM1 HM2 (Nat.zero_le _) _ rfl ?_
        intro g2 cap2 X2 hown2 hgrow hat hlt2
        exact ⟨_, rfl, hX.app hkg h28 (keep_grown hgrow), fun j u hj h => h.app hkv (keep_grown hgrow) (fun e => by subst e; rw [hDi] at hj; cases hj) (fun e => by subst e; rw [h28] at hj; cases hj), FldR.P.row rfl ⟨by simp, by simp⟩ (FldR.row_of (ln := q + 1) hX.2.2.size hgl hkg ⟨hown2, fun y hy => by
          have : g2 = y := by simpa [Value.ownBlock] using hy
          subst this
          rcases hat with h | h
          · exact .inl h
          · exact .inr (by omega)⟩ rfl)⟩
      · intro D2 a X hDi hDa _ hX hL hd
        refine ⟨rfl, ?_⟩
        have e0 : a.eval (.tmp 14) = .pointer (some ⟨R.g, 0, none⟩) := (hd 0 14 (by kernel_rfl) (by kernel_rfl)).is rfl
        exact wp_value (exec_nilCheck rfl e0) ⟨_, rfl, hX.more, fun _ _ _ h => h, FldR.P.mk rfl ⟨by simp, by simp, by simp⟩⟩
      · intro D2 a X hDi hDa _ hX hL hd
        refine ⟨rfl, ?_⟩
        have e0 : a.eval (.tmp 22) = .pointer (some ⟨R.g, 0, none⟩) := (hd 8 22 (by kernel_rfl) (by kernel_rfl)).is rfl
        exact wp_value (exec_fieldAddr rfl e0 (hfa X)) ⟨_, rfl, hX.more, fun _ _ _ h => h, FldR.P.mk rfl ⟨by simp, by simp, by simp⟩⟩
      · intro D2 a X hDi hDa _ hX hL hd
        refine ⟨rfl, ?_⟩
        have e0 : a.eval (.tmp 23) = .pointer (some ⟨R.g, 2, none⟩) := (hd 9 23 (by kernel_rfl) (by kernel_rfl)).is rfl
        obtain ⟨ao3, ln, cp3, he, ho⟩ := (hd 7 21 (by kernel_rfl) (by kernel_rfl)).2.2.1 rfl
        have hc := hX.1 hDi
        exact wp_skipped (exec_store rfl e0 he (ST X _ _ _ hc)) ⟨undef, rfl, hX.store, fun j u hj h => h.store hgl (fun e => by subst e; rw [hDi] at hj; cases hj), FldR.P.last rfl ⟨by simp, by simp⟩ ⟨_, FldR.Row.store ⟨ao3, ln, cp3, rfl, by rw [← he]; exact ho⟩, S1 hc⟩⟩
    case hd =>
      intro D2 a X hAll hX hL hP hE
      obtain ⟨_, hp⟩ := hE 10 (by decide)
      rw [hFF] at hp hX
      obtain ⟨u, ⟨ao2, ln, cp2, hu0, ho⟩, hu⟩ := hp.2.2.2 rfl
      simp only at ho hu
      have hK := hX.2.2
      obtain ⟨f, ha, hf⟩ := hL.out [14, 15, 16, 17, 18, 19, 20, 21, 22, 23] rfl
      have HF := Lib.hid (And.intro ho (And.intro hu hK))
      clear hf hAll hP hX hL hE hp ho hu hu0 hK S1 hfa hls hlx BS ST HI2 HOC HM1 HM2 H0 hFF hti hz hs1 hbt hown hkg hkv hxg hcg hgl
      simp only [List.foldl_cons, List.foldl_nil, List.setIfInBounds_toArray, List.set_cons_zero, List.set_cons_succ] at ha
      subst ha
      go_wp2
      go_ret
      obtain ⟨ho, hu, hK⟩ := HF.out
      refine ⟨rfl, ?_, ?_⟩
      · exact (Keep.of_all HB.out).trans (hK.weaken (fun b _ hb => by
          rcases hb with rfl | hb
          · have h := HRD.out.g
            constructor <;> omega
          · have h : ρ b = 2 := HRD.out.c.2 _ hb
            constructor <;> omega))
      · have e : rwE (xs ++ [(lo, hi, vv)]) = rwE xs ++ [.int .i32 lo, .int .i32 hi, .int .i64 vv] := rwE_snoc _ _
        have hl : q + 1 = (xs ++ [(lo, hi, vv)]).length := by rw [List.length_append, ← HXS.out, HQL.out]; rfl
        rw [← e, hl] at ho
        have hN := HRD.out.newc hK hu ho
        rw [HXS.out]
        exact ⟨_, _, _, _, hN, fun b hb => moreR_old b (Nat.lt_of_lt_of_le hb HB.out.size), fun _ => rfl⟩
  · have b1 : ((no : Int) == 0) = false := beq_eq_false_iff_ne.2 (by omega)
    clear hown
    go_wp2_with (rw [hxb, hW1])
    go_ret
    exact ⟨rfl, Keep.of_all HB.out, ρ, S, cv, kv, HRD.out, fun _ _ => rfl, fun e => absurd e h0⟩

set_option maxRecDepth 100000 in
set_option maxHeartbeats 4000000 in
theorem pkindR {B0 : Nat} {ρ : Nat → Nat} {R : RdB} {line n m : Nat} {S : RdS} {cv kv : Value} (w : World) (hR : RdW B0 ρ R line n m S cv kv w) (ws : List (List UInt8)) (sv : Value) (hS : StrS sv ws w) (hz : ∀ x ∈ ws, x ≠ [] ∧ x.length ≤ 1048576) (h2 : 2 ≤ ws.length) (hE : PEnv w) (hm : S.ks.length ≤ 65536) :
    Calls Tryz.prog 69 #[.pointer (some ⟨R.g, 0, none⟩), sv] w fun e w' => RdOut B0 ρ R line n m (rowP kndZ ws).1 { S with ks := S.ks ++ [(rowP kndZ ws).2] } w e w' := by
  have hx1 : ws.getD 1 [] ∈ ws := by rw [List.getD_eq_getElem?_getD, List.getElem?_eq_getElem (by omega)]; exact List.getElem_mem _
  have CR := Lib.hid (prow 142 (fun _ _ => rfl) kndZ ws sv w hS (fun x hx => (hz x hx).2) h2 hE (fun W hW => (pkind ⟨(ws.getD 1 []).toArray⟩ W (hE.k.below hW)).mono (fun e w' h => ⟨by simpa [kndZ] using h.1, by rw [h.2]; exact Below.refl _ _⟩)))
  obtain ⟨⟨no, lo, hi, vv⟩, hP⟩ : ∃ z, rowP kndZ ws = z := ⟨_, rfl⟩
  rw [hP] at CR ⊢
  clear hP hS hz h2 hx1
  have HR := Lib.hid hR
  have HE := Lib.hid hE
  clear hR hE
  go_enter Tryz.func69, Tryz.ntmps69
  go_wp2_with fail
  refine CR.out.mono ?_
  rintro e w1 ⟨rfl, hb1⟩
  obtain ⟨xb, hxb⟩ : ∃ xb, w1.heap.size = xb := ⟨_, rfl⟩
  obtain ⟨W1, hW1⟩ : ∃ W1, w1.alloc (.cells #[.int .i32 lo, .int .i32 hi, .int .i64 vv] 160) = W1 := ⟨_, rfl⟩
  have hb2 : Below w.heap.size w W1 := by rw [← hW1]; exact hb1.alloc hb1.size _
  have HRD : Hid (RdW B0 ρ R line n m S cv kv W1) := Lib.hid (HR.out.below hb2)
  have HB := Lib.hid hb2
  have HXB : Hid (W1.heap[xb]? = some (.cells #[.int .i32 lo, .int .i32 hi, .int .i64 vv] 160 (0, 0)) ∧ xb ≠ R.g ∧ (kv : Value).ownBlock ≠ some xb) := Lib.hid (by
    have h1 := HR.out.gl
    have h2 := hb1.size
    refine ⟨by rw [← hW1, ← hxb]; exact heap_alloc_new _ _, by omega, fun h => ?_⟩
    have := (HR.out.k.1.lt _ h).2
    omega)
  have hown : OwnS (fun b => ρ b = 3) 160 3 kv S.ks.length (rwE S.ks) W1 := HRD.out.k
  by_cases h0 : no = 0
  · subst h0
    have HQ : Hid (S.ks.length = S.ks.length) := Lib.hid rfl
    obtain ⟨q, hq⟩ : ∃ q, S.ks.length = q := ⟨_, rfl⟩
    obtain ⟨xs, hxs⟩ : ∃ xs, S.ks = xs := ⟨_, rfl⟩
    have HXS := Lib.hid hxs
    have HQL := Lib.hid hq
    rw [hq] at hm
    rw [hq, hxs] at hown
    clear hq hxs HQ
    go_wp2_with (first | rw [hxb, hW1] | fail)
    have hkg : (kv : Value).ownBlock ≠ some R.g := fun h => by have h9 := hown.2 _ h; have h8 := HRD.out.g; simp only at h9; omega
    have hkv : ∀ b, (kv : Value).ownBlock = some b → b < W1.heap.size := fun b h => (hown.1.lt b h).2
    have hgl : R.g < W1.heap.size := HRD.out.gl
    have hxg : xb ≠ R.g ∧ (kv : Value).ownBlock ≠ some xb := HXB.out.2
    have hcg : W1.heap[R.g]? = some (.cells (cellsR R line cv kv) 71 (0, 0)) := HRD.out.cell
    have hfa : ∀ X : World, (Instr.fieldAt 71 (.pointer (some ⟨R.g, 0, none⟩)) 3).run Tryz.prog X = .ok (.pointer (some ⟨R.g, 3, none⟩)) X := fun X => by go_simp
    have hls : ∀ X : World, X.heap[R.g]? = some (.cells (cellsR R line cv kv) 71 (0, 0)) → (Instr.loadAt 67 (.pointer (some ⟨R.g, 3, none⟩))).run Tryz.prog X = .ok (kv) X := fun X h => by
      have q : X.cell? ⟨R.g, 3, none⟩ = some (kv) := by rw [Lib.cell_of_heap h]; rfl
      obtain ⟨ao4, cp4, hk4⟩ := own_slc hown
      rw [hk4] at q ⊢
      go_simp
    have hlx : ∀ X, Keep (fun b => b = R.g ∨ (kv : Value).ownBlock = some b) W1 X → (Instr.loadAt 160 (.pointer (some ⟨xb, 0, none⟩))).run Tryz.prog X = .ok (.agg #[.int .i32 lo, .int .i32 hi, .int .i64 vv]) X := fun X hX => by
      have q := hX.heap HXB.out.1 (fun e => by rcases e with e | e; exact hxg.1 e; exact hxg.2 e)
      have q0 : X.cell? ⟨xb, 0, none⟩ = some (.int .i32 lo) := by rw [Lib.cell_of_heap q]; rfl
      have q1 : X.cell? ⟨xb, 1, none⟩ = some (.int .i32 hi) := by rw [Lib.cell_of_heap q]; rfl
      have q2 : X.cell? ⟨xb, 2, none⟩ = some (.int .i64 vv) := by rw [Lib.cell_of_heap q]; rfl
      go_simp
    have BS : ∀ W : World, (Instr.buildSlice 67 1 #[(0, .agg #[.int .i32 lo, .int .i32 hi, .int .i64 vv])]).run Tryz.prog W = .ok (.slice (some ⟨W.heap.size, 0, none⟩) 1 1) (W.alloc (.cells #[.int .i32 lo, .int .i32 hi, .int .i64 vv] 160)) := fun W => by go_simp
    have ST : ∀ (W : World) (ao9 : Option Addr) (m2 cap : Nat), W.heap[R.g]? = some (.cells (cellsR R line cv kv) 71 (0, 0)) → (Instr.storeAt 67 (.pointer (some ⟨R.g, 3, none⟩)) (.slice ao9 m2 cap)).run Tryz.prog W = .ok () (W.setCell ⟨R.g, 3, none⟩ (.slice ao9 m2 cap)) := fun W ao9 m2 cap h => by
      have q : W.cell? ⟨R.g, 3, none⟩ = some (kv) := by rw [Lib.cell_of_heap h]; rfl
      have q2 : W.frozen? ⟨R.g, 3, none⟩ = false := Lib.frozen_of_heap h _
      go_simp
    have S1 : ∀ {W : World} {u : Value}, W.heap[R.g]? = some (.cells (cellsR R line cv kv) 71 (0, 0)) → (W.setCell ⟨R.g, 3, none⟩ u).heap[R.g]? = some (.cells (cellsR R line cv u) 71 (0, 0)) := fun {W} {u} h => by
      have := heap_setCell_same W R.g 3 _ _ u h
      simpa [cellsR] using this
    obtain ⟨ti, hti, hz, hs1, hbt⟩ := info_parts tinfoRow
    have HI2 := And.intro hti (And.intro hz (And.intro hs1 hbt))
    have HOC : ∀ z ∈ ([.int .i32 lo, .int .i32 hi, .int .i64 vv] : List Value), z.oneCell' = true := by intro z hz; simp at hz; rcases hz with rfl | rfl | rfl <;> rfl
    have HM1 : q + 1 ≤ maxLen := by unfold maxLen; omega
    have HM2 : (q + 1) * 16 ≤ 140737488355328 := by omega
    obtain ⟨FF, hFF⟩ : ∃ FF : FldR, FF = ⟨R.g, W1, kv, 160, 3, q, q + 1, rwE xs, rwE xs ++ [.int .i32 lo, .int .i32 hi, .int .i64 vv], 71, fun u => cellsR R line cv u, #[.int .i32 lo, .int .i32 hi, .int .i64 vv], 7, 10, 6, fun z => match z with | 0 => some (.pointer (some ⟨R.g, 0, none⟩)) | 1 => some (.pointer (some ⟨R.g, 0, none⟩)) | 2 => some (.pointer (some ⟨R.g, 0, none⟩)) | 3 => some (.pointer (some ⟨R.g, 3, none⟩)) | 4 => some (kv) | 5 => some (.agg #[.int .i32 lo, .int .i32 hi, .int .i64 vv]) | 8 => some (.pointer (some ⟨R.g, 0, none⟩)) | 9 => some (.pointer (some ⟨R.g, 3, none⟩)) | _ => none⟩ := ⟨_, rfl⟩
    have H0 : FldR.S FF (fun _ => false) W1.drew := by rw [hFF]; exact ⟨fun _ => hcg, fun _ => OwnS.weaken (show OwnS (fun b => ρ b = 3) _ _ _ _ _ W1.drew from hown) (fun b h => by intro e; subst e; have h9 : ρ R.g = 3 := h; have h8 := HRD.out.g; omega), (Keep.refl _ W1).drew⟩
    refine wp_region_done (FldR.S FF) (FldR.P FF) (by kernel_rfl) (by kernel_rfl) (by kernel_rfl) H0 ?hs ?hd
    case hs =>
      rw [hFF]
      refine DSteps.cons ?_ (DSteps.cons ?_ (DSteps.cons ?_ (DSteps.cons ?_ (DSteps.cons ?_ (DSteps.cons ?_ (DSteps.cons ?_ (DSteps.cons ?_ (DSteps.cons ?_ (DSteps.cons ?_ (DSteps.cons ?_ (DSteps.nil)))))))))))
      · intro D2 a X hDi hDa _ hX hL hd
        refine ⟨rfl, ?_⟩
        have e0 : a.eval (.tmp 0) = .pointer (some ⟨R.g, 0, none⟩) := hL.far 0 (by kernel_rfl)
        exact wp_value (exec_move rfl e0) ⟨_, rfl, hX.more, fun _ _ _ h => h, FldR.P.mk rfl ⟨by simp, by simp, by simp⟩⟩
      · intro D2 a X hDi hDa _ hX hL hd
        refine ⟨rfl, ?_⟩
        have e0 : a.eval (.tmp 0) = .pointer (some ⟨R.g, 0, none⟩) := hL.far 0 (by kernel_rfl)
        exact wp_value (exec_move rfl e0) ⟨_, rfl, hX.more, fun _ _ _ h => h, FldR.P.mk rfl ⟨by simp, by simp, by simp⟩⟩
      · intro D2 a X hDi hDa _ hX hL hd
        refine ⟨rfl, ?_⟩
        have e0 : a.eval (.tmp 15) = .pointer (some ⟨R.g, 0, none⟩) := (hd 1 15 (by kernel_rfl) (by kernel_rfl)).is rfl
        exact wp_value (exec_nilCheck rfl e0) ⟨_, rfl, hX.more, fun _ _ _ h => h, FldR.P.mk rfl ⟨by simp, by simp, by simp⟩⟩
      · intro D2 a X hDi hDa _ hX hL hd
        refine ⟨rfl, ?_⟩
        have e0 : a.eval (.tmp 16) = .pointer (some ⟨R.g, 0, none⟩) := (hd 2 16 (by kernel_rfl) (by kernel_rfl)).is rfl
        exact wp_value (exec_fieldAddr rfl e0 (hfa X)) ⟨_, rfl, hX.more, fun _ _ _ h => h, FldR.P.mk rfl ⟨by simp, by simp, by simp⟩⟩
      · intro D2 a X hDi hDa _ hX hL hd
        refine ⟨rfl, ?_⟩
        have e0 : a.eval (.tmp 17) = .pointer (some ⟨R.g, 3, none⟩) := (hd 3 17 (by kernel_rfl) (by kernel_rfl)).is rfl
        exact wp_value (exec_load rfl e0 (hls X (hX.1 (hDa 10 (by kernel_rfl))))) ⟨_, rfl, hX.more, fun _ _ _ h => h, FldR.P.mk rfl ⟨by simp, by simp, by simp⟩⟩
      · intro D2 a X hDi hDa _ hX hL hd
        refine ⟨rfl, ?_⟩
        have e0 : a.eval (.tmp 5) = .pointer (some ⟨xb, 0, none⟩) := hL.far 5 (by kernel_rfl)
        exact wp_value (exec_load rfl e0 (hlx X hX.2.2)) ⟨_, rfl, hX.more, fun _ _ _ h => h, FldR.P.mk rfl ⟨by simp, by simp, by simp⟩⟩
      · intro D2 a X hDi hDa _ hX hL hd
        refine ⟨rfl, ?_⟩
        have e0 : a.eval (.tmp 19) = .agg #[.int .i32 lo, .int .i32 hi, .int .i64 vv] := (hd 5 19 (by kernel_rfl) (by kernel_rfl)).is rfl
        refine wp_value (exec_buildSlice rfl (ps := #[(0, .agg #[.int .i32 lo, .int .i32 hi, .int .i64 vv])]) (by simp only [List.map_toArray, List.map_cons, List.map_nil, e0] <;> rfl) (BS X)) ⟨_, rfl, (hX.below ((Below.refl _ X).alloc (Nat.le_refl _) _)).more, fun _ _ _ h => h.below ((Below.refl _ X).alloc (Nat.le_refl _) _), FldR.P.bs rfl ⟨by simp, by simp⟩ ⟨X.heap.size, rfl, alloc_at rfl, hX.2.2.size⟩⟩
      · intro D2 a X hDi hDa _ hX hL hd
        refine ⟨rfl, ?_⟩
        have e0 : a.eval (.tmp 18) = kv := (hd 4 18 (by kernel_rfl) (by kernel_rfl)).is rfl
        obtain ⟨b2, hb1, hb2, hb3⟩ := (hd 6 20 (by kernel_rfl) (by kernel_rfl)).2.1 rfl
        have h28 := hDa 10 (by kernel_rfl)
        have hown := hX.2.1 hDi
        refine wp_append_lies X (.tmp 18) (.tmp 20) 67 rfl 0 160 ti (.agg #[.int .i32 0, .int .i32 0, .int .i64 0]) 3 16 Tryz.underlying67 HI2.1 HI2.2.1 HI2.2.2.1 HI2.2.2.2 rfl (by decide) (kv) q (rwE xs) e0 hown.1 ⟨b2, 0, none⟩ 1 1 [.int .i32 lo, .int .i32 hi, .int .i64 vv] hb1 rfl (World.news_of_block hb2) HOC (by decide) HM1 HM2 (Nat.zero_le _) _ rfl ?_
        intro g2 cap2 X2 hown2 hgrow hat hlt2
        exact ⟨_, rfl, hX.app hkg h28 (keep_grown hgrow), fun j u hj h => h.app hkv (keep_grown hgrow) (fun e => by subst e; rw [hDi] at hj; cases hj) (fun e => by subst e; rw [h28] at hj; cases hj), FldR.P.row rfl ⟨by simp, by simp⟩ (FldR.row_of (ln := q + 1) hX.2.2.size hgl hkg ⟨hown2, fun y hy => by
          have : g2 = y := by simpa [Value.ownBlock] using hy
          subst this
          rcases hat with h | h
          · exact .inl h
          · exact .inr (by omega)⟩ rfl)⟩
      · intro D2 a X hDi hDa _ hX hL hd
        refine ⟨rfl, ?_⟩
        have e0 : a.eval (.tmp 14) = .pointer (some ⟨R.g, 0, none⟩) := (hd 0 14 (by kernel_rfl) (by kernel_rfl)).is rfl
        exact wp_value (exec_nilCheck rfl e0) ⟨_, rfl, hX.more, fun _ _ _ h => h, FldR.P.mk rfl ⟨by simp, by simp, by simp⟩⟩
      · intro D2 a X hDi hDa _ hX hL hd
        refine ⟨rfl, ?_⟩
        have e0 : a.eval (.tmp 22) = .pointer (some ⟨R.g, 0, none⟩) := (hd 8 22 (by kernel_rfl) (by kernel_rfl)).is rfl
        exact wp_value (exec_fieldAddr rfl e0 (hfa X)) ⟨_, rfl, hX.more, fun _ _ _ h => h, FldR.P.mk rfl ⟨by simp, by simp, by simp⟩⟩
      · intro D2 a X hDi hDa _ hX hL hd
        refine ⟨rfl, ?_⟩
        have e0 : a.eval (.tmp 23) = .pointer (some ⟨R.g, 3, none⟩) := (hd 9 23 (by kernel_rfl) (by kernel_rfl)).is rfl
        obtain ⟨ao3, ln, cp3, he, ho⟩ := (hd 7 21 (by kernel_rfl) (by kernel_rfl)).2.2.1 rfl
        have hc := hX.1 hDi
        exact wp_skipped (exec_store rfl e0 he (ST X _ _ _ hc)) ⟨undef, rfl, hX.store, fun j u hj h => h.store hgl (fun e => by subst e; rw [hDi] at hj; cases hj), FldR.P.last rfl ⟨by simp, by simp⟩ ⟨_, FldR.Row.store ⟨ao3, ln, cp3, rfl, by rw [← he]; exact ho⟩, S1 hc⟩⟩
    case hd =>
      intro D2 a X hAll hX hL hP hE
      obtain ⟨_, hp⟩ := hE 10 (by decide)
      rw [hFF] at hp hX
      obtain ⟨u, ⟨ao2, ln, cp2, hu0, ho⟩, hu⟩ := hp.2.2.2 rfl
      simp only at ho hu
      have hK := hX.2.2
      obtain ⟨f, ha, hf⟩ := hL.out [14, 15, 16, 17, 18, 19, 20, 21, 22, 23] rfl
      have HF := Lib.hid (And.intro ho (And.intro hu hK))
      clear hf hAll hP hX hL hE hp ho hu hu0 hK S1 hfa hls hlx BS ST HI2 HOC HM1 HM2 H0 hFF hti hz hs1 hbt hown hkg hkv hxg hcg hgl
      simp only [List.foldl_cons, List.foldl_nil, List.setIfInBounds_toArray, List.set_cons_zero, List.set_cons_succ] at ha
      subst ha
      go_wp2
      go_ret
      obtain ⟨ho, hu, hK⟩ := HF.out
      refine ⟨rfl, ?_, ?_⟩
      · exact (Keep.of_all HB.out).trans (hK.weaken (fun b _ hb => by
          rcases hb with rfl | hb
          · have h := HRD.out.g
            constructor <;> omega
          · have h : ρ b = 3 := HRD.out.k.2 _ hb
            constructor <;> omega))
      · have e : rwE (xs ++ [(lo, hi, vv)]) = rwE xs ++ [.int .i32 lo, .int .i32 hi, .int .i64 vv] := rwE_snoc _ _
        have hl : q + 1 = (xs ++ [(lo, hi, vv)]).length := by rw [List.length_append, ← HXS.out, HQL.out]; rfl
        rw [← e, hl] at ho
        have hN := HRD.out.newk hK hu ho
        rw [HXS.out]
        exact ⟨_, _, _, _, hN, fun b hb => moreR_old b (Nat.lt_of_lt_of_le hb HB.out.size), fun _ => rfl⟩
  · have b1 : ((no : Int) == 0) = false := beq_eq_false_iff_ne.2 (by omega)
    clear hown
    go_wp2_with (rw [hxb, hW1])
    go_ret
    exact ⟨rfl, Keep.of_all HB.out, ρ, S, cv, kv, HRD.out, fun _ _ => rfl, fun e => absurd e h0⟩
end Go.Proofs.YtfpfpaaojdodnaaGreatDoor
/- props: which points are Hangul. WRITTEN by wip/tools/gen_jk.py. -/
namespace Go.Proofs.YtfpfpaaojdodnaaGreatDoor
open Go Go.RowKit Go.Kt Go.Kt.Rg

def sylP (r : Int) : Bool := decide (44032 ≤ r) && decide (r < 55204)
def leadP (r : Int) : Bool := decide (4352 ≤ r) && decide (r < 4371)
def vowP (r : Int) : Bool := decide (4449 ≤ r) && decide (r < 4470)
def tailP (r : Int) : Bool := decide (4520 ≤ r) && decide (r < 4547)
def hanP (r : Int) : Bool := sylP r || leadP r || vowP r || tailP r

set_option maxRecDepth 100000 in
theorem psyl (r : Int) (w : World) : Calls Tryz.prog 96 #[.int .i32 r] w fun e w' => e = .returned (.bool (sylP r)) ∧ w' = w := by
  by_cases h1 : 44032 ≤ r
  · by_cases h2 : r < 55204
    · have HX : Hid (sylP r = true) := Lib.hid (by simp [sylP, h1, h2])
      go_enter Tryz.func96, Tryz.ntmps96
      go_wp2
      go_ret
      exact ⟨by rw [HX.out]; (first | rfl | (show Ending.returned (Value.bool (decide _)) = _; rw [decide_eq_false (by omega)])), rfl⟩
    · have HX : Hid (sylP r = false) := Lib.hid (by simp [sylP, h1, h2])
      have h3 : 55204 ≤ r := by omega
      clear h2
      go_enter Tryz.func96, Tryz.ntmps96
      go_wp2
      go_ret
      exact ⟨by rw [HX.out]; (first | rfl | (show Ending.returned (Value.bool (decide _)) = _; rw [decide_eq_false (by omega)])), rfl⟩
  · have HX : Hid (sylP r = false) := Lib.hid (by simp [sylP, h1])
    have h3 : r < 44032 := by omega
    clear h1
    go_enter Tryz.func96, Tryz.ntmps96
    go_wp2
    go_ret
    exact ⟨by rw [HX.out]; (first | rfl | (show Ending.returned (Value.bool (decide _)) = _; rw [decide_eq_false (by omega)])), rfl⟩

set_option maxRecDepth 100000 in
theorem plead (r : Int) (w : World) : Calls Tryz.prog 125 #[.int .i32 r] w fun e w' => e = .returned (.bool (leadP r)) ∧ w' = w := by
  by_cases h1 : 4352 ≤ r
  · by_cases h2 : r < 4371
    · have HX : Hid (leadP r = true) := Lib.hid (by simp [leadP, h1, h2])
      go_enter Tryz.func125, Tryz.ntmps125
      go_wp2
      go_ret
      exact ⟨by rw [HX.out]; (first | rfl | (show Ending.returned (Value.bool (decide _)) = _; rw [decide_eq_false (by omega)])), rfl⟩
    · have HX : Hid (leadP r = false) := Lib.hid (by simp [leadP, h1, h2])
      have h3 : 4371 ≤ r := by omega
      clear h2
      go_enter Tryz.func125, Tryz.ntmps125
      go_wp2
      go_ret
      exact ⟨by rw [HX.out]; (first | rfl | (show Ending.returned (Value.bool (decide _)) = _; rw [decide_eq_false (by omega)])), rfl⟩
  · have HX : Hid (leadP r = false) := Lib.hid (by simp [leadP, h1])
    have h3 : r < 4352 := by omega
    clear h1
    go_enter Tryz.func125, Tryz.ntmps125
    go_wp2
    go_ret
    exact ⟨by rw [HX.out]; (first | rfl | (show Ending.returned (Value.bool (decide _)) = _; rw [decide_eq_false (by omega)])), rfl⟩

set_option maxRecDepth 100000 in
theorem pvow (r : Int) (w : World) : Calls Tryz.prog 126 #[.int .i32 r] w fun e w' => e = .returned (.bool (vowP r)) ∧ w' = w := by
  by_cases h1 : 4449 ≤ r
  · by_cases h2 : r < 4470
    · have HX : Hid (vowP r = true) := Lib.hid (by simp [vowP, h1, h2])
      go_enter Tryz.func126, Tryz.ntmps126
      go_wp2
      go_ret
      exact ⟨by rw [HX.out]; (first | rfl | (show Ending.returned (Value.bool (decide _)) = _; rw [decide_eq_false (by omega)])), rfl⟩
    · have HX : Hid (vowP r = false) := Lib.hid (by simp [vowP, h1, h2])
      have h3 : 4470 ≤ r := by omega
      clear h2
      go_enter Tryz.func126, Tryz.ntmps126
      go_wp2
      go_ret
      exact ⟨by rw [HX.out]; (first | rfl | (show Ending.returned (Value.bool (decide _)) = _; rw [decide_eq_false (by omega)])), rfl⟩
  · have HX : Hid (vowP r = false) := Lib.hid (by simp [vowP, h1])
    have h3 : r < 4449 := by omega
    clear h1
    go_enter Tryz.func126, Tryz.ntmps126
    go_wp2
    go_ret
    exact ⟨by rw [HX.out]; (first | rfl | (show Ending.returned (Value.bool (decide _)) = _; rw [decide_eq_false (by omega)])), rfl⟩

set_option maxRecDepth 100000 in
theorem ptail (r : Int) (w : World) : Calls Tryz.prog 127 #[.int .i32 r] w fun e w' => e = .returned (.bool (tailP r)) ∧ w' = w := by
  by_cases h1 : 4520 ≤ r
  · by_cases h2 : r < 4547
    · have HX : Hid (tailP r = true) := Lib.hid (by simp [tailP, h1, h2])
      go_enter Tryz.func127, Tryz.ntmps127
      go_wp2
      go_ret
      exact ⟨by rw [HX.out]; (first | rfl | (show Ending.returned (Value.bool (decide _)) = _; rw [decide_eq_false (by omega)])), rfl⟩
    · have HX : Hid (tailP r = false) := Lib.hid (by simp [tailP, h1, h2])
      have h3 : 4547 ≤ r := by omega
      clear h2
      go_enter Tryz.func127, Tryz.ntmps127
      go_wp2
      go_ret
      exact ⟨by rw [HX.out]; (first | rfl | (show Ending.returned (Value.bool (decide _)) = _; rw [decide_eq_false (by omega)])), rfl⟩
  · have HX : Hid (tailP r = false) := Lib.hid (by simp [tailP, h1])
    have h3 : r < 4520 := by omega
    clear h1
    go_enter Tryz.func127, Tryz.ntmps127
    go_wp2
    go_ret
    exact ⟨by rw [HX.out]; (first | rfl | (show Ending.returned (Value.bool (decide _)) = _; rw [decide_eq_false (by omega)])), rfl⟩

set_option maxRecDepth 100000 in
theorem phan (r : Int) (w : World) : Calls Tryz.prog 145 #[.int .i32 r] w fun e w' => e = .returned (.bool (hanP r)) ∧ w' = w := by
  have C1 := Lib.hid (fun W => psyl r W)
  have C2 := Lib.hid (fun W => plead r W)
  have C3 := Lib.hid (fun W => pvow r W)
  have C4 := Lib.hid (fun W => ptail r W)
  have HX : Hid (hanP r = (sylP r || leadP r || vowP r || tailP r)) := Lib.hid rfl
  generalize sylP r = b1 at C1 HX
  generalize leadP r = b2 at C2 HX
  generalize vowP r = b3 at C3 HX
  generalize tailP r = b4 at C4 HX
  go_enter Tryz.func145, Tryz.ntmps145
  go_wp2_with fail
  refine (C1.out w).mono ?_
  rintro e w1 ⟨rfl, rfl⟩
  cases b1 with
  | true =>
    go_wp2
    go_ret
    exact ⟨by rw [HX.out]; rfl, rfl⟩
  | false =>
    go_wp2_with fail
    refine (C2.out w1).mono ?_
    rintro e w2 ⟨rfl, rfl⟩
    cases b2 with
    | true =>
      go_wp2
      go_ret
      exact ⟨by rw [HX.out]; rfl, rfl⟩
    | false =>
      go_wp2_with fail
      refine (C3.out w2).mono ?_
      rintro e w3 ⟨rfl, rfl⟩
      cases b3 with
      | true =>
        go_wp2
        go_ret
        exact ⟨by rw [HX.out]; rfl, rfl⟩
      | false =>
        go_wp2_with fail
        refine (C4.out w3).mono ?_
        rintro e w4 ⟨rfl, rfl⟩
        go_wp2
        go_ret
        exact ⟨by rw [HX.out]; rfl, rfl⟩
end Go.Proofs.YtfpfpaaojdodnaaGreatDoor
