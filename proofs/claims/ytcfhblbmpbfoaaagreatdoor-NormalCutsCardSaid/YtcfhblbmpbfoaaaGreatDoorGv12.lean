/- Parts of the proof of what the last text says. -/
import Derived.Test.YtcfhblbmpbfoaaaGreatDoorOjx
import Derived.Test.YtcfhblbmpbfoaaaGreatDoorGv9
import Derived.Test.YtcfhblbmpbfoaaaGreatDoorGv7
import Derived.Test.YtcfhblbmpbfoaaaGreatDoorJix
import Derived.Test.YtcfhblbmpbfoaaaGreatDoorGv11
import Derived.OwnWalk
import Derived.Deep.AppendLies
namespace Go.Proofs.YtcfhblbmpbfoaaaGreatDoor
open Go Go.RowKit Go.Kt Go.Kt.Os Go.Sort

set_option maxRecDepth 100000 in
set_option maxHeartbeats 1000000 in
theorem oSort (blk off cap n : Nat) (d : Array Int) (w : World) (hn : d.size = n) (hH : Holds E32 w blk off d) (hblk : blk < w.heap.size) (hsz : n < 4611686018427387904) :
    Calls Tryz.prog 146 #[.slice (some ⟨blk, off, none⟩) n cap] w fun e w' => e = .returned (.tuple #[]) ∧ ∃ d', (PermIn 0 n d d' ∧ SortedIn ltInt 0 n d') ∧ SW w blk off d' w' := by
  have C0 := Tryz.bits_Len (n : Int) w (by omega) (by omega)
  rw [Int.toNat_natCast] at C0
  have hl : Lib.bitLen n < 4611686018427387904 := by have := bl_le 64 n; show Lib.bitLenAux 64 n < _; omega
  obtain ⟨k, hk⟩ : ∃ k, Lib.bitLen n = k := ⟨_, rfl⟩
  rw [hk] at C0 hl
  have D0 := oPdq blk off cap n hsz (n + 1) 0 n k d w (by omega) hn hH hblk (by omega) (Nat.le_refl _) hl (.inl rfl)
  rw [show ((0 : Nat) : Int) = 0 from rfl] at D0
  have C := Lib.hid C0
  have D := Lib.hid D0
  clear C0 D0 hk hH hn
  go_enter Tryz.func146, Tryz.ntmps146
  go_wp2_with (first | (go_at_call 172; refine C.out.mono ?_; rintro e w1 ⟨rfl, rfl⟩) | (go_at_call 171; refine D.out.mono ?_; rintro e w2 ⟨rfl, hd⟩))
  go_end0
  exact ⟨rfl, hd⟩

set_option maxRecDepth 100000 in
set_option maxHeartbeats 1000000 in
theorem oIns_nil (w : World) : Calls Tryz.prog 194 #[.slice none 0 0, .int .i64 0, .int .i64 0] w fun e w' => e = .returned (.tuple #[]) ∧ w' = w := by
  go_enter Tryz.func194, Tryz.ntmps194
  go_wp2
  go_loopw [6] (fun vi wr => vi = .int .i64 1 ∧ wr = w) (fun _ _ => 0)
  case atStart => exact ⟨rfl, rfl⟩
  case round =>
    obtain ⟨rfl, rfl⟩ := hrel
    go_wp2
    go_end0
    exact ⟨rfl, rfl⟩
set_option maxRecDepth 100000 in
set_option maxHeartbeats 1000000 in
theorem oPdq_nil (w : World) : Calls Tryz.prog 171 #[.slice none 0 0, .int .i64 0, .int .i64 0, .int .i64 0] w fun e w' => e = .returned (.tuple #[]) ∧ w' = w := by
  go_enter Tryz.func171, Tryz.ntmps171
  go_wp2
  go_loopw [1, 2, 3, 8, 9] (fun s1 s2 s3 s8 s9 wr => s1 = .int .i64 0 ∧ s2 = .int .i64 0 ∧ s3 = .int .i64 0 ∧ s8 = .bool true ∧ s9 = .bool true ∧ wr = w) (fun _ _ _ _ _ _ => 0)
  case atStart => exact ⟨rfl, rfl, rfl, rfl, rfl, rfl⟩
  case round =>
    obtain ⟨rfl, rfl, rfl, rfl, rfl, rfl⟩ := hrel
    go_wp2_with (go_at_call 194; refine (oIns_nil _).mono ?_; rintro e w1 ⟨rfl, rfl⟩)
    (try simp only [Exit.inBlock, Exit.then]); refine bodyPost_ret (results_none rfl _ _ _) rfl ?_
    exact ⟨rfl, rfl⟩
set_option maxRecDepth 100000 in
set_option maxHeartbeats 1000000 in
theorem oSort_nil (w : World) : Calls Tryz.prog 146 #[.slice none 0 0] w fun e w' => e = .returned (.tuple #[]) ∧ w' = w := by
  have C0 := Tryz.bits_Len 0 w (by omega) (by omega)
  rw [show Lib.bitLen (0 : Int).toNat = 0 from rfl] at C0
  have C := Lib.hid C0
  clear C0
  go_enter Tryz.func146, Tryz.ntmps146
  go_wp2_with (first | (go_at_call 172; refine C.out.mono ?_; rintro e w1 ⟨rfl, rfl⟩) | (go_at_call 171; refine (oPdq_nil _).mono ?_; rintro e w2 ⟨rfl, rfl⟩))
  go_end0
  exact ⟨rfl, rfl⟩
end Go.Proofs.YtcfhblbmpbfoaaaGreatDoor
namespace Go.Proofs.YtcfhblbmpbfoaaaGreatDoor
open Go Go.RowKit Go.Kt Go.Kt.Rg Go.Maps Go.Kt.Os Go.Sort

def RsV (B : Nat) (v : Value) (L : List Nat) (w : World) : Prop :=
  (L = [] ∧ v = .slice none 0 0) ∨ ∃ g cp, v = .slice (some ⟨g, 0, none⟩) L.length cp ∧ L.length ≤ cp ∧ B ≤ g ∧ g < w.heap.size ∧ ∀ (i : Nat) (x : Nat), L[i]? = some x → w.cell? ⟨g, i, none⟩ = some (.int .i32 (x : Nat))

theorem pcollect (vs : Nat → Option Value) (gf : Nat) (lb : Array Value) (Nd : Nat → Prop) (w w0 : World) (eg : ∀ args w, (callFunc gf args).run Tryz.prog w = .ok (.enter gf args) w)
    (hit : Iter5 Tryz.prog gf lb encK (OkK vs) (FinK vs) (fun _ => False) Nd w0) (hNd : ∀ b, Nd b → b < w.heap.size) (hNdw : ∀ b, Nd b → w.heap[b]? = w0.heap[b]?) (hw0 : w0.heap.size ≤ w.heap.size) (hbd : ∀ x, (vs x).isSome = true → x < 1114112) :
    Calls Tryz.prog 145 #[.func (.func gf) #[] lb] w fun e w' => ∃ L ao cp, FinK vs L ∧ e = .returned (.slice ao L.length cp) ∧ OwnS (fun b => w.heap.size ≤ b) 21 1 (.slice ao L.length cp) L.length (encN L) w' ∧ Below w.heap.size w w' := by
  have C := Lib.hid (pappend_any vs gf lb Nd w w0 eg hit hNd hNdw hw0 hbd)
  clear eg hit hNd hNdw hw0 hbd
  go_enter Tryz.func145, Tryz.ntmps145
  go_wp2_with fail
  refine C.out.mono ?_
  rintro e w1 ⟨L, ao, cp, h1, rfl, h2, h3⟩
  have H := Lib.hid (And.intro h1 (And.intro h2 h3))
  clear h1 h2 h3
  go_wp2
  go_ret
  exact ⟨L, ao, cp, H.out.1, rfl, H.out.2.1, H.out.2.2⟩

theorem rise_of {L : List Nat} {d' : Array Int} {n : Nat} (hn : L.length = n) (hnd : L.Nodup) (hp : PermIn 0 n (L.map (fun x : Nat => (x : Int))).toArray d') (hs : SortedIn ltInt 0 n d') :
    ∃ Ls : List Nat, Ls.length = n ∧ d' = (Ls.map (fun x : Nat => (x : Int))).toArray ∧ Ls.Perm L ∧ Ls.Pairwise (· < ·) := by
  obtain ⟨h1, _, h3⟩ := hp
  have hz : d'.size = n := by rw [h1]; simp [hn]
  have e1 : d'.extract 0 n = d' := by rw [← hz]; simp
  have e2 : ((L.map (fun x : Nat => (x : Int))).toArray).extract 0 n = (L.map (fun x : Nat => (x : Int))).toArray := by
    have : ((L.map (fun x : Nat => (x : Int))).toArray).size = n := by simp [hn]
    rw [← this]; simp
    exact List.take_of_length_le (by simp)
  rw [e1, e2] at h3
  have h3 : d'.toList.Perm (L.map (fun x : Nat => (x : Int))) := h3
  have hnn : ∀ y ∈ d'.toList, 0 ≤ y := fun y hy => by
    obtain ⟨x, _, rfl⟩ := List.mem_map.1 (h3.mem_iff.1 hy)
    omega
  have hb : (d'.toList.map Int.toNat).map (fun x : Nat => (x : Int)) = d'.toList := by
    rw [List.map_map]
    conv => rhs; rw [← List.map_id d'.toList]
    refine List.map_congr_left fun y hy => ?_
    have := hnn y hy
    simp only [Function.comp, id]
    omega
  have hperm : (d'.toList.map Int.toNat).Perm L := by
    have := h3.map Int.toNat
    rw [List.map_map] at this
    have e : (Int.toNat ∘ fun x : Nat => (x : Int)) = id := by funext x; simp
    rw [e, List.map_id] at this
    exact this
  have hlen : (d'.toList.map Int.toNat).length = n := by rw [List.length_map]; exact hz
  refine ⟨d'.toList.map Int.toNat, hlen, ?_, hperm, ?_⟩
  · rw [hb]
  · have hnd2 := hperm.nodup_iff.2 hnd
    rw [List.pairwise_iff_getElem]
    intro i j hi hj hij
    have h4 := hs i j (Nat.zero_le _) hij (by omega)
    have h5 : i < d'.size := by omega
    have h6 : j < d'.size := by omega
    rw [getElem!_pos d' i h5, getElem!_pos d' j h6] at h4
    have h7 : ¬ d'[j] < d'[i] := by simpa [ltInt] using h4
    have h8 := (List.pairwise_iff_getElem.1 hnd2) i j hi hj hij
    have h9 : (d'.toList.map Int.toNat)[i] = (d'[i]).toNat := by simp
    have h10 : (d'.toList.map Int.toNat)[j] = (d'[j]).toNat := by simp
    rw [h9, h10] at h8 ⊢
    omega

set_option maxRecDepth 100000 in
set_option maxHeartbeats 2000000 in
theorem psorted (vs : Nat → Option Value) (gf : Nat) (lb : Array Value) (Nd : Nat → Prop) (w w0 : World) (eg : ∀ args w, (callFunc gf args).run Tryz.prog w = .ok (.enter gf args) w)
    (hit : Iter5 Tryz.prog gf lb encK (OkK vs) (FinK vs) (fun _ => False) Nd w0) (hNd : ∀ b, Nd b → b < w.heap.size) (hNdw : ∀ b, Nd b → w.heap[b]? = w0.heap[b]?) (hw0 : w0.heap.size ≤ w.heap.size) (hbd : ∀ x, (vs x).isSome = true → x < 1114112) :
    Calls Tryz.prog 102 #[.func (.func gf) #[] lb] w fun e w' => ∃ L v, L.Pairwise (· < ·) ∧ (∀ x, x ∈ L ↔ (vs x).isSome = true) ∧ e = .returned v ∧ RsV w.heap.size v L w' ∧ Below w.heap.size w w' := by
  have C := Lib.hid (pcollect vs gf lb Nd w w0 eg hit hNd hNdw hw0 hbd)
  have HBD := Lib.hid hbd
  clear eg hit hNd hNdw hw0 hbd
  go_enter Tryz.func102, Tryz.ntmps102
  go_wp2_with fail
  refine C.out.mono ?_
  rintro e w1 ⟨L, ao, cp, h1, rfl, h2, h3⟩
  rcases h2.shape with ⟨hv, h0⟩ | ⟨g, cap, hv, hg, hgl⟩
  · have hL : L = [] := List.eq_nil_of_length_eq_zero h0
    subst hL
    cases hv
    have H := Lib.hid (And.intro h1 h3)
    have C2 := Lib.hid (oSort_nil w1)
    clear h1 h2 h3
    simp only [List.length_nil]
    go_wp2_with fail
    refine C2.out.mono ?_
    rintro e w2 ⟨rfl, rfl⟩
    go_wp2
    go_ret
    exact ⟨[], _, List.Pairwise.nil, H.out.1.2, rfl, .inl ⟨rfl, rfl⟩, H.out.2⟩
  · cases hv
    obtain ⟨n, hn⟩ : ∃ n, L.length = n := ⟨_, rfl⟩
    have hln : n ≤ 1114112 := by rw [← hn]; exact nodup_le 1114112 L h1.1 (fun x hx => HBD.out x ((h1.2 x).1 hx))
    obtain ⟨d, hd⟩ : ∃ d : Array Int, (L.map (fun x : Nat => (x : Int))).toArray = d := ⟨_, rfl⟩
    have hds : d.size = n := by rw [← hd]; simp [hn]
    have hH : Holds E32 w1 g 0 d := fun j hj => by
      have hjl : j < L.length := by omega
      refine ⟨?_, by rw [Nat.zero_add]; exact h2.frozen j⟩
      rw [Nat.zero_add]
      refine h2.at0 (i := j) ?_
      have e1 : d[j]! = (L[j] : Int) := by rw [getElem!_pos d j hj]; simp [← hd]
      rw [e1]
      simp [encN, List.getElem?_map, List.getElem?_eq_getElem hjl]
    rw [hn]
    have C2 := Lib.hid (oSort g 0 cp n d w1 hds hH hgl (by omega))
    have hcp : Hid (n ≤ cp) := Lib.hid (by
      rcases h2.1.2 with ⟨hv, _⟩ | ⟨g', cap', cur, hv, _, hgg, hnc, _⟩
      · cases hv
      · cases hv; rw [hn] at hnc; exact hnc)
    have H := Lib.hid (And.intro h1 (And.intro h3 (And.intro hn (And.intro hg (And.intro hgl (And.intro hd hds))))))
    clear h1 h2 h3 hH hn hds hg hgl hd hln
    go_wp2_with fail
    refine C2.out.mono ?_
    rintro e w2 ⟨rfl, d', hps, hsw⟩
    have H2 := Lib.hid (And.intro hps hsw)
    clear hps hsw
    go_wp2
    go_ret
    obtain ⟨h1, h3, hn, hg, hgl, hd, hds⟩ := H.out
    obtain ⟨hps, hsw⟩ := H2.out
    rw [← hd] at hps
    obtain ⟨Ls, hl, hd', hpm, hpw⟩ := rise_of hn h1.1 hps.1 hps.2
    have hgw : w.heap.size ≤ g := hg
    refine ⟨Ls, _, hpw, fun x => by rw [hpm.mem_iff]; exact h1.2 x, rfl, .inr ⟨g, cp, by rw [hl]; rfl, by rw [hl]; exact hcp.out, hgw, Nat.lt_of_lt_of_le hgl hsw.keep.size, fun i x hx => ?_⟩, h3.trans (hsw.keep.below h3.size (fun b hb => by omega))⟩
    have hil := (List.getElem?_eq_some_iff.1 hx).1
    have hsz : d'.size = Ls.length := by rw [hd']; simp
    have := (hsw.holds i (by omega)).1
    rw [Nat.zero_add, getElem!_pos d' i (by omega)] at this
    rw [this]
    have e1 : d'[i] = (x : Int) := by
      simp only [hd', List.getElem_toArray, List.getElem_map]
      rw [(List.getElem?_eq_some_iff.1 hx).2]
    rw [e1]

theorem pdecomposed {B0 : Nat} {ρ : Nat → Nat} {R : RdB} {line n m : Nat} {S : RdS} {cv kv : Value} (w : World) (hR : RdW B0 ρ R line n m S cv kv w) (hbd : ∀ x, (S.ds x).isSome = true → x < 1114112) :
    Calls Tryz.prog 57 #[.pointer (some ⟨R.g, 0, none⟩)] w fun e w' => ∃ L v, L.Pairwise (· < ·) ∧ (∀ x, x ∈ L ↔ (S.ds x).isSome = true) ∧ e = .returned v ∧ RsV w.heap.size v L w' ∧ Below w.heap.size w w' := by
  have c4 : w.cell? ⟨R.g, 4, none⟩ = some (.map (some R.bd)) := by rw [Lib.cell_of_heap hR.cell]; rfl
  obtain ⟨hB, vs, hM, hs, _⟩ := hR.d
  obtain ⟨w1, hw1⟩ : ∃ w1, w.alloc (.cells #[.map (some R.bd)] 89) = w1 := ⟨_, rfl⟩
  have hb1 : Below w.heap.size w w1 := by rw [← hw1]; exact (Below.refl _ _).alloc (Nat.le_refl _) _
  have hz1 : w1.heap.size = w.heap.size + 1 := by rw [← hw1]; exact Array.size_push _
  have hbs : w1.cell? ⟨w.heap.size, 0, none⟩ = some (.map (some R.bd)) := by rw [← hw1, Lib.cell_of_heap (heap_alloc_new _ _)]; rfl
  have hM1 : MapG Tryz.prog 21 R.bd n (ptF vs) w1 := hM.below hb1 hM.lt
  have hit := pkeys_iter R.bd n vs w.heap.size w1 hbs hM1
  have hml := hM.lt
  have CS := Lib.hid (psorted vs _ _ _ w1 w1 enters_keys hit (fun b hb => by rcases hb with rfl | rfl <;> omega) (fun _ _ => rfl) (Nat.le_refl _) (fun x hx => hbd x (by rw [← hs x]; exact hx)))
  have CK := Lib.hid (pkeys_call R.bd w)
  have HS := Lib.hid hs
  have HB := Lib.hid (And.intro hb1 (And.intro hz1 hw1))
  clear hR hB hM hs hb1 hz1 hbs hM1 hit hml hbd hw1
  go_enter Tryz.func57, Tryz.ntmps57
  go_wp2_with fail
  refine CK.out.mono ?_
  rintro e w2 ⟨rfl, hw2⟩
  have e2 : w2 = w1 := hw2.symm.trans HB.out.2.2
  subst e2
  clear hw2
  go_wp2_with fail
  refine CS.out.mono ?_
  rintro e w3 ⟨L, v, h1, h2, rfl, h4, h5⟩
  have H := Lib.hid (And.intro h1 (And.intro h2 (And.intro h4 h5)))
  clear h1 h2 h4 h5
  go_wp2
  go_ret
  obtain ⟨h1, h2, h4, h5⟩ := H.out
  refine ⟨L, v, h1, fun x => by rw [h2 x, HS.out x], rfl, ?_, HB.out.1.trans (h5.mono (by have := HB.out.2.1; omega))⟩
  rcases h4 with h4 | ⟨g, cp, h6, h7, h8, h9, h10⟩
  · exact .inl h4
  · exact .inr ⟨g, cp, h6, h7, by have := HB.out.2.1; omega, h9, h10⟩
end Go.Proofs.YtcfhblbmpbfoaaaGreatDoor
namespace Go.Proofs.YtcfhblbmpbfoaaaGreatDoor
open Go Go.RowKit Go.Kt Go.Kt.Rg Go.Maps Go.Kt.Os Go.Sort

def RowsV (v : Value) (rows : List (Nat × Nat × Int)) (w : World) : Prop :=
  ∃ g cp, v = .slice (some ⟨g, 0, none⟩) rows.length cp ∧ rows.length ≤ cp ∧ ∀ (i : Nat) (r : Nat × Nat × Int), rows[i]? = some r → w.cell? ⟨g, i * 3, none⟩ = some (.int .i32 r.1) ∧ w.cell? ⟨g, i * 3 + 1, none⟩ = some (.int .i32 r.2.1) ∧ w.cell? ⟨g, i * 3 + 2, none⟩ = some (.int .i64 r.2.2)
theorem RowsV.below {v : Value} {rows : List (Nat × Nat × Int)} {A B : World} (h : RowsV v rows A) (hb : RowKit.Below A.heap.size A B) : RowsV v rows B := by
  obtain ⟨g, cp, rfl, h1, h2⟩ := h
  exact ⟨g, cp, rfl, h1, fun i r hr => ⟨(hb.cell (lt_of_cell (h2 i r hr).1)).trans (h2 i r hr).1, (hb.cell (lt_of_cell (h2 i r hr).2.1)).trans (h2 i r hr).2.1, (hb.cell (lt_of_cell (h2 i r hr).2.2)).trans (h2 i r hr).2.2⟩⟩
def edgL (rows : List (Nat × Nat × Int)) : List Nat := rows.flatMap fun r => [r.1, r.2.1 + 1]
theorem edgL_snoc (l : List (Nat × Nat × Int)) (r : Nat × Nat × Int) : edgL (l ++ [r]) = edgL l ++ [r.1, r.2.1 + 1] := by simp [edgL]
theorem edgL_len (l : List (Nat × Nat × Int)) : (edgL l).length = 2 * l.length := by
  induction l with
  | nil => rfl
  | cons r t ih => simp [edgL] at ih ⊢; omega
theorem edge_mem {E : List Nat} {d d' : Array Int} {n m : Nat} {F : Nat → Int} (hd : (E.map (fun x : Nat => (x : Int))).toArray = d) (hds : d.size = n) (hp : PermIn 0 n d d') (hF : ∀ x, (∃ t, t < m ∧ F t = x) ↔ ∃ t, t < n ∧ d'[t]! = x) (X : Int) :
    (∃ t, t < m ∧ F t = X) ↔ ∃ y ∈ E, (y : Int) = X := by
  obtain ⟨h1, _, h3⟩ := hp
  have hz : d'.size = n := by rw [h1]; exact hds
  have e1 : d'.extract 0 n = d' := by rw [← hz]; simp
  have e2 : d.extract 0 n = d := by rw [← hds]; simp
  rw [e1, e2] at h3
  rw [hF]
  have h5 : (∃ t, t < n ∧ d'[t]! = X) ↔ X ∈ d'.toList := by
    constructor
    · rintro ⟨t, ht, rfl⟩
      rw [getElem!_pos d' t (by omega)]
      exact Array.getElem_mem_toList (by omega)
    · intro h
      obtain ⟨t, ht, he⟩ := List.getElem_of_mem h
      have ht2 : t < d'.size := by simpa using ht
      exact ⟨t, by omega, by rw [getElem!_pos d' t ht2, ← he]; rfl⟩
  rw [h5, h3.mem_iff, ← hd]
  simp [eq_comm]
def EdgI (h : Nat) (rows : List (Nat × Nat × Int)) (w : World) (k : Nat) (v : Value) (wr : World) : Prop :=
  OwnS (fun b => h ≤ b) 21 1 v (2 * k) (encN (edgL (rows.take k))) wr ∧ RowKit.Below h w wr

set_option maxRecDepth 100000 in
set_option maxHeartbeats 4000000 in
theorem pedgesOf (rows : List (Nat × Nat × Int)) (sv : Value) (w : World) (hS : RowsV sv rows w) (hne : rows ≠ []) (hn : rows.length ≤ 1000000) (hr : ∀ r ∈ rows, r.1 ≤ 1114111 ∧ r.2.1 ≤ 1114111) :
    Calls Tryz.prog 148 #[sv] w fun e w' => ∃ (L : List Nat) (v : Value), e = .returned v ∧ RsV w.heap.size v L w' ∧ L.Pairwise (· < ·) ∧ (∀ x, x ∈ L ↔ x ∈ edgL rows) ∧ RowKit.Below w.heap.size w w' := by
  obtain ⟨g, cp, rfl, hcp, hc⟩ := hS
  obtain ⟨n, hl⟩ : ∃ n, rows.length = n := ⟨_, rfl⟩
  have h0 : 1 ≤ n := by rw [← hl]; exact List.length_pos_iff.2 hne
  rw [hl] at hcp hn ⊢
  obtain ⟨h, hh⟩ : ∃ h, w.heap.size = h := ⟨_, rfl⟩
  have HC := Lib.hid hc
  have HR := Lib.hid hr
  have HL := Lib.hid (And.intro hl hne)
  rw [hh]
  have q1 : IntKind.i64.wrap (2 * (n : Int)) = ((2 * n : Nat) : Int) := by rw [IntWalk.i64_in _ (by omega)]; omega
  clear hc hr hl hne
  go_enter Tryz.func148, Tryz.ntmps148
  go_wp2_with (at_make; refine wpList_make_own _ rfl _ _ _ rfl w.heap.size 21 _ (.int .i32 0) 1 Tryz.underlying22 rfl rfl rfl .i64 .i64 (2 * (n : Int)) (2 * n) rfl rfl (by omega) (by show 4 * (2 * n) ≤ _; omega) (by unfold maxLen; omega) (Nat.le_refl _) ?_; intro w1 hown1 hgr1)
  have H1 : Hid (EdgI h rows w 0 (.slice (some ⟨h, 0, none⟩) (2 * 0) (2 * n)) w1) := Lib.hid (by
    try rw [hh] at hown1
    refine ⟨⟨⟨hown1.1, ?_⟩, fun b hb => by simp [Value.ownBlock] at hb; omega⟩, ⟨hgr1.os, hgr1.tape, hgr1.output, hgr1.size, fun x hx => hgr1.block x (by omega) (fun e => by cases e)⟩⟩
    rcases hown1.2 with h2 | ⟨g2, c2, C, e2, h5⟩
    · exact .inl h2
    · exact .inr ⟨g2, c2, C, e2, Nat.zero_le _, h5.2⟩)
  clear hown1 hgr1
  go_loopw [3, 12] (fun v j wr => ∃ (k : Nat) (ao : Option Addr) (cap : Nat), v = .slice ao (2 * k) cap ∧ j = .int .i64 k ∧ k ≤ n ∧ EdgI h rows w k (.slice ao (2 * k) cap) wr) (fun _ j _ => n - (RowKit.intOf j).toNat)
  case atStart => exact ⟨0, _, _, rfl, rfl, by omega, H1.out⟩
  case round =>
    clear H1
    obtain ⟨k, ao, cap, rfl, rfl, hk, hI⟩ := hrel
    by_cases hlt : k < n
    · have hlt' : (k : Int) < (n : Int) := by omega
      obtain ⟨r, hr⟩ : ∃ r, rows[k]? = some r := ⟨_, List.getElem?_eq_getElem (by rw [HL.out.1]; exact hlt)⟩
      have hc := HC.out k r hr
      have hrb := HR.out r (List.mem_of_getElem? hr)
      have htk : edgL (rows.take (k + 1)) = edgL (rows.take k) ++ [r.1, r.2.1 + 1] := by rw [List.take_add_one, hr]; exact edgL_snoc _ _
      obtain ⟨lo, hi, vv⟩ := r
      simp only at hc hrb htk
      obtain ⟨hown, hbw⟩ := hI
      have hs := hbw.size
      have d0 := (hbw.cell (by have := lt_of_cell hc.1; omega)).trans hc.1
      have d1 := (hbw.cell (by have := lt_of_cell hc.2.1; omega)).trans hc.2.1
      have d2 := (hbw.cell (by have := lt_of_cell hc.2.2; omega)).trans hc.2.2
      have q2 : IntKind.i32.wrap ((hi : Int) + 1) = ((hi + 1 : Nat) : Int) := by rw [IntWalk.i32_in _ (by omega)]; omega
      obtain ⟨W1, hW1⟩ : ∃ W1, wr.alloc (.cells #[.int .i32 (lo : Nat), .int .i32 (hi : Nat), .int .i64 vv] 160) = W1 := ⟨_, rfl⟩
      have hb1 : RowKit.Below wr.heap.size wr W1 := by rw [← hW1]; exact (RowKit.Below.refl _ _).alloc (Nat.le_refl _) _
      have hz1 : W1.heap.size = wr.heap.size + 1 := by rw [← hW1]; exact Array.size_push _
      have hx1 : W1.heap[wr.heap.size]? = some (.cells #[.int .i32 (lo : Nat), .int .i32 (hi : Nat), .int .i64 vv] 160 (0, 0)) := by rw [← hW1]; exact heap_alloc_new _ _
      have HW := Lib.hid (And.intro hb1 (And.intro hz1 (And.intro hx1 (And.intro hown (And.intro hbw htk)))))
      have e0 : W1.cell? ⟨wr.heap.size, 0, none⟩ = some (.int .i32 (lo : Nat)) := by rw [Lib.cell_of_heap hx1]; rfl
      have e1 : W1.cell? ⟨wr.heap.size, 1, none⟩ = some (.int .i32 (hi : Nat)) := by rw [Lib.cell_of_heap hx1]; rfl
      obtain ⟨W2, hW2⟩ : ∃ W2, W1.alloc (.cells #[.int .i32 (lo : Nat), .int .i32 ((hi : Int) + 1)] 21) = W2 := ⟨_, rfl⟩
      have hb2 : RowKit.Below h w W2 := by rw [← hW2]; exact (hbw.trans (hb1.mono (by omega))).alloc (by omega) _
      have hz2 : W2.heap.size = wr.heap.size + 2 := by
        have h8 : W2.heap.size = W1.heap.size + 1 := by rw [← hW2]; exact Array.size_push _
        omega
      have hx2 : W2.heap[W1.heap.size]? = some (.cells #[.int .i32 (lo : Nat), .int .i32 ((hi : Int) + 1)] 21 (0, 0)) := by rw [← hW2]; exact heap_alloc_new _ _
      have ho1 := OwnS.keep (X := fun _ => False) hown (Keep.of_all hb1) (fun _ h => h.elim)
      have ho2 := OwnS.keep (X := fun _ => False) ho1 (Keep.of_all (show RowKit.Below W1.heap.size W1 W2 by rw [← hW2]; exact (RowKit.Below.refl _ _).alloc (Nat.le_refl _) _)) (fun _ h => h.elim)
      obtain ⟨ti, hti, hzz, hs1', hbt⟩ := info_parts tinfoI32
      obtain ⟨g2, cap2, w3, hrun, ho3, hgr, hat, hlt3⟩ := run_append_lies (P := Tryz.prog) W2 22 22 0 21 ti (.int .i32 0) 1 4 Tryz.underlying22 hti hzz hs1' hbt rfl (by decide) (.slice ao (2 * k) cap) (2 * k) (encN (edgL (rows.take k))) ho2.1 ⟨W1.heap.size, 0, none⟩ 2 2 [.int .i32 (lo : Nat), .int .i32 ((hi : Int) + 1)] rfl
        (fun j u hj => by rw [Addr.add_lit, Lib.cell_of_heap hx2]; simpa using hj) (by intro u hu; simp at hu; rcases hu with rfl | rfl <;> rfl) (by decide) (by unfold maxLen; omega) (by omega) (Nat.zero_le _) _ rfl
      have hg2 : h ≤ g2 := by
        rcases hat with hx | hx
        · exact ho2.2 g2 hx
        · have := hb2.size; omega
      have hfin : EdgI h rows w (k + 1) (.slice (some ⟨g2, 0, none⟩) (2 * k + 2) cap2) w3 := by
        refine ⟨⟨?_, fun b hb => by simp [Value.ownBlock] at hb; omega⟩, hb2.trans ((keep_grown hgr).below (by have := hb2.size; omega) (fun b hb => ho2.2 b hb))⟩
        have e : encN (edgL (rows.take (k + 1))) = encN (edgL (rows.take k)) ++ [.int .i32 (lo : Nat), .int .i32 ((hi : Int) + 1)] := by
          rw [htk]
          simp [encN]
        rw [e]
        exact ho3
      have HF := Lib.hid hfin
      have HRun := Lib.hid hrun
      have e0 : W1.cell? ⟨wr.heap.size, 0, none⟩ = some (.int .i32 (lo : Nat)) := by rw [Lib.cell_of_heap hx1]; rfl
      have e1 : W1.cell? ⟨wr.heap.size, 1, none⟩ = some (.int .i32 (hi : Nat)) := by rw [Lib.cell_of_heap hx1]; rfl
      clear hc hrb htk hown hbw hs hb1 hz1 hx1 hlt hr hb2 hz2 hx2 ho1 ho2 hti hzz hs1' hbt hrun ho3 hgr hat hlt3 hg2 hfin
      go_wp2_with (at_builtin; refine wpList_append_eq rfl rfl rfl rfl (fun _ => HRun.out) ?_)
      exact ⟨⟨k + 1, some ⟨g2, 0, none⟩, cap2, rfl, by go_num, by omega, HF.out⟩, by simp [RowKit.intOf]; omega⟩
    · have hkn : k = n := by omega
      subst hkn
      have hlt' : ¬ (k : Int) < (k : Int) := by omega
      obtain ⟨hown, hbw⟩ := hI
      have htk : rows.take k = rows := by rw [← HL.out.1]; exact List.take_length
      rw [htk] at hown
      rcases hown.shape with ⟨_, h0'⟩ | ⟨gb, cap', hv, hg, hgl⟩
      · omega
      cases hv
      obtain ⟨d, hd⟩ : ∃ d : Array Int, ((edgL rows).map (fun x : Nat => (x : Int))).toArray = d := ⟨_, rfl⟩
      have hel : (edgL rows).length = 2 * k := by rw [edgL_len, HL.out.1]
      have hds : d.size = 2 * k := by rw [← hd]; simp [hel]
      have hH : Holds E32 wr gb 0 d := fun j hj => by
        have hjl : j < (edgL rows).length := by omega
        refine ⟨?_, by rw [Nat.zero_add]; exact hown.frozen j⟩
        rw [Nat.zero_add]
        refine hown.at0 (i := j) ?_
        have e1 : d[j]! = ((edgL rows)[j] : Int) := by rw [getElem!_pos d j hj]; simp [← hd]
        rw [e1]
        simp [encN, List.getElem?_map, List.getElem?_eq_getElem hjl]
      have C2 := Lib.hid (oSort gb 0 cap (2 * k) d wr hds hH hgl (by omega))
      have hcp : 2 * k ≤ cap ∧ cap ≤ maxLen := by
        rcases hown.1.2 with ⟨hv, _⟩ | ⟨g', cap', cur, hv, _, hgg, hnc, hcm, _⟩
        · cases hv
        · cases hv; exact ⟨hnc, hcm⟩
      have H := Lib.hid (And.intro hbw (And.intro hd (And.intro hds (And.intro hg (And.intro hgl (And.intro hel hcp))))))
      clear hown hbw htk hd hds hH hg hgl hel hcp hlt
      go_wp2_with fail
      refine C2.out.mono ?_
      rintro e w2 ⟨rfl, d', hps, hsw⟩
      have hds' : d'.size = 2 * k := by rw [hps.1.1]; exact H.out.2.2.1
      have hRW : RW gb 0 (2 * k) (fun t => d'[t]!) w2 := fun t ht => hsw.holds t (by omega)
      have hsd : ∀ i j, i ≤ j → j < 2 * k → d'[i]! ≤ d'[j]! := fun i j hij hj => by
        by_cases e : i = j
        · rw [e]; exact Int.le_refl _
        · have := hps.2 i j (Nat.zero_le _) (by omega) hj
          have h7 : ¬ d'[j]! < d'[i]! := by simpa [ltInt] using this
          omega
      have C3 := Lib.hid (oCompact gb 0 cap (2 * k) (fun t => d'[t]!) w2 hRW hsd (by omega) H.out.2.2.2.2.2.2.1 (by have := H.out.2.2.2.2.2.2.2; unfold maxLen at this; omega))
      have H2 := Lib.hid (And.intro hps hsw)
      clear hps hsw hds' hRW hsd
      go_wp2_with fail
      refine C3.out.mono ?_
      rintro e w3 hO
      obtain ⟨m, F, rfl, hm1, hm2, hF1, hF2, hF3, hk3⟩ := hO
      have H3 := Lib.hid (And.intro hm1 (And.intro hm2 (And.intro hF1 (And.intro hF2 (And.intro hF3 hk3)))))
      clear hm1 hm2 hF1 hF2 hF3 hk3
      go_wp2
      go_ret
      obtain ⟨hbw, hd, hds, hg, hgl, hel, hcp1, hcp2⟩ := H.out
      obtain ⟨hps, hsw⟩ := H2.out
      obtain ⟨hm1, hm2, hF1, hF2, hF3, hk3⟩ := H3.out
      have hkey := edge_mem hd hds hps.1 hF2
      have hge : h ≤ gb := hg
      refine ⟨(List.range m).map fun t => (F t).toNat, _, rfl, .inr ⟨gb, cap, by simp only [List.length_map, List.length_range]; rfl, by simp only [List.length_map, List.length_range]; omega, hge, Nat.lt_of_lt_of_le hgl (Nat.le_trans hsw.keep.size hk3.size), fun i x hx => ?_⟩, ?_, fun x => ?_, hbw.trans ((hsw.keep.trans hk3).below (by have := hbw.size; omega) (fun b hb => by omega))⟩
      · have him : i < m := by have := (List.getElem?_eq_some_iff.1 hx).1; simpa using this
        have hxe : (F i).toNat = x := by
          have := (List.getElem?_eq_some_iff.1 hx).2
          simpa using this
        obtain ⟨y, _, hy⟩ := (hkey (F i)).1 ⟨i, him, rfl⟩
        have h9 := hF3 i him
        rw [Nat.zero_add] at h9
        rw [h9, ← hxe, ← hy, Int.toNat_natCast]
      · rw [List.pairwise_map]
        refine List.pairwise_lt_range.imp_of_mem ?_
        intro i j hi hj hij
        rw [List.mem_range] at hi hj
        have h1 := hF1 i j hij hj
        obtain ⟨y, _, hy⟩ := (hkey (F i)).1 ⟨i, hi, rfl⟩
        omega
      · rw [List.mem_map]
        constructor
        · rintro ⟨t, ht, rfl⟩
          rw [List.mem_range] at ht
          obtain ⟨y, hy, he⟩ := (hkey (F t)).1 ⟨t, ht, rfl⟩
          rw [← he, Int.toNat_natCast]
          exact hy
        · intro hx
          obtain ⟨t, ht, he⟩ := (hkey (x : Int)).2 ⟨x, hx, rfl⟩
          exact ⟨t, List.mem_range.2 ht, by rw [he]; simp⟩
end Go.Proofs.YtcfhblbmpbfoaaaGreatDoor
