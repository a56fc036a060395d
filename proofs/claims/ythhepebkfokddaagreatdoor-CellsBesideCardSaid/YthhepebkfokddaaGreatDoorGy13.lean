/- Parts of the proof of what the last text says. -/
import Derived.Test.YthhepebkfokddaaGreatDoorGy4
import Derived.Test.YthhepebkfokddaaGreatDoorGy5
import Derived.Test.YthhepebkfokddaaGreatDoorGy6
import Derived.Deep.QuietTactic
import Derived.BigQuiet
import Derived.StillTailTactics
import Derived.Test.YthhepebkfokddaaGreatDoorGy3
import Derived.BigRegionIn
import Derived.LoopIn
import Derived.Lib.PathFns
import Derived.Lib.IndexLaws
import Derived.BigFrameIn
/- props: which points are Hangul. WRITTEN by wip/tools/gen_jk.py. -/
namespace Go.Proofs.YthhepebkfokddaaGreatDoor
open Go Go.RowKit Go.Kt Go.Kt.Rg

def sylP (r : Int) : Bool := decide (44032 ≤ r) && decide (r < 55204)
def leadP (r : Int) : Bool := decide (4352 ≤ r) && decide (r < 4371)
def vowP (r : Int) : Bool := decide (4449 ≤ r) && decide (r < 4470)
def tailP (r : Int) : Bool := decide (4520 ≤ r) && decide (r < 4547)
def hanP (r : Int) : Bool := sylP r || leadP r || vowP r || tailP r

set_option maxRecDepth 100000 in
theorem psyl (r : Int) (w : World) : Calls Tryz.prog 84 #[.int .i32 r] w fun e w' => e = .returned (.bool (sylP r)) ∧ w' = w := by
  by_cases h1 : 44032 ≤ r
  · by_cases h2 : r < 55204
    · have HX : Hid (sylP r = true) := Lib.hid (by simp [sylP, h1, h2])
      go_enter Tryz.func84, Tryz.ntmps84
      go_wp2
      go_ret
      exact ⟨by rw [HX.out]; (first | rfl | (show Ending.returned (Value.bool (decide _)) = _; rw [decide_eq_false (by omega)])), rfl⟩
    · have HX : Hid (sylP r = false) := Lib.hid (by simp [sylP, h1, h2])
      have h3 : 55204 ≤ r := by omega
      clear h2
      go_enter Tryz.func84, Tryz.ntmps84
      go_wp2
      go_ret
      exact ⟨by rw [HX.out]; (first | rfl | (show Ending.returned (Value.bool (decide _)) = _; rw [decide_eq_false (by omega)])), rfl⟩
  · have HX : Hid (sylP r = false) := Lib.hid (by simp [sylP, h1])
    have h3 : r < 44032 := by omega
    clear h1
    go_enter Tryz.func84, Tryz.ntmps84
    go_wp2
    go_ret
    exact ⟨by rw [HX.out]; (first | rfl | (show Ending.returned (Value.bool (decide _)) = _; rw [decide_eq_false (by omega)])), rfl⟩

set_option maxRecDepth 100000 in
theorem plead (r : Int) (w : World) : Calls Tryz.prog 109 #[.int .i32 r] w fun e w' => e = .returned (.bool (leadP r)) ∧ w' = w := by
  by_cases h1 : 4352 ≤ r
  · by_cases h2 : r < 4371
    · have HX : Hid (leadP r = true) := Lib.hid (by simp [leadP, h1, h2])
      go_enter Tryz.func109, Tryz.ntmps109
      go_wp2
      go_ret
      exact ⟨by rw [HX.out]; (first | rfl | (show Ending.returned (Value.bool (decide _)) = _; rw [decide_eq_false (by omega)])), rfl⟩
    · have HX : Hid (leadP r = false) := Lib.hid (by simp [leadP, h1, h2])
      have h3 : 4371 ≤ r := by omega
      clear h2
      go_enter Tryz.func109, Tryz.ntmps109
      go_wp2
      go_ret
      exact ⟨by rw [HX.out]; (first | rfl | (show Ending.returned (Value.bool (decide _)) = _; rw [decide_eq_false (by omega)])), rfl⟩
  · have HX : Hid (leadP r = false) := Lib.hid (by simp [leadP, h1])
    have h3 : r < 4352 := by omega
    clear h1
    go_enter Tryz.func109, Tryz.ntmps109
    go_wp2
    go_ret
    exact ⟨by rw [HX.out]; (first | rfl | (show Ending.returned (Value.bool (decide _)) = _; rw [decide_eq_false (by omega)])), rfl⟩

set_option maxRecDepth 100000 in
theorem pvow (r : Int) (w : World) : Calls Tryz.prog 110 #[.int .i32 r] w fun e w' => e = .returned (.bool (vowP r)) ∧ w' = w := by
  by_cases h1 : 4449 ≤ r
  · by_cases h2 : r < 4470
    · have HX : Hid (vowP r = true) := Lib.hid (by simp [vowP, h1, h2])
      go_enter Tryz.func110, Tryz.ntmps110
      go_wp2
      go_ret
      exact ⟨by rw [HX.out]; (first | rfl | (show Ending.returned (Value.bool (decide _)) = _; rw [decide_eq_false (by omega)])), rfl⟩
    · have HX : Hid (vowP r = false) := Lib.hid (by simp [vowP, h1, h2])
      have h3 : 4470 ≤ r := by omega
      clear h2
      go_enter Tryz.func110, Tryz.ntmps110
      go_wp2
      go_ret
      exact ⟨by rw [HX.out]; (first | rfl | (show Ending.returned (Value.bool (decide _)) = _; rw [decide_eq_false (by omega)])), rfl⟩
  · have HX : Hid (vowP r = false) := Lib.hid (by simp [vowP, h1])
    have h3 : r < 4449 := by omega
    clear h1
    go_enter Tryz.func110, Tryz.ntmps110
    go_wp2
    go_ret
    exact ⟨by rw [HX.out]; (first | rfl | (show Ending.returned (Value.bool (decide _)) = _; rw [decide_eq_false (by omega)])), rfl⟩

set_option maxRecDepth 100000 in
theorem ptail (r : Int) (w : World) : Calls Tryz.prog 111 #[.int .i32 r] w fun e w' => e = .returned (.bool (tailP r)) ∧ w' = w := by
  by_cases h1 : 4520 ≤ r
  · by_cases h2 : r < 4547
    · have HX : Hid (tailP r = true) := Lib.hid (by simp [tailP, h1, h2])
      go_enter Tryz.func111, Tryz.ntmps111
      go_wp2
      go_ret
      exact ⟨by rw [HX.out]; (first | rfl | (show Ending.returned (Value.bool (decide _)) = _; rw [decide_eq_false (by omega)])), rfl⟩
    · have HX : Hid (tailP r = false) := Lib.hid (by simp [tailP, h1, h2])
      have h3 : 4547 ≤ r := by omega
      clear h2
      go_enter Tryz.func111, Tryz.ntmps111
      go_wp2
      go_ret
      exact ⟨by rw [HX.out]; (first | rfl | (show Ending.returned (Value.bool (decide _)) = _; rw [decide_eq_false (by omega)])), rfl⟩
  · have HX : Hid (tailP r = false) := Lib.hid (by simp [tailP, h1])
    have h3 : r < 4520 := by omega
    clear h1
    go_enter Tryz.func111, Tryz.ntmps111
    go_wp2
    go_ret
    exact ⟨by rw [HX.out]; (first | rfl | (show Ending.returned (Value.bool (decide _)) = _; rw [decide_eq_false (by omega)])), rfl⟩

set_option maxRecDepth 100000 in
theorem phan (r : Int) (w : World) : Calls Tryz.prog 77 #[.int .i32 r] w fun e w' => e = .returned (.bool (hanP r)) ∧ w' = w := by
  have C1 := Lib.hid (fun W => psyl r W)
  have C2 := Lib.hid (fun W => plead r W)
  have C3 := Lib.hid (fun W => pvow r W)
  have C4 := Lib.hid (fun W => ptail r W)
  have HX : Hid (hanP r = (sylP r || leadP r || vowP r || tailP r)) := Lib.hid rfl
  generalize sylP r = b1 at C1 HX
  generalize leadP r = b2 at C2 HX
  generalize vowP r = b3 at C3 HX
  generalize tailP r = b4 at C4 HX
  go_enter Tryz.func77, Tryz.ntmps77
  go_wp2_with fail
  refine (C1.out w).mono ?_
  rintro e w1 ⟨rfl, rfl⟩
  cases b1 with
  | true =>
    go_wp2
    go_ret
    exact ⟨by rw [HX.out]; rfl, rfl⟩
  | false =>
    go_wp2_with fail
    refine (C2.out w1).mono ?_
    rintro e w2 ⟨rfl, rfl⟩
    cases b2 with
    | true =>
      go_wp2
      go_ret
      exact ⟨by rw [HX.out]; rfl, rfl⟩
    | false =>
      go_wp2_with fail
      refine (C3.out w2).mono ?_
      rintro e w3 ⟨rfl, rfl⟩
      cases b3 with
      | true =>
        go_wp2
        go_ret
        exact ⟨by rw [HX.out]; rfl, rfl⟩
      | false =>
        go_wp2_with fail
        refine (C4.out w3).mono ?_
        rintro e w4 ⟨rfl, rfl⟩
        go_wp2
        go_ret
        exact ⟨by rw [HX.out]; rfl, rfl⟩
end Go.Proofs.YthhepebkfokddaaGreatDoor
/- props: fold and decomp. WRITTEN by wip/tools/gen_jl.py. -/
namespace Go.Proofs.YthhepebkfokddaaGreatDoor
open Go Go.RowKit Go.Kt Go.Kt.Rg Go.Maps

theorem ptsA_ok : ∀ (ws : List (List UInt8)) (acc l : List Nat), ptsA acc ws = (0, l) → (∀ x ∈ acc, Lib.validRune (x : Int) = true) → l.length = acc.length + ws.length ∧ ∀ x ∈ l, Lib.validRune (x : Int) = true
  | [], acc, l, h, ha => by
    rw [ptsA] at h
    obtain ⟨_, rfl⟩ := Prod.mk.inj h
    exact ⟨by simp, ha⟩
  | x :: t, acc, l, h, ha => by
    cases hx : numP x with
    | none => rw [ptsA_no hx] at h; cases h
    | some n =>
      cases hv : Lib.validRune (n : Int) with
      | false => rw [ptsA_bad hx hv] at h; cases h
      | true =>
        rw [ptsA_go hx hv] at h
        obtain ⟨h1, h2⟩ := ptsA_ok t (acc ++ [n]) l h (fun y hy => by
          rcases List.mem_append.1 hy with hy | hy
          · exact ha y hy
          · rw [List.mem_singleton.1 hy]; exact hv)
        exact ⟨by rw [h1]; simp; omega, h2⟩
theorem ptsP_ok {ws : List (List UInt8)} {l : List Nat} (h : ptsP ws = (0, l)) : l.length = ws.length ∧ ws.length ≤ 9 ∧ ∀ x ∈ l, Lib.validRune (x : Int) = true := by
  unfold ptsP at h
  by_cases h9 : 9 < ws.length
  · rw [if_pos h9] at h; cases h
  · rw [if_neg h9] at h
    have := ptsA_ok ws [] l h (fun _ h => by cases h)
    exact ⟨by simpa using this.1, by omega, this.2⟩
theorem valid_le {x : Nat} (h : Lib.validRune (x : Int) = true) : x ≤ 1114111 := by
  simp [Lib.validRune] at h
  omega

def foldP (S : RdS) (ws : List (List UInt8)) : Nat × RdS := match ptsP ws with
  | (0, x :: t) => if (S.fs x).isSome then (13, S) else (0, { S with fs := updN S.fs x t })
  | (no, _) => (no, S)
def dcmP (line : Nat) (S : RdS) (ws : List (List UInt8)) : Nat × RdS := match ptsP ws with
  | (0, x :: t) => if (S.ds x).isSome then (13, S) else if hanP x then (1, S) else (0, { S with ds := updN S.ds x t, ls := updN S.ls x line })
  | (no, _) => (no, S)
theorem foldP_no {S : RdS} {ws : List (List UInt8)} {no : Nat} {l : List Nat} (h : ptsP ws = (no, l)) (h0 : no ≠ 0) : foldP S ws = (no, S) := by
  unfold foldP
  rw [h]
  split
  · rename_i e; exact absurd (Prod.mk.inj e).1 h0
  · rename_i e; rw [(Prod.mk.inj e).1]
theorem dcmP_no {line : Nat} {S : RdS} {ws : List (List UInt8)} {no : Nat} {l : List Nat} (h : ptsP ws = (no, l)) (h0 : no ≠ 0) : dcmP line S ws = (no, S) := by
  unfold dcmP
  rw [h]
  split
  · rename_i e; exact absurd (Prod.mk.inj e).1 h0
  · rename_i e; rw [(Prod.mk.inj e).1]

theorem DecM.mono {ρ : Nat → Nat} {k B n n' : Nat} {d : Nat → Option (List Nat)} {w : World} (h : DecM ρ k B n d w) (hn : n ≤ n') : DecM ρ k B n' d w := by
  obtain ⟨h0, vs, h1, h2⟩ := h
  exact ⟨h0, vs, h1.mono hn, h2⟩
theorem RdW.mono {B0 : Nat} {ρ : Nat → Nat} {R : RdB} {line n n' m : Nat} {S : RdS} {cv kv : Value} {w : World} (h : RdW B0 ρ R line n m S cv kv w) (hn : n ≤ n') : RdW B0 ρ R line n' m S cv kv w :=
  ⟨h.hr, h.hB, h.g, h.cell, h.c, h.k, h.d.mono hn, h.f.mono hn, ⟨h.l.1, h.l.2.mono hn⟩, h.e, h.s⟩
section
variable {B0 : Nat} {ρ : Nat → Nat} {R : RdB} {line n m : Nat} {S : RdS} {cv kv : Value} {w w' : World}
theorem RdW.newf (h : RdW B0 ρ R line n m S cv kv w) {fs' : Nat → Option (List Nat)} (hk : Keep (fun b => b = R.bf) w w') (hf : DecM ρ 5 R.bf (n + 1) fs' w') : RdW B0 ρ R line (n + 1) m { S with fs := fs' } cv kv w' := by
  have H := h.mono (Nat.le_succ n)
  have hX : ∀ b, b = R.bf → ρ b = 5 := fun b e => by rw [e]; exact h.f.1
  exact {
    hr := H.hr, hB := Nat.le_trans h.hB hk.size, g := H.g, cell := hk.heap H.cell (fun e => by have := hX _ e; have := H.g; omega)
    c := H.c.keep hk (fun b hb h3 => by have := hX b hb; omega)
    k := H.k.keep hk (fun b hb h3 => by have := hX b hb; omega)
    d := H.d.keep hk (fun b hb => by have := hX b hb; omega)
    f := hf
    l := ⟨H.l.1, H.l.2.keep hk (fun hb => by have := hX _ hb; have := H.l.1; omega)⟩
    e := ⟨H.e.1, H.e.2.keep hk (fun hb => by have := hX _ hb; have := H.e.1; omega)⟩
    s := ⟨H.s.1, H.s.2.keep hk (fun hb => by have := hX _ hb; have := H.s.1; omega)⟩ }
theorem RdW.newd (h : RdW B0 ρ R line n m S cv kv w) {ds' : Nat → Option (List Nat)} (hk : Keep (fun b => b = R.bd) w w') (hf : DecM ρ 4 R.bd (n + 1) ds' w') : RdW B0 ρ R line (n + 1) m { S with ds := ds' } cv kv w' := by
  have H := h.mono (Nat.le_succ n)
  have hX : ∀ b, b = R.bd → ρ b = 4 := fun b e => by rw [e]; exact h.d.1
  exact {
    hr := H.hr, hB := Nat.le_trans h.hB hk.size, g := H.g, cell := hk.heap H.cell (fun e => by have := hX _ e; have := H.g; omega)
    c := H.c.keep hk (fun b hb h3 => by have := hX b hb; omega)
    k := H.k.keep hk (fun b hb h3 => by have := hX b hb; omega)
    f := H.f.keep hk (fun b hb => by have := hX b hb; omega)
    d := hf
    l := ⟨H.l.1, H.l.2.keep hk (fun hb => by have := hX _ hb; have := H.l.1; omega)⟩
    e := ⟨H.e.1, H.e.2.keep hk (fun hb => by have := hX _ hb; have := H.e.1; omega)⟩
    s := ⟨H.s.1, H.s.2.keep hk (fun hb => by have := hX _ hb; have := H.s.1; omega)⟩ }
theorem RdW.newl (h : RdW B0 ρ R line (n + 1) m S cv kv w) {ls' : Nat → Option Nat} (hk : Keep (fun b => b = R.bl) w w') (hf : MapG Tryz.prog 21 R.bl (n + 1) (ptF (lsV ls')) w') : RdW B0 ρ R line (n + 1) m { S with ls := ls' } cv kv w' := by
  have H := h
  have hX : ∀ b, b = R.bl → ρ b = 6 := fun b e => by rw [e]; exact h.l.1
  exact {
    hr := H.hr, hB := Nat.le_trans h.hB hk.size, g := H.g, cell := hk.heap H.cell (fun e => by have := hX _ e; have := H.g; omega)
    c := H.c.keep hk (fun b hb h3 => by have := hX b hb; omega)
    k := H.k.keep hk (fun b hb h3 => by have := hX b hb; omega)
    f := H.f.keep hk (fun b hb => by have := hX b hb; omega)
    d := H.d.keep hk (fun b hb => by have := hX b hb; omega)
    l := ⟨H.l.1, hf⟩
    e := ⟨H.e.1, H.e.2.keep hk (fun hb => by have := hX _ hb; have := H.e.1; omega)⟩
    s := ⟨H.s.1, H.s.2.keep hk (fun hb => by have := hX _ hb; have := H.s.1; omega)⟩ }
theorem pts_new (h : RdW B0 ρ R line n m S cv kv w) (hb : Below w.heap.size w w') {B : Nat} {l : List Nat} (_h0 : l ≠ []) (h9 : l.length ≤ 9) (hB : w.heap.size ≤ B) (hB2 : B < w'.heap.size) (hc : ∀ (i : Nat) (x : Nat), l[i]? = some x → w'.cell? ⟨B, i, none⟩ = some (.int .i32 (x : Nat))) :
    RdW B0 (moreR w ρ 0) R line n m S cv kv w' ∧ PtV (moreR w ρ 0) (.slice (some ⟨B, 0, none⟩) l.length l.length) l w' :=
  ⟨(h.role_more 0).below hb, B, 0, l.length, rfl, Nat.le_refl _, by omega, moreR_new B hB, hB2, fun i x hx => by rw [Nat.zero_add]; exact hc i x hx⟩
end

set_option maxRecDepth 100000 in
set_option maxHeartbeats 4000000 in
theorem pfoldR {B0 : Nat} {ρ : Nat → Nat} {R : RdB} {line n m : Nat} {S : RdS} {cv kv : Value} (w : World) (hR : RdW B0 ρ R line n m S cv kv w) (ws : List (List UInt8)) (sv : Value) (hS : StrS sv ws w) (hz : ∀ x ∈ ws, x ≠ [] ∧ x.length ≤ 1048576) (h2 : 2 ≤ ws.length) (hE : PEnv w) (hn : n ≤ 1000000) :
    Calls Tryz.prog 38 #[.pointer (some ⟨R.g, 0, none⟩), sv] w fun e w' => RdOut B0 ρ R line (n + 1) m (foldP S ws).1 (foldP S ws).2 w e w' := by
  have CP := Lib.hid (ppoints ws sv w hS (fun x hx => (hz x hx).2) (fun e => by rw [e] at h2; simp at h2) hE)
  obtain ⟨⟨no, l⟩, hP⟩ : ∃ z, ptsP ws = z := ⟨_, rfl⟩
  rw [hP] at CP
  have HP := Lib.hid hP
  have H2 := Lib.hid h2
  clear hP hS hz h2 hE
  have HR := Lib.hid hR
  have hgl := hR.gl
  clear hR
  go_enter Tryz.func38, Tryz.ntmps38
  go_wp2_with fail
  refine CP.out.mono ?_
  rintro e w1 ⟨hb1, v, rfl, hv⟩
  by_cases h0 : no = 0
  · subst h0
    obtain ⟨b, rfl, hb2, hb3, hc⟩ := hv rfl
    have hok := ptsP_ok HP.out
    have H2' := H2.out
    cases l with
    | nil => exact absurd hok.1 (by simp; omega)
    | cons x t =>
    have ht : t ≠ [] := fun e => by rw [e] at hok; have := hok.1; simp at this; omega
    have hx : x ≤ 1114111 := valid_le (hok.2.2 x List.mem_cons_self)
    obtain ⟨HR1, HV⟩ := pts_new HR.out hb1 (List.cons_ne_nil x t) (by omega) hb2 hb3 hc
    simp only at hc hok
    have HR1' := Lib.hid HR1
    have HB1 := Lib.hid hb1
    have hxc : w1.cell? ⟨b, 0, none⟩ = some (.int .i32 (x : Nat)) := hc 0 x rfl
    have HBN := Lib.hid hb2
    obtain ⟨q, hq⟩ : ∃ q, t.length = q := ⟨_, rfl⟩
    rw [List.length_cons, hq] at HV ⊢
    have HX : Hid (foldP S ws = if (S.fs x).isSome then (13, S) else (0, { S with fs := updN S.fs x t })) := Lib.hid (by unfold foldP; rw [HP.out]; rfl)
    have CU := Lib.hid (pput (moreR w ρ 0) 5 R.bf n S.fs w1 (by decide) HR1.f x t (by omega) ht (by omega) _ (HV))
    rw [show R.g = R.g from rfl]
    have c5 : w1.cell? ⟨R.g, 5, none⟩ = some (.map (some R.bf)) := by rw [Lib.cell_of_heap HR1.cell]; rfl
    clear hb1 hv hok ht hx HR1 HV hc hb2 hb3 hxc hgl H2'
    go_wp2_with fail
    refine CU.out.mono ?_
    rintro e w2 ⟨he, hD, hK⟩
    have HN := Lib.hid (HR1'.out.newf hK hD)
    have HBB : Hid (Keep (fun b => ρ b ≠ 0 ∧ ρ b ≠ 9) w w2) := Lib.hid ((Keep.of_all HB1.out).trans (hK.weaken (fun b _ hb => by
      have h : ρ b = 5 := by rw [hb]; exact HR.out.f.1
      constructor <;> omega)))
    clear hD hK
    cases hs : (S.fs x).isSome with
    | true =>
      rw [hs] at HN HX he
      replace he : e = .returned (.int .i64 13) := he
      replace HX : Hid (foldP S ws = (13, S)) := HX
      subst he
      go_wp2
      go_ret
      rw [HX.out]
      exact ⟨rfl, HBB.out, _, _, _, _, HN.out, fun b hb => moreR_old b hb, fun e => by cases e⟩
    | false =>
      rw [hs] at HN HX he
      replace he : e = .returned (.int .i64 0) := he
      replace HX : Hid (foldP S ws = (0, { S with fs := updN S.fs x t })) := HX
      subst he
      go_wp2
      go_ret
      rw [HX.out]
      exact ⟨rfl, HBB.out, _, _, _, _, HN.out, fun b hb => moreR_old b hb, fun _ => rfl⟩
  · have HX : Hid (foldP S ws = (no, S)) := Lib.hid (foldP_no HP.out h0)
    have b1 : ((no : Int) != 0) = true := by simp; omega
    have HB := Lib.hid hb1
    clear hb1 hv
    go_wp2
    go_ret
    rw [HX.out]
    exact ⟨rfl, Keep.of_all HB.out, ρ, S, cv, kv, (HR.out.below HB.out).mono (Nat.le_succ n), fun _ _ => rfl, fun e => absurd e h0⟩

set_option maxRecDepth 100000 in
set_option maxHeartbeats 4000000 in
theorem pdecR {B0 : Nat} {ρ : Nat → Nat} {R : RdB} {line n m : Nat} {S : RdS} {cv kv : Value} (w : World) (hR : RdW B0 ρ R line n m S cv kv w) (ws : List (List UInt8)) (sv : Value) (hS : StrS sv ws w) (hz : ∀ x ∈ ws, x ≠ [] ∧ x.length ≤ 1048576) (h2 : 2 ≤ ws.length) (hE : PEnv w) (hn : n ≤ 1000000) :
    Calls Tryz.prog 39 #[.pointer (some ⟨R.g, 0, none⟩), sv] w fun e w' => RdOut B0 ρ R line (n + 2) m ((dcmP line) S ws).1 ((dcmP line) S ws).2 w e w' := by
  have CP := Lib.hid (ppoints ws sv w hS (fun x hx => (hz x hx).2) (fun e => by rw [e] at h2; simp at h2) hE)
  obtain ⟨⟨no, l⟩, hP⟩ : ∃ z, ptsP ws = z := ⟨_, rfl⟩
  rw [hP] at CP
  have HP := Lib.hid hP
  have H2 := Lib.hid h2
  clear hP hS hz h2 hE
  have HR := Lib.hid hR
  have hgl := hR.gl
  clear hR
  go_enter Tryz.func39, Tryz.ntmps39
  go_wp2_with fail
  refine CP.out.mono ?_
  rintro e w1 ⟨hb1, v, rfl, hv⟩
  by_cases h0 : no = 0
  · subst h0
    obtain ⟨b, rfl, hb2, hb3, hc⟩ := hv rfl
    have hok := ptsP_ok HP.out
    have H2' := H2.out
    cases l with
    | nil => exact absurd hok.1 (by simp; omega)
    | cons x t =>
    have ht : t ≠ [] := fun e => by rw [e] at hok; have := hok.1; simp at this; omega
    have hx : x ≤ 1114111 := valid_le (hok.2.2 x List.mem_cons_self)
    obtain ⟨HR1, HV⟩ := pts_new HR.out hb1 (List.cons_ne_nil x t) (by omega) hb2 hb3 hc
    simp only at hc hok
    have HR1' := Lib.hid HR1
    have HB1 := Lib.hid hb1
    have hxc : w1.cell? ⟨b, 0, none⟩ = some (.int .i32 (x : Nat)) := hc 0 x rfl
    have HBN := Lib.hid hb2
    obtain ⟨q, hq⟩ : ∃ q, t.length = q := ⟨_, rfl⟩
    rw [List.length_cons, hq] at HV ⊢
    have HX : Hid (dcmP line S ws = if (S.ds x).isSome then (13, S) else if hanP x then (1, S) else (0, { S with ds := updN S.ds x t, ls := updN S.ls x line })) := Lib.hid (by unfold dcmP; rw [HP.out]; rfl)
    have CU := Lib.hid (pput (moreR w ρ 0) 4 R.bd n S.ds w1 (by decide) HR1.d x t (by omega) ht (by omega) _ HV)
    have c4 : w1.cell? ⟨R.g, 4, none⟩ = some (.map (some R.bd)) := by rw [Lib.cell_of_heap HR1.cell]; rfl
    have HXC := Lib.hid hxc
    have HXX := Lib.hid hx
    have HBR : Hid (b ≠ R.bd) := Lib.hid (fun e => by have h1 : moreR w ρ 0 b = 0 := moreR_new b hb2; rw [e, HR1.d.1] at h1; cases h1)
    have CHN := Lib.hid (fun W => phan (x : Int) W)
    clear hb1 hv hok ht hx HR1 HV hc hb2 hb3 hxc hgl H2'
    go_wp2_with fail
    refine CU.out.mono ?_
    rintro e w2 ⟨he, hD, hK⟩
    have HK := Lib.hid hK
    have HBB : Hid (Keep (fun b => ρ b ≠ 0 ∧ ρ b ≠ 9) w w2) := Lib.hid ((Keep.of_all HB1.out).trans (HK.out.weaken (fun b _ hb => by
      have h : ρ b = 4 := by rw [hb]; exact HR.out.d.1
      constructor <;> omega)))
    have HN := Lib.hid (HR1'.out.newd HK.out hD)
    have hxc2 : w2.cell? ⟨b, 0, none⟩ = some (.int .i32 (x : Nat)) := hK.cell HXC.out HBR.out
    clear hD hK CU HB1
    cases hs : (S.ds x).isSome with
    | true =>
      rw [hs] at HN HX he
      replace he : e = .returned (.int .i64 13) := he
      subst he
      replace HX : Hid (dcmP line S ws = (13, S)) := HX
      clear hxc2
      go_wp2
      go_ret
      rw [HX.out]
      exact ⟨rfl, HBB.out, _, _, _, _, HN.out.mono (by omega), fun b hb => moreR_old b hb, fun e => by cases e⟩
    | false =>
      rw [hs] at HN HX he
      replace he : e = .returned (.int .i64 0) := he
      subst he
      replace HX : Hid (dcmP line S ws = if hanP x then (1, S) else (0, { S with ds := updN S.ds x t, ls := updN S.ls x line })) := HX
      replace HN : Hid (RdW B0 (moreR w ρ 0) R line (n + 1) m { S with ds := updN S.ds x t } cv kv w2) := HN
      have hpos : (0 : Int) ≤ (q : Int) := by omega
      go_wp2_with fail
      refine (CHN.out w2).mono ?_
      rintro e w3 ⟨rfl, rfl⟩
      cases hh : hanP (x : Int) with
      | true =>
        rw [hh] at HX
        replace HX : Hid (dcmP line S ws = (1, S)) := HX
        clear hxc2
        go_wp2
        go_ret
        rw [HX.out]
        exact ⟨rfl, HBB.out, _, _, _, _, HN.out.mono (by omega), fun b hb => moreR_old b hb, fun e => by cases e⟩
      | false =>
        rw [hh] at HX
        replace HX : Hid (dcmP line S ws = (0, { S with ds := updN S.ds x t, ls := updN S.ls x line })) := HX
        go_wp2_with fail
        have hkey : keyOf Tryz.prog 21 (.int .i32 (x : Nat)) = some (.int .i32 (x : Nat)) := keyOf_int_mk Tryz.underlying21 (WalkArith.wf_i32 (n := (x : Int)) ⟨by omega, by have := HXX.out; omega⟩)
        have hcell := HN.out.cell
        have hf6 : ∀ X : World, (Instr.fieldAt 57 (.pointer (some ⟨R.g, 0, none⟩)) 6).run Tryz.prog X = .ok (.pointer (some ⟨R.g, 6, none⟩)) X := fun X => by go_simp
        have hf1 : ∀ X : World, (Instr.fieldAt 57 (.pointer (some ⟨R.g, 0, none⟩)) 1).run Tryz.prog X = .ok (.pointer (some ⟨R.g, 1, none⟩)) X := fun X => by go_simp
        have hlb : ∀ X : World, X = w3.drew → (Instr.loadAt 55 (.pointer (some ⟨R.g, 6, none⟩))).run Tryz.prog X = .ok (.map (some R.bl)) X := fun X h => by
          subst h
          have c1 : w3.drew.cell? ⟨R.g, 6, none⟩ = some (.map (some R.bl)) := by rw [Lib.cell_of_heap (w := w3.drew) hcell]; rfl
          go_simp
        have hll : ∀ X : World, X = w3.drew → (Instr.loadAt 3 (.pointer (some ⟨R.g, 1, none⟩))).run Tryz.prog X = .ok (.int .i64 (line : Nat)) X := fun X h => by
          subst h
          have c1 : w3.drew.cell? ⟨R.g, 1, none⟩ = some (.int .i64 (line : Nat)) := by rw [Lib.cell_of_heap (w := w3.drew) hcell]; rfl
          go_simp
        have hlx : ∀ X : World, X = w3.drew → (Instr.loadAt 21 (.pointer (some ⟨b, 0, none⟩))).run Tryz.prog X = .ok (.int .i32 (x : Nat)) X := fun X h => by
          subst h
          have c1 : w3.drew.cell? ⟨b, 0, none⟩ = some (.int .i32 (x : Nat)) := hxc2
          go_simp
        have hix : ∀ X : World, (Instr.indexAt 62 (.slice (some ⟨b, 0, none⟩) (q + 1) (q + 1)) (.int .i64 0)).run Tryz.prog X = .ok (.pointer (some ⟨b, 0, none⟩)) X := fun X => by
          have q1 : ¬ (q : Int) + 1 ≤ 0 := by omega
          go_simp
        obtain ⟨w4, hr2, hM2, hK2⟩ := (HN.out.l.2.keep (Keep.refl (fun _ => False) w3).drew (fun h => h)).put (int_keyed Tryz.underlying21) Tryz.underlying55 (by unfold maxLen; omega) (val := .int .i64 (line : Nat)) hkey
        have hmu : ∀ X : World, X = w3.drew → (Instr.mapUpdate 55 (.map (some R.bl)) (.int .i32 (x : Nat)) (.int .i64 (line : Nat))).run Tryz.prog X = .ok () w4 := fun X h => by
          subst h
          exact hr2
        have HKW := Lib.hid (Keep.trans (Keep.refl (fun b => b = R.bl) w3).drew hK2)
        have HLM : Hid (MapG Tryz.prog 21 R.bl (n + 1 + 1) (ptF (lsV (updN S.ls x line))) w4) := Lib.hid (hM2.congr (fun kl hkl => by
          rw [ptF_put _ _ _ _ hkl]
          congr 1
          funext y
          unfold lsV updN
          by_cases e : y = x
          · rw [if_pos e, if_pos e]; rfl
          · rw [if_neg e, if_neg e]))
        clear hkey hcell hr2 hM2 hK2 hxc2 hpos
        obtain ⟨FF, hFF⟩ : ∃ FF : StoR, FF = ⟨w3.drew, w4, 11, fun z => match z with | 0 => some (.pointer (some ⟨R.g, 0, none⟩)) | 1 => some (.pointer (some ⟨R.g, 0, none⟩)) | 2 => some (.pointer (some ⟨R.g, 6, none⟩)) | 3 => some (.map (some R.bl)) | 4 => some (.slice (some ⟨b, 0, none⟩) (q + 1) (q + 1)) | 5 => some (.pointer (some ⟨b, 0, none⟩)) | 6 => some (.int .i32 (x : Nat)) | 7 => some (.pointer (some ⟨R.g, 0, none⟩)) | 8 => some (.pointer (some ⟨R.g, 0, none⟩)) | 9 => some (.pointer (some ⟨R.g, 1, none⟩)) | 10 => some (.int .i64 (line : Nat)) | _ => none⟩ := ⟨_, rfl⟩
        have H0 : StoR.S FF (fun _ => false) w3.drew := by rw [hFF]; exact fun _ => rfl
        refine wp_region_done (StoR.S FF) (StoR.P FF) (by kernel_rfl) (by kernel_rfl) (by kernel_rfl) H0 ?hs ?hd
        case hs =>
          rw [hFF]
          refine DSteps.cons ?_ (DSteps.cons ?_ (DSteps.cons ?_ (DSteps.cons ?_ (DSteps.cons ?_ (DSteps.cons ?_ (DSteps.cons ?_ (DSteps.cons ?_ (DSteps.cons ?_ (DSteps.cons ?_ (DSteps.cons ?_ (DSteps.cons ?_ (DSteps.nil))))))))))))
          · intro D2 a X9 hDi hDa _ hX hL hd
            refine ⟨rfl, ?_⟩
            have e0 : a.eval (.tmp 0) = .pointer (some ⟨R.g, 0, none⟩) := hL.far 0 (by kernel_rfl)
            exact wp_value (exec_move rfl e0) ⟨_, rfl, hX.more, fun _ _ _ h => h, StoR.P.mk rfl (by simp)⟩
          · intro D2 a X9 hDi hDa _ hX hL hd
            refine ⟨rfl, ?_⟩
            have e0 : a.eval (.tmp 29) = .pointer (some ⟨R.g, 0, none⟩) := (hd 0 29 (by kernel_rfl) (by kernel_rfl)).is rfl
            exact wp_value (exec_nilCheck rfl e0) ⟨_, rfl, hX.more, fun _ _ _ h => h, StoR.P.mk rfl (by simp)⟩
          · intro D2 a X9 hDi hDa _ hX hL hd
            refine ⟨rfl, ?_⟩
            have e0 : a.eval (.tmp 30) = .pointer (some ⟨R.g, 0, none⟩) := (hd 1 30 (by kernel_rfl) (by kernel_rfl)).is rfl
            exact wp_value (exec_fieldAddr rfl e0 (hf6 X9)) ⟨_, rfl, hX.more, fun _ _ _ h => h, StoR.P.mk rfl (by simp)⟩
          · intro D2 a X9 hDi hDa _ hX hL hd
            refine ⟨rfl, ?_⟩
            have e0 : a.eval (.tmp 31) = .pointer (some ⟨R.g, 6, none⟩) := (hd 2 31 (by kernel_rfl) (by kernel_rfl)).is rfl
            exact wp_value (exec_load rfl e0 (hlb X9 (hX (hDa 11 (by kernel_rfl))))) ⟨_, rfl, hX.more, fun _ _ _ h => h, StoR.P.mk rfl (by simp)⟩
          · intro D2 a X9 hDi hDa _ hX hL hd
            refine ⟨rfl, ?_⟩
            have e0 : a.eval (.tmp 5) = .slice (some ⟨b, 0, none⟩) (q + 1) (q + 1) := hL.far 5 (by kernel_rfl)
            exact wp_value (exec_move rfl e0) ⟨_, rfl, hX.more, fun _ _ _ h => h, StoR.P.mk rfl (by simp)⟩
          · intro D2 a X9 hDi hDa _ hX hL hd
            refine ⟨rfl, ?_⟩
            have e0 : a.eval (.tmp 33) = .slice (some ⟨b, 0, none⟩) (q + 1) (q + 1) := (hd 4 33 (by kernel_rfl) (by kernel_rfl)).is rfl
            exact wp_value (exec_indexAddr rfl e0 rfl (hix X9)) ⟨_, rfl, hX.more, fun _ _ _ h => h, StoR.P.mk rfl (by simp)⟩
          · intro D2 a X9 hDi hDa _ hX hL hd
            refine ⟨rfl, ?_⟩
            have e0 : a.eval (.tmp 34) = .pointer (some ⟨b, 0, none⟩) := (hd 5 34 (by kernel_rfl) (by kernel_rfl)).is rfl
            exact wp_value (exec_load rfl e0 (hlx X9 (hX (hDa 11 (by kernel_rfl))))) ⟨_, rfl, hX.more, fun _ _ _ h => h, StoR.P.mk rfl (by simp)⟩
          · intro D2 a X9 hDi hDa _ hX hL hd
            refine ⟨rfl, ?_⟩
            have e0 : a.eval (.tmp 0) = .pointer (some ⟨R.g, 0, none⟩) := hL.far 0 (by kernel_rfl)
            exact wp_value (exec_move rfl e0) ⟨_, rfl, hX.more, fun _ _ _ h => h, StoR.P.mk rfl (by simp)⟩
          · intro D2 a X9 hDi hDa _ hX hL hd
            refine ⟨rfl, ?_⟩
            have e0 : a.eval (.tmp 36) = .pointer (some ⟨R.g, 0, none⟩) := (hd 7 36 (by kernel_rfl) (by kernel_rfl)).is rfl
            exact wp_value (exec_nilCheck rfl e0) ⟨_, rfl, hX.more, fun _ _ _ h => h, StoR.P.mk rfl (by simp)⟩
          · intro D2 a X9 hDi hDa _ hX hL hd
            refine ⟨rfl, ?_⟩
            have e0 : a.eval (.tmp 37) = .pointer (some ⟨R.g, 0, none⟩) := (hd 8 37 (by kernel_rfl) (by kernel_rfl)).is rfl
            exact wp_value (exec_fieldAddr rfl e0 (hf1 X9)) ⟨_, rfl, hX.more, fun _ _ _ h => h, StoR.P.mk rfl (by simp)⟩
          · intro D2 a X9 hDi hDa _ hX hL hd
            refine ⟨rfl, ?_⟩
            have e0 : a.eval (.tmp 38) = .pointer (some ⟨R.g, 1, none⟩) := (hd 9 38 (by kernel_rfl) (by kernel_rfl)).is rfl
            exact wp_value (exec_load rfl e0 (hll X9 (hX (hDa 11 (by kernel_rfl))))) ⟨_, rfl, hX.more, fun _ _ _ h => h, StoR.P.mk rfl (by simp)⟩
          · intro D2 a X9 hDi hDa _ hX hL hd
            refine ⟨rfl, ?_⟩
            have e0 : a.eval (.tmp 32) = .map (some R.bl) := (hd 3 32 (by kernel_rfl) (by kernel_rfl)).is rfl
            have e1 : a.eval (.tmp 35) = .int .i32 (x : Nat) := (hd 6 35 (by kernel_rfl) (by kernel_rfl)).is rfl
            have e2 : a.eval (.tmp 39) = .int .i64 (line : Nat) := (hd 10 39 (by kernel_rfl) (by kernel_rfl)).is rfl
            exact wp_skipped (exec_mapUpdate rfl e0 e1 e2 (hmu X9 (hX hDi))) ⟨undef, rfl, StoR.S.store, fun k2 u hj h => h.store (fun e => by subst e; rw [hDi] at hj; cases hj), StoR.P.last rfl rfl⟩
        case hd =>
          intro D2 a X9 hAll hX hL hP hE
          obtain ⟨_, hp⟩ := hE 11 (by decide)
          rw [hFF] at hp
          have hX9 : X9 = w4 := hp.2 rfl
          obtain ⟨f, ha, hf⟩ := hL.out [29, 30, 31, 32, 33, 34, 35, 36, 37, 38, 39] rfl
          clear hf hAll hP hX hL hE hp hFF H0 hf6 hlb hix hlx hf1 hll hmu
          simp only [List.foldl_cons, List.foldl_nil, List.setIfInBounds_toArray, List.set_cons_zero, List.set_cons_succ] at ha
          subst ha
          subst hX9
          go_wp2
          go_ret
          rw [HX.out]
          have H9 := (HN.out.mono (Nat.le_succ (n + 1))).newl HKW.out HLM.out
          exact ⟨rfl, HBB.out.trans (HKW.out.weaken (fun b _ hb => by
            have h : ρ b = 6 := by rw [hb]; exact HR.out.l.1
            constructor <;> omega)), _, _, _, _, H9, fun b hb => moreR_old b hb, fun _ => rfl⟩
  · have HX : Hid (dcmP line S ws = (no, S)) := Lib.hid (dcmP_no HP.out h0)
    have b1 : ((no : Int) != 0) = true := by simp; omega
    have HB := Lib.hid hb1
    clear hb1 hv
    go_wp2
    go_ret
    rw [HX.out]
    exact ⟨rfl, Keep.of_all HB.out, ρ, S, cv, kv, (HR.out.below HB.out).mono (by omega), fun _ _ => rfl, fun e => absurd e h0⟩
end Go.Proofs.YthhepebkfokddaaGreatDoor
/- props: take. WRITTEN by wip/tools/gen_jm.py. -/
namespace Go.Proofs.YthhepebkfokddaaGreatDoor
open Go Go.RowKit Go.Kt Go.Kt.Rg Go.Maps

def takeP (line : Nat) (S : RdS) : List (List UInt8) → Nat × RdS
  | [] => (0, S)
  | x :: t => if x ≠ [99, 108, 97, 115, 115] ∧ x ≠ [107, 105, 110, 100] ∧ x ≠ [102, 111, 108, 100] ∧ x ≠ [100, 101, 99, 111, 109, 112] then (12, S) else if t.length < 2 then (2, S) else
      if x = [99, 108, 97, 115, 115] then ((rowP clsP t).1, { S with cs := S.cs ++ [(rowP clsP t).2] }) else if x = [107, 105, 110, 100] then ((rowP kndZ t).1, { S with ks := S.ks ++ [(rowP kndZ t).2] }) else
        if x = [102, 111, 108, 100] then foldP S t else dcmP line S t
theorem StrS.tail {g off n cap : Nat} {x : List UInt8} {t : List (List UInt8)} {w : World} (h1 : n = t.length) (h2 : n + 1 ≤ cap) (h3 : cap ≤ 4611686018427387904) (hc : ∀ i y, (x :: t)[i]? = some y → w.cell? ⟨g, off + i, none⟩ = some (.string ⟨y.toArray⟩)) :
    StrS (.slice (some ⟨g, off + 1, none⟩) n (cap - 1)) t w := by
  subst h1
  refine ⟨g, off + 1, cap - 1, rfl, by omega, by omega, fun i y hy => ?_⟩
  have := hc (i + 1) y (by simpa using hy)
  rw [show off + 1 + i = off + (i + 1) by omega]
  exact this

set_option maxRecDepth 100000 in
set_option maxHeartbeats 4000000 in
theorem ptake {B0 : Nat} {ρ : Nat → Nat} {R : RdB} {line n m : Nat} {S : RdS} {cv kv : Value} (w : World) (hR : RdW B0 ρ R line n m S cv kv w) (ws : List (List UInt8)) (sv : Value) (hS : StrS sv ws w) (hz : ∀ x ∈ ws, x ≠ [] ∧ x.length ≤ 1048576) (hE : PEnv w) (hn : n ≤ 1000000) (hcs : S.cs.length ≤ 65536) (hks : S.ks.length ≤ 65536) :
    Calls Tryz.prog 19 #[.pointer (some ⟨R.g, 0, none⟩), sv] w fun e w' => RdOut B0 ρ R line (n + 2) m (takeP line S ws).1 (takeP line S ws).2 w e w' := by
  obtain ⟨g, off, cap, rfl, hcap, hcap2, hc⟩ := hS
  cases ws with
  | nil =>
    simp only [List.length_nil] at hcap ⊢
    have HR := Lib.hid hR
    clear hR hE hc hcap hcap2
    go_enter Tryz.func19, Tryz.ntmps19
    go_wp2
    go_ret
    exact ⟨rfl, Keep.refl _ _, _, _, _, _, HR.out.mono (by omega), fun _ _ => rfl, fun _ => rfl⟩
  | cons x t =>
    obtain ⟨q, hq⟩ : ∃ q, t.length = q := ⟨_, rfl⟩
    have hx := hz x List.mem_cons_self
    have hzt : ∀ y ∈ t, y ≠ [] ∧ y.length ≤ 1048576 := fun y hy => hz y (List.mem_cons_of_mem _ hy)
    have c0 : w.cell? ⟨g, off, none⟩ = some (.string ⟨x.toArray⟩) := hc 0 x rfl
    have cs0 : w.cell? ⟨R.g, 0, none⟩ = some (.map (some R.bs)) := by rw [Lib.cell_of_heap hR.cell]; rfl
    have hkey : keyOf Tryz.prog 9 (.string ⟨x.toArray⟩) = some (.string x) := by
      have := Go.WideMaps.keyOf_string_mk (P := Tryz.prog) Tryz.underlying9 (s := ⟨x.toArray⟩) (by rw [bsize]; have := hx.2; unfold maxLen; omega)
      simpa using this
    rw [List.length_cons, hq] at hcap ⊢
    have hl1 := fun k => (hR.s.2.keep (X := fun _ => False) (Keep.of_all (below_drewN (Below.refl _ w) k)) (fun h => h)).look (string_keyed Tryz.underlying9) Tryz.underlying52 (z := .nilFunc) rfl hkey
    have HTL := Lib.hid (fun h => StrS.tail (w := w) hq.symm h hcap2 hc)
    have HR := Lib.hid hR
    have HE := Lib.hid hE
    clear hR hE hc hz hkey
    by_cases hnone : x ≠ [99, 108, 97, 115, 115] ∧ x ≠ [107, 105, 110, 100] ∧ x ≠ [102, 111, 108, 100] ∧ x ≠ [100, 101, 99, 111, 109, 112]
    · have HX : Hid (takeP line S (x :: t) = (12, S)) := Lib.hid (by unfold takeP; exact if_pos hnone)
      have hs : saysF R.g (.string x) = none := by simp [saysF, hnone]
      rw [hs] at hl1
      replace hl1 : ∀ k, (Instr.lookup 52 (.map (some R.bs)) (.string ⟨x.toArray⟩) true).run Tryz.prog (w.drewN k) = .ok (.tuple #[.nilFunc, .bool false]) (w.drewN k) := hl1
      clear hnone hs hx hzt HTL
      go_enter Tryz.func19, Tryz.ntmps19
      go_wp2_with fail
      go_quiet (fail)
      go_wp2
      go_ret
      rw [HX.out]
      exact ⟨rfl, Keep.of_all (below_drewN (Below.refl _ _) _), _, _, _, _, (HR.out.below (below_drewN (Below.refl _ _) _)).mono (by omega), fun _ _ => rfl, fun e => by cases e⟩
    · by_cases h2 : t.length < 2
      · obtain ⟨fv, hs⟩ : ∃ fv, saysF R.g (.string x) = some (saysV R.g fv) := by
          unfold saysF
          simp only
          split
          · exact ⟨_, rfl⟩
          · split
            · exact ⟨_, rfl⟩
            · split
              · exact ⟨_, rfl⟩
              · split
                · exact ⟨_, rfl⟩
                · rename_i h1 h2 h3 h4
                  exact absurd ⟨h1, h2, h3, h4⟩ hnone
        have HX : Hid (takeP line S (x :: t) = (2, S)) := Lib.hid (by unfold takeP; exact (if_neg hnone).trans (if_pos h2))
        rw [hs] at hl1
        replace hl1 : ∀ k, (Instr.lookup 52 (.map (some R.bs)) (.string ⟨x.toArray⟩) true).run Tryz.prog (w.drewN k) = .ok (.tuple #[.func (.func fv) #[.pointer (some ⟨R.g, 0, none⟩)] #[], .bool true]) (w.drewN k) := hl1
        have hq3 : (q : Int) + 1 < 3 := by omega
        clear hnone hs hx hzt HTL h2
        go_enter Tryz.func19, Tryz.ntmps19
        go_wp2_with fail
        go_quiet (fail)
        go_wp2
        go_ret
        rw [HX.out]
        exact ⟨rfl, Keep.of_all (below_drewN (Below.refl _ _) _), _, _, _, _, (HR.out.below (below_drewN (Below.refl _ _) _)).mono (by omega), fun _ _ => rfl, fun e => by cases e⟩
      · have hq3 : (3 : Int) ≤ (q : Int) + 1 := by omega
        have HQ2 : Hid (2 ≤ t.length) := Lib.hid (by omega)
        have HZT := Lib.hid hzt
        have HCC := Lib.hid (And.intro hcs hks)
        by_cases hw1 : x = [99, 108, 97, 115, 115]
        · have hs : saysF R.g (.string x) = some (saysV R.g 36) := by rw [hw1]; rfl
          have HX : Hid (takeP line S (x :: t) = ((rowP clsP t).1, { S with cs := S.cs ++ [(rowP clsP t).2] })) := Lib.hid (by unfold takeP; exact (if_neg hnone).trans ((if_neg h2).trans (if_pos hw1)))
          rw [hs] at hl1
          replace hl1 : ∀ k, (Instr.lookup 52 (.map (some R.bs)) (.string ⟨x.toArray⟩) true).run Tryz.prog (w.drewN k) = .ok (.tuple #[.func (.func 36) #[.pointer (some ⟨R.g, 0, none⟩)] #[], .bool true]) (w.drewN k) := hl1
          have q5 : (1 : Int) ≤ (q : Int) + 1 := by omega
          have q6 : ¬ cap = 1 := by omega
          have q7 : ((q : Int) + 1) ≤ cap := by omega
          rw [HX.out]
          clear hnone hs hx hzt h2 hcs hks hw1 
          go_enter Tryz.func19, Tryz.ntmps19
          go_wp2_with fail
          go_quiet (fail)
          have HRN := Lib.hid (HR.out.below (below_drewN (Below.refl _ w) nq))
          have HSN := Lib.hid ((HTL.out hcap).below (below_drewN (Below.refl _ w) nq))
          have HEN := Lib.hid (HE.out.below (below_drewN (Below.refl _ w) nq))
          have CC := Lib.hid (pclassR (w.drewN nq) HRN.out t _ HSN.out HZT.out HQ2.out HEN.out HCC.out.1)
          obtain ⟨W1, hWN⟩ : ∃ W1, w.drewN nq = W1 := ⟨_, rfl⟩
          have HBW : Hid (Below w.heap.size w W1) := Lib.hid (by rw [← hWN]; exact below_drewN (Below.refl _ w) nq)
          rw [hWN] at CC ⊢
          clear HRN HSN HEN hl1 hWN c0 cs0
          go_wp2_with fail
          refine CC.out.mono ?_
          rintro e w2 ⟨rfl, hbo, ρ', S', cv', kv', hR', hρ', hE'⟩
          have HO := Lib.hid (Keep.trans (Keep.of_all HBW.out) hbo)
          have HO2 := Lib.hid (And.intro hR' (And.intro (fun b (hb : b < w.heap.size) => hρ' b (Nat.lt_of_lt_of_le hb HBW.out.size)) hE'))
          clear hbo hR' hρ' hE'
          go_wp2
          go_ret
          exact ⟨rfl, HO.out, _, _, _, _, HO2.out.1.mono (by omega), HO2.out.2.1, HO2.out.2.2⟩
        · by_cases hw2 : x = [107, 105, 110, 100]
          · have hs : saysF R.g (.string x) = some (saysV R.g 37) := by rw [hw2]; rfl
            have HX : Hid (takeP line S (x :: t) = ((rowP kndZ t).1, { S with ks := S.ks ++ [(rowP kndZ t).2] })) := Lib.hid (by unfold takeP; exact (if_neg hnone).trans ((if_neg h2).trans ((if_neg hw1).trans (if_pos hw2))))
            rw [hs] at hl1
            replace hl1 : ∀ k, (Instr.lookup 52 (.map (some R.bs)) (.string ⟨x.toArray⟩) true).run Tryz.prog (w.drewN k) = .ok (.tuple #[.func (.func 37) #[.pointer (some ⟨R.g, 0, none⟩)] #[], .bool true]) (w.drewN k) := hl1
            have q5 : (1 : Int) ≤ (q : Int) + 1 := by omega
            have q6 : ¬ cap = 1 := by omega
            have q7 : ((q : Int) + 1) ≤ cap := by omega
            rw [HX.out]
            clear hnone hs hx hzt h2 hcs hks hw2 hw1
            go_enter Tryz.func19, Tryz.ntmps19
            go_wp2_with fail
            go_quiet (fail)
            have HRN := Lib.hid (HR.out.below (below_drewN (Below.refl _ w) nq))
            have HSN := Lib.hid ((HTL.out hcap).below (below_drewN (Below.refl _ w) nq))
            have HEN := Lib.hid (HE.out.below (below_drewN (Below.refl _ w) nq))
            have CC := Lib.hid (pkindR (w.drewN nq) HRN.out t _ HSN.out HZT.out HQ2.out HEN.out HCC.out.2)
            obtain ⟨W1, hWN⟩ : ∃ W1, w.drewN nq = W1 := ⟨_, rfl⟩
            have HBW : Hid (Below w.heap.size w W1) := Lib.hid (by rw [← hWN]; exact below_drewN (Below.refl _ w) nq)
            rw [hWN] at CC ⊢
            clear HRN HSN HEN hl1 hWN c0 cs0
            go_wp2_with fail
            refine CC.out.mono ?_
            rintro e w2 ⟨rfl, hbo, ρ', S', cv', kv', hR', hρ', hE'⟩
            have HO := Lib.hid (Keep.trans (Keep.of_all HBW.out) hbo)
            have HO2 := Lib.hid (And.intro hR' (And.intro (fun b (hb : b < w.heap.size) => hρ' b (Nat.lt_of_lt_of_le hb HBW.out.size)) hE'))
            clear hbo hR' hρ' hE'
            go_wp2
            go_ret
            exact ⟨rfl, HO.out, _, _, _, _, HO2.out.1.mono (by omega), HO2.out.2.1, HO2.out.2.2⟩
          · by_cases hw3 : x = [102, 111, 108, 100]
            · have hs : saysF R.g (.string x) = some (saysV R.g 38) := by rw [hw3]; rfl
              have HX : Hid (takeP line S (x :: t) = foldP S t) := Lib.hid (by unfold takeP; exact (if_neg hnone).trans ((if_neg h2).trans ((if_neg hw1).trans ((if_neg hw2).trans (if_pos hw3)))))
              rw [hs] at hl1
              replace hl1 : ∀ k, (Instr.lookup 52 (.map (some R.bs)) (.string ⟨x.toArray⟩) true).run Tryz.prog (w.drewN k) = .ok (.tuple #[.func (.func 38) #[.pointer (some ⟨R.g, 0, none⟩)] #[], .bool true]) (w.drewN k) := hl1
              have q5 : (1 : Int) ≤ (q : Int) + 1 := by omega
              have q6 : ¬ cap = 1 := by omega
              have q7 : ((q : Int) + 1) ≤ cap := by omega
              rw [HX.out]
              clear hnone hs hx hzt h2 hcs hks hw3 hw1 hw2
              go_enter Tryz.func19, Tryz.ntmps19
              go_wp2_with fail
              go_quiet (fail)
              have HRN := Lib.hid (HR.out.below (below_drewN (Below.refl _ w) nq))
              have HSN := Lib.hid ((HTL.out hcap).below (below_drewN (Below.refl _ w) nq))
              have HEN := Lib.hid (HE.out.below (below_drewN (Below.refl _ w) nq))
              have CC := Lib.hid (pfoldR (w.drewN nq) HRN.out t _ HSN.out HZT.out HQ2.out HEN.out hn)
              obtain ⟨W1, hWN⟩ : ∃ W1, w.drewN nq = W1 := ⟨_, rfl⟩
              have HBW : Hid (Below w.heap.size w W1) := Lib.hid (by rw [← hWN]; exact below_drewN (Below.refl _ w) nq)
              rw [hWN] at CC ⊢
              clear HRN HSN HEN hl1 hWN c0 cs0
              go_wp2_with fail
              refine CC.out.mono ?_
              rintro e w2 ⟨rfl, hbo, ρ', S', cv', kv', hR', hρ', hE'⟩
              have HO := Lib.hid (Keep.trans (Keep.of_all HBW.out) hbo)
              have HO2 := Lib.hid (And.intro hR' (And.intro (fun b (hb : b < w.heap.size) => hρ' b (Nat.lt_of_lt_of_le hb HBW.out.size)) hE'))
              clear hbo hR' hρ' hE'
              go_wp2
              go_ret
              exact ⟨rfl, HO.out, _, _, _, _, HO2.out.1.mono (by omega), HO2.out.2.1, HO2.out.2.2⟩
            · have hw4 : x = [100, 101, 99, 111, 109, 112] := Decidable.byContradiction fun h4 => hnone ⟨hw1, hw2, hw3, h4⟩
              have hs : saysF R.g (.string x) = some (saysV R.g 39) := by rw [hw4]; rfl
              have HX : Hid (takeP line S (x :: t) = dcmP line S t) := Lib.hid (by unfold takeP; exact (if_neg hnone).trans ((if_neg h2).trans ((if_neg hw1).trans ((if_neg hw2).trans (if_neg hw3)))))
              rw [hs] at hl1
              replace hl1 : ∀ k, (Instr.lookup 52 (.map (some R.bs)) (.string ⟨x.toArray⟩) true).run Tryz.prog (w.drewN k) = .ok (.tuple #[.func (.func 39) #[.pointer (some ⟨R.g, 0, none⟩)] #[], .bool true]) (w.drewN k) := hl1
              have q5 : (1 : Int) ≤ (q : Int) + 1 := by omega
              have q6 : ¬ cap = 1 := by omega
              have q7 : ((q : Int) + 1) ≤ cap := by omega
              rw [HX.out]
              clear hnone hs hx hzt h2 hcs hks hw4 hw1 hw2 hw3
              go_enter Tryz.func19, Tryz.ntmps19
              go_wp2_with fail
              go_quiet (fail)
              have HRN := Lib.hid (HR.out.below (below_drewN (Below.refl _ w) nq))
              have HSN := Lib.hid ((HTL.out hcap).below (below_drewN (Below.refl _ w) nq))
              have HEN := Lib.hid (HE.out.below (below_drewN (Below.refl _ w) nq))
              have CC := Lib.hid (pdecR (w.drewN nq) HRN.out t _ HSN.out HZT.out HQ2.out HEN.out hn)
              obtain ⟨W1, hWN⟩ : ∃ W1, w.drewN nq = W1 := ⟨_, rfl⟩
              have HBW : Hid (Below w.heap.size w W1) := Lib.hid (by rw [← hWN]; exact below_drewN (Below.refl _ w) nq)
              rw [hWN] at CC ⊢
              clear HRN HSN HEN hl1 hWN c0 cs0
              go_wp2_with fail
              refine CC.out.mono ?_
              rintro e w2 ⟨rfl, hbo, ρ', S', cv', kv', hR', hρ', hE'⟩
              have HO := Lib.hid (Keep.trans (Keep.of_all HBW.out) hbo)
              have HO2 := Lib.hid (And.intro hR' (And.intro (fun b (hb : b < w.heap.size) => hρ' b (Nat.lt_of_lt_of_le hb HBW.out.size)) hE'))
              clear hbo hR' hρ' hE'
              go_wp2
              go_ret
              exact ⟨rfl, HO.out, _, _, _, _, HO2.out.1.mono (by omega), HO2.out.2.1, HO2.out.2.2⟩
end Go.Proofs.YthhepebkfokddaaGreatDoor
/- props: the iterator of a text's lines. -/
namespace Go.Proofs.YthhepebkfokddaaGreatDoor
open Go Go.RowKit Go.Kt Go.Kt.Rg
attribute [local go_sem] Oper.semAt_some

def linesF : Nat → List UInt8 → List (List UInt8)
  | 0, _ => []
  | f + 1, l => if l = [] then [] else if 0 ≤ Lib.indexByte l 10 then l.take ((Lib.indexByte l 10).toNat + 1) :: linesF f (l.drop ((Lib.indexByte l 10).toNat + 1)) else [l]
def linesP (l : List UInt8) : List (List UInt8) := linesF (l.length + 1) l
theorem linesF_fuel : ∀ (f : Nat) (l : List UInt8), l.length < f → linesF f l = linesP l := by
  intro f
  induction f using Nat.strongRecOn with
  | _ f ih =>
    intro l hf
    cases f with
    | zero => omega
    | succ f =>
      by_cases h0 : l = []
      · subst h0; simp [linesP, linesF]
      have hl : 0 < l.length := List.length_pos_iff.2 h0
      unfold linesP
      rw [linesF, linesF, if_neg h0, if_neg h0]
      by_cases h1 : 0 ≤ Lib.indexByte l 10
      · rw [if_pos h1, if_pos h1]
        congr 1
        have hd : (l.drop ((Lib.indexByte l 10).toNat + 1)).length < l.length := by rw [List.length_drop]; omega
        rw [ih f (by omega) _ (by omega)]
        by_cases hfl : f = l.length
        · rw [← hfl, ih f (by omega) _ (by omega)]
        · rw [ih l.length (by omega) _ hd]
      · rw [if_neg h1, if_neg h1]
theorem linesP_nil : linesP [] = [] := rfl
theorem linesP_some {l : List UInt8} (h0 : l ≠ []) {i : Nat} (h : Lib.indexByte l 10 = (i : Int)) : linesP l = l.take (i + 1) :: linesP (l.drop (i + 1)) := by
  have hl : 0 < l.length := List.length_pos_iff.2 h0
  rw [linesP, linesF, if_neg h0, if_pos (by omega), h, Int.toNat_natCast, linesF_fuel _ _ (by rw [List.length_drop]; omega)]
theorem linesP_none {l : List UInt8} (h0 : l ≠ []) (h : Lib.indexByte l 10 = -1) : linesP l = [l] := by
  rw [linesP, linesF, if_neg h0, if_neg (by omega)]
def encL (x : List UInt8) : Array Value := #[.string ⟨x.toArray⟩]

theorem plines_call (s : ByteArray) (w : World) :
    Calls Tryz.prog 18 #[.string s] w fun e w' => e = .returned (.func (.func 40) #[] #[.pointer (some ⟨w.heap.size, 0, none⟩)]) ∧ w.alloc (.cells #[.string s] 9) = w' := by
  go_enter Tryz.func18, Tryz.ntmps18
  go_wp2
  go_ret
  exact ⟨rfl, rfl⟩
theorem enters_lines : ∀ args w, (callFunc 40 args).run Tryz.prog w = .ok (.enter 40 args) w := enters_of Tryz.func40 (by kernel_rfl) rfl

set_option maxRecDepth 100000 in
set_option maxHeartbeats 4000000 in
theorem plines_iter (s : List UInt8) (bs : Nat) (w0 : World) (hc : w0.heap[bs]? = some (.cells #[.string ⟨s.toArray⟩] 9 (0, 0))) (hs : s.length ≤ 1048576) :
    Iter3 Tryz.prog 40 #[.pointer (some ⟨bs, 0, none⟩)] encL (linesP s) (fun x => x = bs) (fun _ => False) w0 := by
  intro m X J Jx W hNd hX hsame hsz hJ hJx hSl hY h0
  have hbW : W.heap[bs]? = some (.cells #[.string ⟨s.toArray⟩] 9 (0, 0)) := (hsame bs (.inl rfl)).trans hc
  have hXb : Hid (¬ X bs ∧ bs < W.heap.size) := Lib.hid ⟨hNd bs (.inl rfl), (Array.getElem?_eq_some_iff.1 hbW).1⟩
  have HK := Lib.hid (And.intro hX (And.intro hJ (And.intro hJx (And.intro hSl hY))))
  obtain ⟨L, hL⟩ : ∃ L, linesP s = L := ⟨_, rfl⟩
  rw [hL] at HK ⊢
  have hfn : ∀ k, Fence.wide.fn k := fun _ => trivial
  have hdep : Fence.wide.depth = none := rfl
  clear hNd hsame hsz hc hX hJ hJx hSl hY
  refine (callsIn_wide (n := 0)).1 ?_
  refine callsIn_of_wp Tryz.func40 rfl trivial ?_ rfl
  simp only [Tryz.ntmps40, List.size_toArray, List.length_cons, List.length_nil, Nat.reduceAdd, Nat.reduceSub, Array.replicate_succ, Array.replicate_zero, List.push_toArray, List.append_toArray, List.nil_append, List.cons_append]
  gi_wp2_with fail
  gi_loopw [3] (fun _ wr => ∃ (rest : List UInt8) (pre : List (List UInt8)) (Y : Nat → Prop), rest.length ≤ 1048576 ∧ pre ++ linesP rest = L ∧ (∀ y, Y y → W.heap.size ≤ y) ∧ J pre Y wr ∧ Keep (fun b => X b ∨ b = bs) W wr ∧ wr.heap[bs]? = some (.cells #[.string ⟨rest.toArray⟩] 9 (0, 0)))
    (fun _ wr => match wr.cell? ⟨bs, 0, none⟩ with | some (.string t) => t.size | _ => 0)
  case atStart => exact ⟨s, [], _, hs, by simpa using hL, fun _ h => h.elim, h0, Keep.refl _ _, hbW⟩
  case round =>
    obtain ⟨rest, pre, Y, hrl, hpre, hYl, hJs, hkp, hcell⟩ := hrel
    obtain ⟨T, hT⟩ : ∃ T : ByteArray, (⟨rest.toArray⟩ : ByteArray) = T := ⟨_, rfl⟩
    have hsz : T.size = rest.length := by rw [← hT, bsize]
    rw [hT] at hcell
    have c0 : wr.cell? ⟨bs, 0, none⟩ = some (.string T) := by rw [Lib.cell_of_heap hcell]; rfl
    have f0 : wr.frozen? ⟨bs, 0, none⟩ = false := Lib.frozen_of_heap hcell _
    have HC := Lib.hid hcell
    have HT := Lib.hid hT
    have HL := Lib.hid hL
    have HI := Lib.hid (And.intro hpre (And.intro hYl (And.intro hJs hkp)))
    clear hcell hT hL hpre hYl hJs hkp
    by_cases h0r : rest = []
    · have z : ((T.size : Nat) : Int) ≤ 0 := by rw [hsz, h0r]; simp
      have e : pre = L := by have := HI.out.1; rw [h0r, linesP_nil, List.append_nil] at this; exact this
      rw [e] at HI
      clear hsz f0 h0r
      gi_wp2_with fail
      go_end0
      exact ⟨⟨_, rfl⟩, HI.out.2.2.2, .inl ⟨Y, HI.out.2.1, HI.out.2.2.1⟩⟩
    · have hpos : 0 < rest.length := List.length_pos_iff.2 h0r
      have z : (0 : Int) < ((T.size : Nat) : Int) := by omega
      have CI := Lib.hid (Tryz.strings_IndexByte T 10 wr)
      have hd : T.data.toList = rest := by rw [← HT.out]
      rw [hd] at CI
      obtain ⟨j, hj⟩ : ∃ j, Lib.indexByte rest 10 = j := ⟨_, rfl⟩
      have CI2 : Hid (Calls Tryz.prog 41 #[.string T, .int .u8 10] wr fun e w' => e = .returned (.int .i64 j) ∧ w' = wr) := Lib.hid (by rw [← hj]; exact CI.out)
      clear CI
      by_cases h1 : 0 ≤ j
      · obtain ⟨i, rfl⟩ := Int.eq_ofNat_of_zero_le h1
        have hil : i < rest.length := (List.getElem?_eq_some_iff.1 (Lib.indexByte_some hj).1).1
        have HLP := Lib.hid (linesP_some h0r hj)
        have q1 : IntKind.i64.wrap ((i : Int) + 1) = ((i + 1 : Nat) : Int) := by rw [IntWalk.i64_in _ (by omega)]; omega
        have q2 : ((i + 1 : Nat) : Int) ≤ ((T.size : Nat) : Int) := by omega
        have hex : T.extract 0 (i + 1) = ⟨(rest.take (i + 1)).toArray⟩ ∧ T.extract (i + 1) T.size = ⟨(rest.drop (i + 1)).toArray⟩ := ⟨by rw [Lib.extract_upto, hd], by rw [Lib.extract_from, hd]⟩
        have HE := Lib.hid hex
        have HSZ := Lib.hid hsz
        clear hsz h0r hd hj hex
        gi_wp2_with fail
        refine (callsIn_wide.2 CI2.out).mono ?_
        rintro e1 V1 ⟨rfl, rfl⟩
        gi_wp2_with fail
        gi_region
        rw [HE.out.1, HE.out.2]
        obtain ⟨x, hx⟩ : ∃ x, rest.take (i + 1) = x := ⟨_, rfl⟩
        obtain ⟨r2, hr2⟩ : ∃ r2, rest.drop (i + 1) = r2 := ⟨_, rfl⟩
        have hlp := HLP.out
        have hr2l : r2.length = rest.length - (i + 1) := by rw [← hr2, List.length_drop]
        rw [hx, hr2] at hlp ⊢
        obtain ⟨W4, hW4⟩ : ∃ W4, (V1.setCell ⟨bs, 0, none⟩ (.string ⟨r2.toArray⟩)).drew = W4 := ⟨_, rfl⟩
        have hK4 : Keep (fun b => b = bs) V1 W4 := by
          rw [← hW4]
          exact (Keep.setCell (X := fun b => b = bs) (Keep.refl _ V1) (p := ⟨bs, 0, none⟩) rfl _).drew
        have hc4 : W4.heap[bs]? = some (.cells #[.string ⟨r2.toArray⟩] 9 (0, 0)) := by
          rw [← hW4]
          have := heap_setCell_same V1 bs 0 _ _ (.string ⟨r2.toArray⟩) HC.out
          show (V1.setCell ⟨bs, 0, none⟩ (.string ⟨r2.toArray⟩)).heap[bs]? = _
          simpa using this
        rw [hW4]
        have hYb : ¬ Y bs := fun h => by have := HI.out.2.1 bs h; have := hXb.out.2; omega
        have hJ4 : J pre Y W4 := HK.out.2.1 _ _ _ _ (hK4.weaken (fun b _ hb => ⟨.inl hb, by rw [hb]; exact hYb⟩)) HI.out.2.2.1
        have hkW4 : Keep (fun b => X b ∨ b = bs) W W4 := HI.out.2.2.2.trans (hK4.weaken (fun b _ hb => .inr hb))
        have hpx : pre ++ [x] ++ linesP r2 = L := by rw [← HI.out.1, hlp, List.append_assoc]; rfl
        have hyy : YieldAt Fence.wide 0 Tryz.prog m #[.string ⟨x.toArray⟩] W4 _ := HK.out.2.2.2.2 pre x Y W4 ⟨linesP r2, hpx⟩ hJ4 hkW4.size HI.out.2.1
        obtain ⟨fn, tmps, assign, body, hy, hR⟩ := hyy
        have H4 := Lib.hid (And.intro hkW4 (And.intro hc4 (And.intro hpx hr2l)))
        clear hK4 hc4 hJ4 hkW4 hpx hW4 hx hr2 hr2l hlp
        gi_wp2_with fail
        refine hR.mono ?_
        rintro e3 V3 ⟨Y', hk4, hY', (⟨rfl, hJ3⟩ | ⟨rfl, hJx3⟩)⟩
        all_goals have hk3 := H4.out.1
        all_goals have hzk := hk3.size
        all_goals have hkW : Keep (fun b => X b ∨ b = bs) W V3 := ⟨hk4.os.trans hk3.os, hk4.tape.trans hk3.tape, hk4.output.trans hk3.output, Nat.le_trans hk3.size hk4.size, fun b hb hx => (hk4.same b (Nat.lt_of_lt_of_le hb hk3.size) (fun h => by rcases h with h | h; exact hx (.inl h); have := HI.out.2.1 b h; omega)).trans (hk3.same b hb hx)⟩
        all_goals have hYl2 : ∀ b, Y' b → W.heap.size ≤ b := fun b hb => by rcases hY' b hb with h | h; exact HI.out.2.1 b h; omega
        · have hq3 : V3.heap[bs]? = some (.cells #[.string ⟨r2.toArray⟩] 9 (0, 0)) := hk4.heap H4.out.2.1 (fun h => by
            rcases h with h | h
            · exact hXb.out.1 h
            · exact hYb h)
          have HF := Lib.hid (And.intro hYl2 (And.intro hJ3 (And.intro hkW hq3)))
          clear hk4 hk3 hYl2 hJ3 hkW hq3 hY' hYb
          gi_wp2_with fail
          go_roundw
          case rel => exact ⟨r2, pre ++ [x], Y', by have := H4.out.2.2.2; omega, H4.out.2.2.1, HF.out.1, HF.out.2.1, HF.out.2.2.1, HF.out.2.2.2⟩
          case measure =>
            have e1 : V3.cell? ⟨bs, 0, none⟩ = some (.string ⟨r2.toArray⟩) := by rw [Lib.cell_of_heap HF.out.2.2.2]; rfl
            rw [e1, c0]
            show (⟨r2.toArray⟩ : ByteArray).size < T.size
            rw [bsize, HSZ.out]
            have := H4.out.2.2.2
            omega
        · have HF := Lib.hid (And.intro hYl2 (And.intro hJx3 hkW))
          have HPX := Lib.hid (show pre ++ [x] <+: L from ⟨linesP r2, H4.out.2.2.1⟩)
          clear hk4 hk3 hYl2 hJx3 hkW hY' hYb
          gi_wp2_with fail
          refine bodyPost_ret (results_none rfl _ _ _) rfl ?_
          exact ⟨⟨_, rfl⟩, HF.out.2.2, .inr ⟨_, Y', HPX.out, HF.out.1, HF.out.2.1⟩⟩
      · have hjm : j = -1 := by have := Lib.indexByte_ge rest 10; omega
        have HLP := Lib.hid (linesP_none h0r (hj.trans hjm))
        subst hjm
        have HSZ := Lib.hid hsz
        obtain ⟨x, hx⟩ : ∃ x, rest = x := ⟨_, rfl⟩
        have HT2 : Hid (T = ⟨x.toArray⟩) := Lib.hid (by rw [← HT.out, hx])
        clear hsz h0r hd hj h1
        gi_wp2_with fail
        refine (callsIn_wide.2 CI2.out).mono ?_
        rintro e1 V1 ⟨rfl, rfl⟩
        have hlp := HLP.out
        rw [hx] at hlp
        have hT3 := HT2.out
        subst hT3
        obtain ⟨r2, hr2⟩ : ∃ r2 : List UInt8, r2 = [] := ⟨_, rfl⟩
        have hr20 : r2.length = 0 := by rw [hr2]; rfl
        have hlp2 : linesP rest = x :: linesP r2 := by rw [hr2, linesP_nil, hx]; exact hlp
        obtain ⟨W4, hW4⟩ : ∃ W4, V1.setCell ⟨bs, 0, none⟩ (.string ⟨#[]⟩) = W4 := ⟨_, rfl⟩
        have hK4 : Keep (fun b => b = bs) V1 W4 := by
          rw [← hW4]
          exact (Keep.setCell (X := fun b => b = bs) (Keep.refl _ V1) (p := ⟨bs, 0, none⟩) rfl _)
        have hc4 : W4.heap[bs]? = some (.cells #[.string ⟨r2.toArray⟩] 9 (0, 0)) := by
          rw [← hW4]
          have := heap_setCell_same V1 bs 0 _ _ (.string ⟨#[]⟩) HC.out
          rw [hr2]
          simpa using this
        have hlp := hlp2
        have hr2l : r2.length = rest.length - rest.length := by omega
        have hYb : ¬ Y bs := fun h => by have := HI.out.2.1 bs h; have := hXb.out.2; omega
        have hJ4 : J pre Y W4 := HK.out.2.1 _ _ _ _ (hK4.weaken (fun b _ hb => ⟨.inl hb, by rw [hb]; exact hYb⟩)) HI.out.2.2.1
        have hkW4 : Keep (fun b => X b ∨ b = bs) W W4 := HI.out.2.2.2.trans (hK4.weaken (fun b _ hb => .inr hb))
        have hpx : pre ++ [x] ++ linesP r2 = L := by rw [← HI.out.1, hlp, List.append_assoc]; rfl
        have hyy : YieldAt Fence.wide 0 Tryz.prog m #[.string ⟨x.toArray⟩] W4 _ := HK.out.2.2.2.2 pre x Y W4 ⟨linesP r2, hpx⟩ hJ4 hkW4.size HI.out.2.1
        obtain ⟨fn, tmps, assign, body, hy, hR⟩ := hyy
        have H4 := Lib.hid (And.intro hkW4 (And.intro hc4 (And.intro hpx hr2l)))
        clear hK4 hc4 hJ4 hkW4 hpx hr2 hr2l hlp hlp2 hx hr20
        gi_wp2_with fail
        refine hR.mono ?_
        rintro e3 V3 ⟨Y', hk4, hY', (⟨rfl, hJ3⟩ | ⟨rfl, hJx3⟩)⟩
        all_goals have hk3 := H4.out.1
        all_goals have hzk := hk3.size
        all_goals have hkW : Keep (fun b => X b ∨ b = bs) W V3 := ⟨hk4.os.trans hk3.os, hk4.tape.trans hk3.tape, hk4.output.trans hk3.output, Nat.le_trans hk3.size hk4.size, fun b hb hx => (hk4.same b (Nat.lt_of_lt_of_le hb hk3.size) (fun h => by rcases h with h | h; exact hx (.inl h); have := HI.out.2.1 b h; omega)).trans (hk3.same b hb hx)⟩
        all_goals have hYl2 : ∀ b, Y' b → W.heap.size ≤ b := fun b hb => by rcases hY' b hb with h | h; exact HI.out.2.1 b h; omega
        · have hq3 : V3.heap[bs]? = some (.cells #[.string ⟨r2.toArray⟩] 9 (0, 0)) := hk4.heap H4.out.2.1 (fun h => by
            rcases h with h | h
            · exact hXb.out.1 h
            · exact hYb h)
          have HF := Lib.hid (And.intro hYl2 (And.intro hJ3 (And.intro hkW hq3)))
          clear hk4 hk3 hYl2 hJ3 hkW hq3 hY' hYb
          gi_wp2_with fail
          go_roundw
          case rel => exact ⟨r2, pre ++ [x], Y', by have := H4.out.2.2.2; omega, H4.out.2.2.1, HF.out.1, HF.out.2.1, HF.out.2.2.1, HF.out.2.2.2⟩
          case measure =>
            have e1 : V3.cell? ⟨bs, 0, none⟩ = some (.string ⟨r2.toArray⟩) := by rw [Lib.cell_of_heap HF.out.2.2.2]; rfl
            rw [e1, c0]
            show (⟨r2.toArray⟩ : ByteArray).size < (⟨x.toArray⟩ : ByteArray).size
            have h9 := HSZ.out
            rw [h9, bsize]
            have := H4.out.2.2.2
            omega
        · have HF := Lib.hid (And.intro hYl2 (And.intro hJx3 hkW))
          have HPX := Lib.hid (show pre ++ [x] <+: L from ⟨linesP r2, H4.out.2.2.1⟩)
          clear hk4 hk3 hYl2 hJx3 hkW hY' hYb
          gi_wp2_with fail
          refine bodyPost_ret (results_none rfl _ _ _) rfl ?_
          exact ⟨⟨_, rfl⟩, HF.out.2.2, .inr ⟨_, Y', HPX.out, HF.out.1, HF.out.2.1⟩⟩
end Go.Proofs.YthhepebkfokddaaGreatDoor
