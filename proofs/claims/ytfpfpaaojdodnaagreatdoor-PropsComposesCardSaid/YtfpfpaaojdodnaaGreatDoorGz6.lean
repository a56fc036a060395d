/- Parts of the proof of what the last text says. -/
import Derived.Test.YtfpfpaaojdodnaaGreatDoorGz5
import Derived.Deep.QuietTactic
import Derived.BigQuiet
import Derived.StillTailTactics
import Derived.Test.YtfpfpaaojdodnaaGreatDoorGz1
/- props: fold and decomp. WRITTEN by wip/tools/gen_jl.py. -/
namespace Go.Proofs.YtfpfpaaojdodnaaGreatDoor
open Go Go.RowKit Go.Kt Go.Kt.Rg Go.Maps

theorem ptsA_ok : ∀ (ws : List (List UInt8)) (acc l : List Nat), ptsA acc ws = (0, l) → (∀ x ∈ acc, Lib.validRune (x : Int) = true) → l.length = acc.length + ws.length ∧ ∀ x ∈ l, Lib.validRune (x : Int) = true
  | [], acc, l, h, ha => by
    rw [ptsA] at h
    obtain ⟨_, rfl⟩ := Prod.mk.inj h
    exact ⟨by simp, ha⟩
  | x :: t, acc, l, h, ha => by
    cases hx : numP x with
    | none => rw [ptsA_no hx] at h; cases h
    | some n =>
      cases hv : Lib.validRune (n : Int) with
      | false => rw [ptsA_bad hx hv] at h; cases h
      | true =>
        rw [ptsA_go hx hv] at h
        obtain ⟨h1, h2⟩ := ptsA_ok t (acc ++ [n]) l h (fun y hy => by
          rcases List.mem_append.1 hy with hy | hy
          · exact ha y hy
          · rw [List.mem_singleton.1 hy]; exact hv)
        exact ⟨by rw [h1]; simp; omega, h2⟩
theorem ptsP_ok {ws : List (List UInt8)} {l : List Nat} (h : ptsP ws = (0, l)) : l.length = ws.length ∧ ws.length ≤ 9 ∧ ∀ x ∈ l, Lib.validRune (x : Int) = true := by
  unfold ptsP at h
  by_cases h9 : 9 < ws.length
  · rw [if_pos h9] at h; cases h
  · rw [if_neg h9] at h
    have := ptsA_ok ws [] l h (fun _ h => by cases h)
    exact ⟨by simpa using this.1, by omega, this.2⟩
theorem valid_le {x : Nat} (h : Lib.validRune (x : Int) = true) : x ≤ 1114111 := by
  simp [Lib.validRune] at h
  omega

def foldP (S : RdS) (ws : List (List UInt8)) : Nat × RdS := match ptsP ws with
  | (0, x :: t) => if (S.fs x).isSome then (13, S) else (0, { S with fs := updN S.fs x t })
  | (no, _) => (no, S)
def decP (line : Nat) (S : RdS) (ws : List (List UInt8)) : Nat × RdS := match ptsP ws with
  | (0, x :: t) => if (S.ds x).isSome then (13, S) else if hanP x then (1, S) else (0, { S with ds := updN S.ds x t, ls := updN S.ls x line })
  | (no, _) => (no, S)
theorem foldP_no {S : RdS} {ws : List (List UInt8)} {no : Nat} {l : List Nat} (h : ptsP ws = (no, l)) (h0 : no ≠ 0) : foldP S ws = (no, S) := by
  unfold foldP
  rw [h]
  split
  · rename_i e; exact absurd (Prod.mk.inj e).1 h0
  · rename_i e; rw [(Prod.mk.inj e).1]
theorem decP_no {line : Nat} {S : RdS} {ws : List (List UInt8)} {no : Nat} {l : List Nat} (h : ptsP ws = (no, l)) (h0 : no ≠ 0) : decP line S ws = (no, S) := by
  unfold decP
  rw [h]
  split
  · rename_i e; exact absurd (Prod.mk.inj e).1 h0
  · rename_i e; rw [(Prod.mk.inj e).1]

theorem DecM.mono {ρ : Nat → Nat} {k B n n' : Nat} {d : Nat → Option (List Nat)} {w : World} (h : DecM ρ k B n d w) (hn : n ≤ n') : DecM ρ k B n' d w := by
  obtain ⟨h0, vs, h1, h2⟩ := h
  exact ⟨h0, vs, h1.mono hn, h2⟩
theorem RdW.mono {B0 : Nat} {ρ : Nat → Nat} {R : RdB} {line n n' m : Nat} {S : RdS} {cv kv : Value} {w : World} (h : RdW B0 ρ R line n m S cv kv w) (hn : n ≤ n') : RdW B0 ρ R line n' m S cv kv w :=
  ⟨h.hr, h.hB, h.g, h.cell, h.c, h.k, h.d.mono hn, h.f.mono hn, ⟨h.l.1, h.l.2.mono hn⟩, h.e, h.s⟩
section
variable {B0 : Nat} {ρ : Nat → Nat} {R : RdB} {line n m : Nat} {S : RdS} {cv kv : Value} {w w' : World}
theorem RdW.newf (h : RdW B0 ρ R line n m S cv kv w) {fs' : Nat → Option (List Nat)} (hk : Keep (fun b => b = R.bf) w w') (hf : DecM ρ 5 R.bf (n + 1) fs' w') : RdW B0 ρ R line (n + 1) m { S with fs := fs' } cv kv w' := by
  have H := h.mono (Nat.le_succ n)
  have hX : ∀ b, b = R.bf → ρ b = 5 := fun b e => by rw [e]; exact h.f.1
  exact {
    hr := H.hr, hB := Nat.le_trans h.hB hk.size, g := H.g, cell := hk.heap H.cell (fun e => by have := hX _ e; have := H.g; omega)
    c := H.c.keep hk (fun b hb h3 => by have := hX b hb; omega)
    k := H.k.keep hk (fun b hb h3 => by have := hX b hb; omega)
    d := H.d.keep hk (fun b hb => by have := hX b hb; omega)
    f := hf
    l := ⟨H.l.1, H.l.2.keep hk (fun hb => by have := hX _ hb; have := H.l.1; omega)⟩
    e := ⟨H.e.1, H.e.2.keep hk (fun hb => by have := hX _ hb; have := H.e.1; omega)⟩
    s := ⟨H.s.1, H.s.2.keep hk (fun hb => by have := hX _ hb; have := H.s.1; omega)⟩ }
theorem RdW.newd (h : RdW B0 ρ R line n m S cv kv w) {ds' : Nat → Option (List Nat)} (hk : Keep (fun b => b = R.bd) w w') (hf : DecM ρ 4 R.bd (n + 1) ds' w') : RdW B0 ρ R line (n + 1) m { S with ds := ds' } cv kv w' := by
  have H := h.mono (Nat.le_succ n)
  have hX : ∀ b, b = R.bd → ρ b = 4 := fun b e => by rw [e]; exact h.d.1
  exact {
    hr := H.hr, hB := Nat.le_trans h.hB hk.size, g := H.g, cell := hk.heap H.cell (fun e => by have := hX _ e; have := H.g; omega)
    c := H.c.keep hk (fun b hb h3 => by have := hX b hb; omega)
    k := H.k.keep hk (fun b hb h3 => by have := hX b hb; omega)
    f := H.f.keep hk (fun b hb => by have := hX b hb; omega)
    d := hf
    l := ⟨H.l.1, H.l.2.keep hk (fun hb => by have := hX _ hb; have := H.l.1; omega)⟩
    e := ⟨H.e.1, H.e.2.keep hk (fun hb => by have := hX _ hb; have := H.e.1; omega)⟩
    s := ⟨H.s.1, H.s.2.keep hk (fun hb => by have := hX _ hb; have := H.s.1; omega)⟩ }
theorem RdW.newl (h : RdW B0 ρ R line (n + 1) m S cv kv w) {ls' : Nat → Option Nat} (hk : Keep (fun b => b = R.bl) w w') (hf : MapG Tryz.prog 21 R.bl (n + 1) (ptF (lsV ls')) w') : RdW B0 ρ R line (n + 1) m { S with ls := ls' } cv kv w' := by
  have H := h
  have hX : ∀ b, b = R.bl → ρ b = 6 := fun b e => by rw [e]; exact h.l.1
  exact {
    hr := H.hr, hB := Nat.le_trans h.hB hk.size, g := H.g, cell := hk.heap H.cell (fun e => by have := hX _ e; have := H.g; omega)
    c := H.c.keep hk (fun b hb h3 => by have := hX b hb; omega)
    k := H.k.keep hk (fun b hb h3 => by have := hX b hb; omega)
    f := H.f.keep hk (fun b hb => by have := hX b hb; omega)
    d := H.d.keep hk (fun b hb => by have := hX b hb; omega)
    l := ⟨H.l.1, hf⟩
    e := ⟨H.e.1, H.e.2.keep hk (fun hb => by have := hX _ hb; have := H.e.1; omega)⟩
    s := ⟨H.s.1, H.s.2.keep hk (fun hb => by have := hX _ hb; have := H.s.1; omega)⟩ }
theorem pts_new (h : RdW B0 ρ R line n m S cv kv w) (hb : Below w.heap.size w w') {B : Nat} {l : List Nat} (_h0 : l ≠ []) (h9 : l.length ≤ 9) (hB : w.heap.size ≤ B) (hB2 : B < w'.heap.size) (hc : ∀ (i : Nat) (x : Nat), l[i]? = some x → w'.cell? ⟨B, i, none⟩ = some (.int .i32 (x : Nat))) :
    RdW B0 (moreR w ρ 0) R line n m S cv kv w' ∧ PtV (moreR w ρ 0) (.slice (some ⟨B, 0, none⟩) l.length l.length) l w' :=
  ⟨(h.role_more 0).below hb, B, 0, l.length, rfl, Nat.le_refl _, by omega, moreR_new B hB, hB2, fun i x hx => by rw [Nat.zero_add]; exact hc i x hx⟩
end

set_option maxRecDepth 100000 in
set_option maxHeartbeats 4000000 in
theorem pfoldR {B0 : Nat} {ρ : Nat → Nat} {R : RdB} {line n m : Nat} {S : RdS} {cv kv : Value} (w : World) (hR : RdW B0 ρ R line n m S cv kv w) (ws : List (List UInt8)) (sv : Value) (hS : StrS sv ws w) (hz : ∀ x ∈ ws, x ≠ [] ∧ x.length ≤ 1048576) (h2 : 2 ≤ ws.length) (hE : PEnv w) (hn : n ≤ 1000000) :
    Calls Tryz.prog 70 #[.pointer (some ⟨R.g, 0, none⟩), sv] w fun e w' => RdOut B0 ρ R line (n + 1) m (foldP S ws).1 (foldP S ws).2 w e w' := by
  have CP := Lib.hid (ppoints ws sv w hS (fun x hx => (hz x hx).2) (fun e => by rw [e] at h2; simp at h2) hE)
  obtain ⟨⟨no, l⟩, hP⟩ : ∃ z, ptsP ws = z := ⟨_, rfl⟩
  rw [hP] at CP
  have HP := Lib.hid hP
  have H2 := Lib.hid h2
  clear hP hS hz h2 hE
  have HR := Lib.hid hR
  have hgl := hR.gl
  clear hR
  go_enter Tryz.func70, Tryz.ntmps70
  go_wp2_with fail
  refine CP.out.mono ?_
  rintro e w1 ⟨hb1, v, rfl, hv⟩
  by_cases h0 : no = 0
  · subst h0
    obtain ⟨b, rfl, hb2, hb3, hc⟩ := hv rfl
    have hok := ptsP_ok HP.out
    have H2' := H2.out
    cases l with
    | nil => exact absurd hok.1 (by simp; omega)
    | cons x t =>
    have ht : t ≠ [] := fun e => by rw [e] at hok; have := hok.1; simp at this; omega
    have hx : x ≤ 1114111 := valid_le (hok.2.2 x List.mem_cons_self)
    obtain ⟨HR1, HV⟩ := pts_new HR.out hb1 (List.cons_ne_nil x t) (by omega) hb2 hb3 hc
    simp only at hc hok
    have HR1' := Lib.hid HR1
    have HB1 := Lib.hid hb1
    have hxc : w1.cell? ⟨b, 0, none⟩ = some (.int .i32 (x : Nat)) := hc 0 x rfl
    have HBN := Lib.hid hb2
    obtain ⟨q, hq⟩ : ∃ q, t.length = q := ⟨_, rfl⟩
    rw [List.length_cons, hq] at HV ⊢
    have HX : Hid (foldP S ws = if (S.fs x).isSome then (13, S) else (0, { S with fs := updN S.fs x t })) := Lib.hid (by unfold foldP; rw [HP.out]; rfl)
    have CU := Lib.hid (pput (moreR w ρ 0) 5 R.bf n S.fs w1 (by decide) HR1.f x t (by omega) ht (by omega) _ (HV))
    rw [show R.g = R.g from rfl]
    have c5 : w1.cell? ⟨R.g, 5, none⟩ = some (.map (some R.bf)) := by rw [Lib.cell_of_heap HR1.cell]; rfl
    clear hb1 hv hok ht hx HR1 HV hc hb2 hb3 hxc hgl H2'
    go_wp2_with fail
    refine CU.out.mono ?_
    rintro e w2 ⟨he, hD, hK⟩
    have HN := Lib.hid (HR1'.out.newf hK hD)
    have HBB : Hid (Keep (fun b => ρ b ≠ 0 ∧ ρ b ≠ 9) w w2) := Lib.hid ((Keep.of_all HB1.out).trans (hK.weaken (fun b _ hb => by
      have h : ρ b = 5 := by rw [hb]; exact HR.out.f.1
      constructor <;> omega)))
    clear hD hK
    cases hs : (S.fs x).isSome with
    | true =>
      rw [hs] at HN HX he
      replace he : e = .returned (.int .i64 13) := he
      replace HX : Hid (foldP S ws = (13, S)) := HX
      subst he
      go_wp2
      go_ret
      rw [HX.out]
      exact ⟨rfl, HBB.out, _, _, _, _, HN.out, fun b hb => moreR_old b hb, fun e => by cases e⟩
    | false =>
      rw [hs] at HN HX he
      replace he : e = .returned (.int .i64 0) := he
      replace HX : Hid (foldP S ws = (0, { S with fs := updN S.fs x t })) := HX
      subst he
      go_wp2
      go_ret
      rw [HX.out]
      exact ⟨rfl, HBB.out, _, _, _, _, HN.out, fun b hb => moreR_old b hb, fun _ => rfl⟩
  · have HX : Hid (foldP S ws = (no, S)) := Lib.hid (foldP_no HP.out h0)
    have b1 : ((no : Int) != 0) = true := by simp; omega
    have HB := Lib.hid hb1
    clear hb1 hv
    go_wp2
    go_ret
    rw [HX.out]
    exact ⟨rfl, Keep.of_all HB.out, ρ, S, cv, kv, (HR.out.below HB.out).mono (Nat.le_succ n), fun _ _ => rfl, fun e => absurd e h0⟩

set_option maxRecDepth 100000 in
set_option maxHeartbeats 4000000 in
theorem pdecR {B0 : Nat} {ρ : Nat → Nat} {R : RdB} {line n m : Nat} {S : RdS} {cv kv : Value} (w : World) (hR : RdW B0 ρ R line n m S cv kv w) (ws : List (List UInt8)) (sv : Value) (hS : StrS sv ws w) (hz : ∀ x ∈ ws, x ≠ [] ∧ x.length ≤ 1048576) (h2 : 2 ≤ ws.length) (hE : PEnv w) (hn : n ≤ 1000000) :
    Calls Tryz.prog 71 #[.pointer (some ⟨R.g, 0, none⟩), sv] w fun e w' => RdOut B0 ρ R line (n + 2) m ((decP line) S ws).1 ((decP line) S ws).2 w e w' := by
  have CP := Lib.hid (ppoints ws sv w hS (fun x hx => (hz x hx).2) (fun e => by rw [e] at h2; simp at h2) hE)
  obtain ⟨⟨no, l⟩, hP⟩ : ∃ z, ptsP ws = z := ⟨_, rfl⟩
  rw [hP] at CP
  have HP := Lib.hid hP
  have H2 := Lib.hid h2
  clear hP hS hz h2 hE
  have HR := Lib.hid hR
  have hgl := hR.gl
  clear hR
  go_enter Tryz.func71, Tryz.ntmps71
  go_wp2_with fail
  refine CP.out.mono ?_
  rintro e w1 ⟨hb1, v, rfl, hv⟩
  by_cases h0 : no = 0
  · subst h0
    obtain ⟨b, rfl, hb2, hb3, hc⟩ := hv rfl
    have hok := ptsP_ok HP.out
    have H2' := H2.out
    cases l with
    | nil => exact absurd hok.1 (by simp; omega)
    | cons x t =>
    have ht : t ≠ [] := fun e => by rw [e] at hok; have := hok.1; simp at this; omega
    have hx : x ≤ 1114111 := valid_le (hok.2.2 x List.mem_cons_self)
    obtain ⟨HR1, HV⟩ := pts_new HR.out hb1 (List.cons_ne_nil x t) (by omega) hb2 hb3 hc
    simp only at hc hok
    have HR1' := Lib.hid HR1
    have HB1 := Lib.hid hb1
    have hxc : w1.cell? ⟨b, 0, none⟩ = some (.int .i32 (x : Nat)) := hc 0 x rfl
    have HBN := Lib.hid hb2
    obtain ⟨q, hq⟩ : ∃ q, t.length = q := ⟨_, rfl⟩
    rw [List.length_cons, hq] at HV ⊢
    have HX : Hid (decP line S ws = if (S.ds x).isSome then (13, S) else if hanP x then (1, S) else (0, { S with ds := updN S.ds x t, ls := updN S.ls x line })) := Lib.hid (by unfold decP; rw [HP.out]; rfl)
    have CU := Lib.hid (pput (moreR w ρ 0) 4 R.bd n S.ds w1 (by decide) HR1.d x t (by omega) ht (by omega) _ HV)
    have c4 : w1.cell? ⟨R.g, 4, none⟩ = some (.map (some R.bd)) := by rw [Lib.cell_of_heap HR1.cell]; rfl
    have HXC := Lib.hid hxc
    have HXX := Lib.hid hx
    have HBR : Hid (b ≠ R.bd) := Lib.hid (fun e => by have h1 : moreR w ρ 0 b = 0 := moreR_new b hb2; rw [e, HR1.d.1] at h1; cases h1)
    have CHN := Lib.hid (fun W => phan (x : Int) W)
    clear hb1 hv hok ht hx HR1 HV hc hb2 hb3 hxc hgl H2'
    go_wp2_with fail
    refine CU.out.mono ?_
    rintro e w2 ⟨he, hD, hK⟩
    have HK := Lib.hid hK
    have HBB : Hid (Keep (fun b => ρ b ≠ 0 ∧ ρ b ≠ 9) w w2) := Lib.hid ((Keep.of_all HB1.out).trans (HK.out.weaken (fun b _ hb => by
      have h : ρ b = 4 := by rw [hb]; exact HR.out.d.1
      constructor <;> omega)))
    have HN := Lib.hid (HR1'.out.newd HK.out hD)
    have hxc2 : w2.cell? ⟨b, 0, none⟩ = some (.int .i32 (x : Nat)) := hK.cell HXC.out HBR.out
    clear hD hK CU HB1
    cases hs : (S.ds x).isSome with
    | true =>
      rw [hs] at HN HX he
      replace he : e = .returned (.int .i64 13) := he
      subst he
      replace HX : Hid (decP line S ws = (13, S)) := HX
      clear hxc2
      go_wp2
      go_ret
      rw [HX.out]
      exact ⟨rfl, HBB.out, _, _, _, _, HN.out.mono (by omega), fun b hb => moreR_old b hb, fun e => by cases e⟩
    | false =>
      rw [hs] at HN HX he
      replace he : e = .returned (.int .i64 0) := he
      subst he
      replace HX : Hid (decP line S ws = if hanP x then (1, S) else (0, { S with ds := updN S.ds x t, ls := updN S.ls x line })) := HX
      replace HN : Hid (RdW B0 (moreR w ρ 0) R line (n + 1) m { S with ds := updN S.ds x t } cv kv w2) := HN
      have hpos : (0 : Int) ≤ (q : Int) := by omega
      go_wp2_with fail
      refine (CHN.out w2).mono ?_
      rintro e w3 ⟨rfl, rfl⟩
      cases hh : hanP (x : Int) with
      | true =>
        rw [hh] at HX
        replace HX : Hid (decP line S ws = (1, S)) := HX
        clear hxc2
        go_wp2
        go_ret
        rw [HX.out]
        exact ⟨rfl, HBB.out, _, _, _, _, HN.out.mono (by omega), fun b hb => moreR_old b hb, fun e => by cases e⟩
      | false =>
        rw [hh] at HX
        replace HX : Hid (decP line S ws = (0, { S with ds := updN S.ds x t, ls := updN S.ls x line })) := HX
        go_wp2_with fail
        have hkey : keyOf Tryz.prog 21 (.int .i32 (x : Nat)) = some (.int .i32 (x : Nat)) := keyOf_int_mk Tryz.underlying21 (WalkArith.wf_i32 (n := (x : Int)) ⟨by omega, by have := HXX.out; omega⟩)
        have hcell := HN.out.cell
        have hf6 : ∀ X : World, (Instr.fieldAt 71 (.pointer (some ⟨R.g, 0, none⟩)) 6).run Tryz.prog X = .ok (.pointer (some ⟨R.g, 6, none⟩)) X := fun X => by go_simp
        have hf1 : ∀ X : World, (Instr.fieldAt 71 (.pointer (some ⟨R.g, 0, none⟩)) 1).run Tryz.prog X = .ok (.pointer (some ⟨R.g, 1, none⟩)) X := fun X => by go_simp
        have hlb : ∀ X : World, X = w3.drew → (Instr.loadAt 69 (.pointer (some ⟨R.g, 6, none⟩))).run Tryz.prog X = .ok (.map (some R.bl)) X := fun X h => by
          subst h
          have c1 : w3.drew.cell? ⟨R.g, 6, none⟩ = some (.map (some R.bl)) := by rw [Lib.cell_of_heap (w := w3.drew) hcell]; rfl
          go_simp
        have hll : ∀ X : World, X = w3.drew → (Instr.loadAt 3 (.pointer (some ⟨R.g, 1, none⟩))).run Tryz.prog X = .ok (.int .i64 (line : Nat)) X := fun X h => by
          subst h
          have c1 : w3.drew.cell? ⟨R.g, 1, none⟩ = some (.int .i64 (line : Nat)) := by rw [Lib.cell_of_heap (w := w3.drew) hcell]; rfl
          go_simp
        have hlx : ∀ X : World, X = w3.drew → (Instr.loadAt 21 (.pointer (some ⟨b, 0, none⟩))).run Tryz.prog X = .ok (.int .i32 (x : Nat)) X := fun X h => by
          subst h
          have c1 : w3.drew.cell? ⟨b, 0, none⟩ = some (.int .i32 (x : Nat)) := hxc2
          go_simp
        have hix : ∀ X : World, (Instr.indexAt 22 (.slice (some ⟨b, 0, none⟩) (q + 1) (q + 1)) (.int .i64 0)).run Tryz.prog X = .ok (.pointer (some ⟨b, 0, none⟩)) X := fun X => by
          have q1 : ¬ (q : Int) + 1 ≤ 0 := by omega
          go_simp
        obtain ⟨w4, hr2, hM2, hK2⟩ := (HN.out.l.2.keep (Keep.refl (fun _ => False) w3).drew (fun h => h)).put (int_keyed Tryz.underlying21) Tryz.underlying69 (by unfold maxLen; omega) (val := .int .i64 (line : Nat)) hkey
        have hmu : ∀ X : World, X = w3.drew → (Instr.mapUpdate 69 (.map (some R.bl)) (.int .i32 (x : Nat)) (.int .i64 (line : Nat))).run Tryz.prog X = .ok () w4 := fun X h => by
          subst h
          exact hr2
        have HKW := Lib.hid (Keep.trans (Keep.refl (fun b => b = R.bl) w3).drew hK2)
        have HLM : Hid (MapG Tryz.prog 21 R.bl (n + 1 + 1) (ptF (lsV (updN S.ls x line))) w4) := Lib.hid (hM2.congr (fun kl hkl => by
          rw [ptF_put _ _ _ _ hkl]
          congr 1
          funext y
          unfold lsV updN
          by_cases e : y = x
          · rw [if_pos e, if_pos e]; rfl
          · rw [if_neg e, if_neg e]))
        clear hkey hcell hr2 hM2 hK2 hxc2 hpos
        obtain ⟨FF, hFF⟩ : ∃ FF : StoR, FF = ⟨w3.drew, w4, 11, fun z => match z with | 0 => some (.pointer (some ⟨R.g, 0, none⟩)) | 1 => some (.pointer (some ⟨R.g, 0, none⟩)) | 2 => some (.pointer (some ⟨R.g, 6, none⟩)) | 3 => some (.map (some R.bl)) | 4 => some (.slice (some ⟨b, 0, none⟩) (q + 1) (q + 1)) | 5 => some (.pointer (some ⟨b, 0, none⟩)) | 6 => some (.int .i32 (x : Nat)) | 7 => some (.pointer (some ⟨R.g, 0, none⟩)) | 8 => some (.pointer (some ⟨R.g, 0, none⟩)) | 9 => some (.pointer (some ⟨R.g, 1, none⟩)) | 10 => some (.int .i64 (line : Nat)) | _ => none⟩ := ⟨_, rfl⟩
        have H0 : StoR.S FF (fun _ => false) w3.drew := by rw [hFF]; exact fun _ => rfl
        refine wp_region_done (StoR.S FF) (StoR.P FF) (by kernel_rfl) (by kernel_rfl) (by kernel_rfl) H0 ?hs ?hd
        case hs =>
          rw [hFF]
          refine DSteps.cons ?_ (DSteps.cons ?_ (DSteps.cons ?_ (DSteps.cons ?_ (DSteps.cons ?_ (DSteps.cons ?_ (DSteps.cons ?_ (DSteps.cons ?_ (DSteps.cons ?_ (DSteps.cons ?_ (DSteps.cons ?_ (DSteps.cons ?_ (DSteps.nil))))))))))))
          · intro D2 a X9 hDi hDa _ hX hL hd
            refine ⟨rfl, ?_⟩
            have e0 : a.eval (.tmp 0) = .pointer (some ⟨R.g, 0, none⟩) := hL.far 0 (by kernel_rfl)
            exact wp_value (exec_move rfl e0) ⟨_, rfl, hX.more, fun _ _ _ h => h, StoR.P.mk rfl (by simp)⟩
          · intro D2 a X9 hDi hDa _ hX hL hd
            refine ⟨rfl, ?_⟩
            have e0 : a.eval (.tmp 29) = .pointer (some ⟨R.g, 0, none⟩) := (hd 0 29 (by kernel_rfl) (by kernel_rfl)).is rfl
            exact wp_value (exec_nilCheck rfl e0) ⟨_, rfl, hX.more, fun _ _ _ h => h, StoR.P.mk rfl (by simp)⟩
          · intro D2 a X9 hDi hDa _ hX hL hd
            refine ⟨rfl, ?_⟩
            have e0 : a.eval (.tmp 30) = .pointer (some ⟨R.g, 0, none⟩) := (hd 1 30 (by kernel_rfl) (by kernel_rfl)).is rfl
            exact wp_value (exec_fieldAddr rfl e0 (hf6 X9)) ⟨_, rfl, hX.more, fun _ _ _ h => h, StoR.P.mk rfl (by simp)⟩
          · intro D2 a X9 hDi hDa _ hX hL hd
            refine ⟨rfl, ?_⟩
            have e0 : a.eval (.tmp 31) = .pointer (some ⟨R.g, 6, none⟩) := (hd 2 31 (by kernel_rfl) (by kernel_rfl)).is rfl
            exact wp_value (exec_load rfl e0 (hlb X9 (hX (hDa 11 (by kernel_rfl))))) ⟨_, rfl, hX.more, fun _ _ _ h => h, StoR.P.mk rfl (by simp)⟩
          · intro D2 a X9 hDi hDa _ hX hL hd
            refine ⟨rfl, ?_⟩
            have e0 : a.eval (.tmp 5) = .slice (some ⟨b, 0, none⟩) (q + 1) (q + 1) := hL.far 5 (by kernel_rfl)
            exact wp_value (exec_move rfl e0) ⟨_, rfl, hX.more, fun _ _ _ h => h, StoR.P.mk rfl (by simp)⟩
          · intro D2 a X9 hDi hDa _ hX hL hd
            refine ⟨rfl, ?_⟩
            have e0 : a.eval (.tmp 33) = .slice (some ⟨b, 0, none⟩) (q + 1) (q + 1) := (hd 4 33 (by kernel_rfl) (by kernel_rfl)).is rfl
            exact wp_value (exec_indexAddr rfl e0 rfl (hix X9)) ⟨_, rfl, hX.more, fun _ _ _ h => h, StoR.P.mk rfl (by simp)⟩
          · intro D2 a X9 hDi hDa _ hX hL hd
            refine ⟨rfl, ?_⟩
            have e0 : a.eval (.tmp 34) = .pointer (some ⟨b, 0, none⟩) := (hd 5 34 (by kernel_rfl) (by kernel_rfl)).is rfl
            exact wp_value (exec_load rfl e0 (hlx X9 (hX (hDa 11 (by kernel_rfl))))) ⟨_, rfl, hX.more, fun _ _ _ h => h, StoR.P.mk rfl (by simp)⟩
          · intro D2 a X9 hDi hDa _ hX hL hd
            refine ⟨rfl, ?_⟩
            have e0 : a.eval (.tmp 0) = .pointer (some ⟨R.g, 0, none⟩) := hL.far 0 (by kernel_rfl)
            exact wp_value (exec_move rfl e0) ⟨_, rfl, hX.more, fun _ _ _ h => h, StoR.P.mk rfl (by simp)⟩
          · intro D2 a X9 hDi hDa _ hX hL hd
            refine ⟨rfl, ?_⟩
            have e0 : a.eval (.tmp 36) = .pointer (some ⟨R.g, 0, none⟩) := (hd 7 36 (by kernel_rfl) (by kernel_rfl)).is rfl
            exact wp_value (exec_nilCheck rfl e0) ⟨_, rfl, hX.more, fun _ _ _ h => h, StoR.P.mk rfl (by simp)⟩
          · intro D2 a X9 hDi hDa _ hX hL hd
            refine ⟨rfl, ?_⟩
            have e0 : a.eval (.tmp 37) = .pointer (some ⟨R.g, 0, none⟩) := (hd 8 37 (by kernel_rfl) (by kernel_rfl)).is rfl
            exact wp_value (exec_fieldAddr rfl e0 (hf1 X9)) ⟨_, rfl, hX.more, fun _ _ _ h => h, StoR.P.mk rfl (by simp)⟩
          · intro D2 a X9 hDi hDa _ hX hL hd
            refine ⟨rfl, ?_⟩
            have e0 : a.eval (.tmp 38) = .pointer (some ⟨R.g, 1, none⟩) := (hd 9 38 (by kernel_rfl) (by kernel_rfl)).is rfl
            exact wp_value (exec_load rfl e0 (hll X9 (hX (hDa 11 (by kernel_rfl))))) ⟨_, rfl, hX.more, fun _ _ _ h => h, StoR.P.mk rfl (by simp)⟩
          · intro D2 a X9 hDi hDa _ hX hL hd
            refine ⟨rfl, ?_⟩
            have e0 : a.eval (.tmp 32) = .map (some R.bl) := (hd 3 32 (by kernel_rfl) (by kernel_rfl)).is rfl
            have e1 : a.eval (.tmp 35) = .int .i32 (x : Nat) := (hd 6 35 (by kernel_rfl) (by kernel_rfl)).is rfl
            have e2 : a.eval (.tmp 39) = .int .i64 (line : Nat) := (hd 10 39 (by kernel_rfl) (by kernel_rfl)).is rfl
            exact wp_skipped (exec_mapUpdate rfl e0 e1 e2 (hmu X9 (hX hDi))) ⟨undef, rfl, StoR.S.store, fun k2 u hj h => h.store (fun e => by subst e; rw [hDi] at hj; cases hj), StoR.P.last rfl rfl⟩
        case hd =>
          intro D2 a X9 hAll hX hL hP hE
          obtain ⟨_, hp⟩ := hE 11 (by decide)
          rw [hFF] at hp
          have hX9 : X9 = w4 := hp.2 rfl
          obtain ⟨f, ha, hf⟩ := hL.out [29, 30, 31, 32, 33, 34, 35, 36, 37, 38, 39] rfl
          clear hf hAll hP hX hL hE hp hFF H0 hf6 hlb hix hlx hf1 hll hmu
          simp only [List.foldl_cons, List.foldl_nil, List.setIfInBounds_toArray, List.set_cons_zero, List.set_cons_succ] at ha
          subst ha
          subst hX9
          go_wp2
          go_ret
          rw [HX.out]
          have H9 := (HN.out.mono (Nat.le_succ (n + 1))).newl HKW.out HLM.out
          exact ⟨rfl, HBB.out.trans (HKW.out.weaken (fun b _ hb => by
            have h : ρ b = 6 := by rw [hb]; exact HR.out.l.1
            constructor <;> omega)), _, _, _, _, H9, fun b hb => moreR_old b hb, fun _ => rfl⟩
  · have HX : Hid (decP line S ws = (no, S)) := Lib.hid (decP_no HP.out h0)
    have b1 : ((no : Int) != 0) = true := by simp; omega
    have HB := Lib.hid hb1
    clear hb1 hv
    go_wp2
    go_ret
    rw [HX.out]
    exact ⟨rfl, Keep.of_all HB.out, ρ, S, cv, kv, (HR.out.below HB.out).mono (by omega), fun _ _ => rfl, fun e => absurd e h0⟩
end Go.Proofs.YtfpfpaaojdodnaaGreatDoor
/- props: take. WRITTEN by wip/tools/gen_jm.py. -/
namespace Go.Proofs.YtfpfpaaojdodnaaGreatDoor
open Go Go.RowKit Go.Kt Go.Kt.Rg Go.Maps

def takeP (line : Nat) (S : RdS) : List (List UInt8) → Nat × RdS
  | [] => (0, S)
  | x :: t => if x ≠ [99, 108, 97, 115, 115] ∧ x ≠ [107, 105, 110, 100] ∧ x ≠ [102, 111, 108, 100] ∧ x ≠ [100, 101, 99, 111, 109, 112] then (12, S) else if t.length < 2 then (2, S) else
      if x = [99, 108, 97, 115, 115] then ((rowP clsP t).1, { S with cs := S.cs ++ [(rowP clsP t).2] }) else if x = [107, 105, 110, 100] then ((rowP kndZ t).1, { S with ks := S.ks ++ [(rowP kndZ t).2] }) else
        if x = [102, 111, 108, 100] then foldP S t else decP line S t
theorem StrS.tail {g off n cap : Nat} {x : List UInt8} {t : List (List UInt8)} {w : World} (h1 : n = t.length) (h2 : n + 1 ≤ cap) (h3 : cap ≤ 4611686018427387904) (hc : ∀ i y, (x :: t)[i]? = some y → w.cell? ⟨g, off + i, none⟩ = some (.string ⟨y.toArray⟩)) :
    StrS (.slice (some ⟨g, off + 1, none⟩) n (cap - 1)) t w := by
  subst h1
  refine ⟨g, off + 1, cap - 1, rfl, by omega, by omega, fun i y hy => ?_⟩
  have := hc (i + 1) y (by simpa using hy)
  rw [show off + 1 + i = off + (i + 1) by omega]
  exact this

set_option maxRecDepth 100000 in
set_option maxHeartbeats 4000000 in
theorem ptake {B0 : Nat} {ρ : Nat → Nat} {R : RdB} {line n m : Nat} {S : RdS} {cv kv : Value} (w : World) (hR : RdW B0 ρ R line n m S cv kv w) (ws : List (List UInt8)) (sv : Value) (hS : StrS sv ws w) (hz : ∀ x ∈ ws, x ≠ [] ∧ x.length ≤ 1048576) (hE : PEnv w) (hn : n ≤ 1000000) (hcs : S.cs.length ≤ 65536) (hks : S.ks.length ≤ 65536) :
    Calls Tryz.prog 30 #[.pointer (some ⟨R.g, 0, none⟩), sv] w fun e w' => RdOut B0 ρ R line (n + 2) m (takeP line S ws).1 (takeP line S ws).2 w e w' := by
  obtain ⟨g, off, cap, rfl, hcap, hcap2, hc⟩ := hS
  cases ws with
  | nil =>
    simp only [List.length_nil] at hcap ⊢
    have HR := Lib.hid hR
    clear hR hE hc hcap hcap2
    go_enter Tryz.func30, Tryz.ntmps30
    go_wp2
    go_ret
    exact ⟨rfl, Keep.refl _ _, _, _, _, _, HR.out.mono (by omega), fun _ _ => rfl, fun _ => rfl⟩
  | cons x t =>
    obtain ⟨q, hq⟩ : ∃ q, t.length = q := ⟨_, rfl⟩
    have hx := hz x List.mem_cons_self
    have hzt : ∀ y ∈ t, y ≠ [] ∧ y.length ≤ 1048576 := fun y hy => hz y (List.mem_cons_of_mem _ hy)
    have c0 : w.cell? ⟨g, off, none⟩ = some (.string ⟨x.toArray⟩) := hc 0 x rfl
    have cs0 : w.cell? ⟨R.g, 0, none⟩ = some (.map (some R.bs)) := by rw [Lib.cell_of_heap hR.cell]; rfl
    have hkey : keyOf Tryz.prog 9 (.string ⟨x.toArray⟩) = some (.string x) := by
      have := Go.WideMaps.keyOf_string_mk (P := Tryz.prog) Tryz.underlying9 (s := ⟨x.toArray⟩) (by rw [bsize]; have := hx.2; unfold maxLen; omega)
      simpa using this
    rw [List.length_cons, hq] at hcap ⊢
    have hl1 := fun k => (hR.s.2.keep (X := fun _ => False) (Keep.of_all (below_drewN (Below.refl _ w) k)) (fun h => h)).look (string_keyed Tryz.underlying9) Tryz.underlying66 (z := .nilFunc) rfl hkey
    have HTL := Lib.hid (fun h => StrS.tail (w := w) hq.symm h hcap2 hc)
    have HR := Lib.hid hR
    have HE := Lib.hid hE
    clear hR hE hc hz hkey
    by_cases hnone : x ≠ [99, 108, 97, 115, 115] ∧ x ≠ [107, 105, 110, 100] ∧ x ≠ [102, 111, 108, 100] ∧ x ≠ [100, 101, 99, 111, 109, 112]
    · have HX : Hid (takeP line S (x :: t) = (12, S)) := Lib.hid (by unfold takeP; exact if_pos hnone)
      have hs : saysF R.g (.string x) = none := by simp [saysF, hnone]
      rw [hs] at hl1
      replace hl1 : ∀ k, (Instr.lookup 66 (.map (some R.bs)) (.string ⟨x.toArray⟩) true).run Tryz.prog (w.drewN k) = .ok (.tuple #[.nilFunc, .bool false]) (w.drewN k) := hl1
      clear hnone hs hx hzt HTL
      go_enter Tryz.func30, Tryz.ntmps30
      go_wp2_with fail
      go_quiet (fail)
      go_wp2
      go_ret
      rw [HX.out]
      exact ⟨rfl, Keep.of_all (below_drewN (Below.refl _ _) _), _, _, _, _, (HR.out.below (below_drewN (Below.refl _ _) _)).mono (by omega), fun _ _ => rfl, fun e => by cases e⟩
    · by_cases h2 : t.length < 2
      · obtain ⟨fv, hs⟩ : ∃ fv, saysF R.g (.string x) = some (saysV R.g fv) := by
          unfold saysF
          simp only
          split
          · exact ⟨_, rfl⟩
          · split
            · exact ⟨_, rfl⟩
            · split
              · exact ⟨_, rfl⟩
              · split
                · exact ⟨_, rfl⟩
                · rename_i h1 h2 h3 h4
                  exact absurd ⟨h1, h2, h3, h4⟩ hnone
        have HX : Hid (takeP line S (x :: t) = (2, S)) := Lib.hid (by unfold takeP; exact (if_neg hnone).trans (if_pos h2))
        rw [hs] at hl1
        replace hl1 : ∀ k, (Instr.lookup 66 (.map (some R.bs)) (.string ⟨x.toArray⟩) true).run Tryz.prog (w.drewN k) = .ok (.tuple #[.func (.func fv) #[.pointer (some ⟨R.g, 0, none⟩)] #[], .bool true]) (w.drewN k) := hl1
        have hq3 : (q : Int) + 1 < 3 := by omega
        clear hnone hs hx hzt HTL h2
        go_enter Tryz.func30, Tryz.ntmps30
        go_wp2_with fail
        go_quiet (fail)
        go_wp2
        go_ret
        rw [HX.out]
        exact ⟨rfl, Keep.of_all (below_drewN (Below.refl _ _) _), _, _, _, _, (HR.out.below (below_drewN (Below.refl _ _) _)).mono (by omega), fun _ _ => rfl, fun e => by cases e⟩
      · have hq3 : (3 : Int) ≤ (q : Int) + 1 := by omega
        have HQ2 : Hid (2 ≤ t.length) := Lib.hid (by omega)
        have HZT := Lib.hid hzt
        have HCC := Lib.hid (And.intro hcs hks)
        by_cases hw1 : x = [99, 108, 97, 115, 115]
        · have hs : saysF R.g (.string x) = some (saysV R.g 68) := by rw [hw1]; rfl
          have HX : Hid (takeP line S (x :: t) = ((rowP clsP t).1, { S with cs := S.cs ++ [(rowP clsP t).2] })) := Lib.hid (by unfold takeP; exact (if_neg hnone).trans ((if_neg h2).trans (if_pos hw1)))
          rw [hs] at hl1
          replace hl1 : ∀ k, (Instr.lookup 66 (.map (some R.bs)) (.string ⟨x.toArray⟩) true).run Tryz.prog (w.drewN k) = .ok (.tuple #[.func (.func 68) #[.pointer (some ⟨R.g, 0, none⟩)] #[], .bool true]) (w.drewN k) := hl1
          have q5 : (1 : Int) ≤ (q : Int) + 1 := by omega
          have q6 : ¬ cap = 1 := by omega
          have q7 : ((q : Int) + 1) ≤ cap := by omega
          rw [HX.out]
          clear hnone hs hx hzt h2 hcs hks hw1 
          go_enter Tryz.func30, Tryz.ntmps30
          go_wp2_with fail
          go_quiet (fail)
          have HRN := Lib.hid (HR.out.below (below_drewN (Below.refl _ w) nq))
          have HSN := Lib.hid ((HTL.out hcap).below (below_drewN (Below.refl _ w) nq))
          have HEN := Lib.hid (HE.out.below (below_drewN (Below.refl _ w) nq))
          have CC := Lib.hid (pclassR (w.drewN nq) HRN.out t _ HSN.out HZT.out HQ2.out HEN.out HCC.out.1)
          obtain ⟨W1, hWN⟩ : ∃ W1, w.drewN nq = W1 := ⟨_, rfl⟩
          have HBW : Hid (Below w.heap.size w W1) := Lib.hid (by rw [← hWN]; exact below_drewN (Below.refl _ w) nq)
          rw [hWN] at CC ⊢
          clear HRN HSN HEN hl1 hWN c0 cs0
          go_wp2_with fail
          refine CC.out.mono ?_
          rintro e w2 ⟨rfl, hbo, ρ', S', cv', kv', hR', hρ', hE'⟩
          have HO := Lib.hid (Keep.trans (Keep.of_all HBW.out) hbo)
          have HO2 := Lib.hid (And.intro hR' (And.intro (fun b (hb : b < w.heap.size) => hρ' b (Nat.lt_of_lt_of_le hb HBW.out.size)) hE'))
          clear hbo hR' hρ' hE'
          go_wp2
          go_ret
          exact ⟨rfl, HO.out, _, _, _, _, HO2.out.1.mono (by omega), HO2.out.2.1, HO2.out.2.2⟩
        · by_cases hw2 : x = [107, 105, 110, 100]
          · have hs : saysF R.g (.string x) = some (saysV R.g 69) := by rw [hw2]; rfl
            have HX : Hid (takeP line S (x :: t) = ((rowP kndZ t).1, { S with ks := S.ks ++ [(rowP kndZ t).2] })) := Lib.hid (by unfold takeP; exact (if_neg hnone).trans ((if_neg h2).trans ((if_neg hw1).trans (if_pos hw2))))
            rw [hs] at hl1
            replace hl1 : ∀ k, (Instr.lookup 66 (.map (some R.bs)) (.string ⟨x.toArray⟩) true).run Tryz.prog (w.drewN k) = .ok (.tuple #[.func (.func 69) #[.pointer (some ⟨R.g, 0, none⟩)] #[], .bool true]) (w.drewN k) := hl1
            have q5 : (1 : Int) ≤ (q : Int) + 1 := by omega
            have q6 : ¬ cap = 1 := by omega
            have q7 : ((q : Int) + 1) ≤ cap := by omega
            rw [HX.out]
            clear hnone hs hx hzt h2 hcs hks hw2 hw1
            go_enter Tryz.func30, Tryz.ntmps30
            go_wp2_with fail
            go_quiet (fail)
            have HRN := Lib.hid (HR.out.below (below_drewN (Below.refl _ w) nq))
            have HSN := Lib.hid ((HTL.out hcap).below (below_drewN (Below.refl _ w) nq))
            have HEN := Lib.hid (HE.out.below (below_drewN (Below.refl _ w) nq))
            have CC := Lib.hid (pkindR (w.drewN nq) HRN.out t _ HSN.out HZT.out HQ2.out HEN.out HCC.out.2)
            obtain ⟨W1, hWN⟩ : ∃ W1, w.drewN nq = W1 := ⟨_, rfl⟩
            have HBW : Hid (Below w.heap.size w W1) := Lib.hid (by rw [← hWN]; exact below_drewN (Below.refl _ w) nq)
            rw [hWN] at CC ⊢
            clear HRN HSN HEN hl1 hWN c0 cs0
            go_wp2_with fail
            refine CC.out.mono ?_
            rintro e w2 ⟨rfl, hbo, ρ', S', cv', kv', hR', hρ', hE'⟩
            have HO := Lib.hid (Keep.trans (Keep.of_all HBW.out) hbo)
            have HO2 := Lib.hid (And.intro hR' (And.intro (fun b (hb : b < w.heap.size) => hρ' b (Nat.lt_of_lt_of_le hb HBW.out.size)) hE'))
            clear hbo hR' hρ' hE'
            go_wp2
            go_ret
            exact ⟨rfl, HO.out, _, _, _, _, HO2.out.1.mono (by omega), HO2.out.2.1, HO2.out.2.2⟩
          · by_cases hw3 : x = [102, 111, 108, 100]
            · have hs : saysF R.g (.string x) = some (saysV R.g 70) := by rw [hw3]; rfl
              have HX : Hid (takeP line S (x :: t) = foldP S t) := Lib.hid (by unfold takeP; exact (if_neg hnone).trans ((if_neg h2).trans ((if_neg hw1).trans ((if_neg hw2).trans (if_pos hw3)))))
              rw [hs] at hl1
              replace hl1 : ∀ k, (Instr.lookup 66 (.map (some R.bs)) (.string ⟨x.toArray⟩) true).run Tryz.prog (w.drewN k) = .ok (.tuple #[.func (.func 70) #[.pointer (some ⟨R.g, 0, none⟩)] #[], .bool true]) (w.drewN k) := hl1
              have q5 : (1 : Int) ≤ (q : Int) + 1 := by omega
              have q6 : ¬ cap = 1 := by omega
              have q7 : ((q : Int) + 1) ≤ cap := by omega
              rw [HX.out]
              clear hnone hs hx hzt h2 hcs hks hw3 hw1 hw2
              go_enter Tryz.func30, Tryz.ntmps30
              go_wp2_with fail
              go_quiet (fail)
              have HRN := Lib.hid (HR.out.below (below_drewN (Below.refl _ w) nq))
              have HSN := Lib.hid ((HTL.out hcap).below (below_drewN (Below.refl _ w) nq))
              have HEN := Lib.hid (HE.out.below (below_drewN (Below.refl _ w) nq))
              have CC := Lib.hid (pfoldR (w.drewN nq) HRN.out t _ HSN.out HZT.out HQ2.out HEN.out hn)
              obtain ⟨W1, hWN⟩ : ∃ W1, w.drewN nq = W1 := ⟨_, rfl⟩
              have HBW : Hid (Below w.heap.size w W1) := Lib.hid (by rw [← hWN]; exact below_drewN (Below.refl _ w) nq)
              rw [hWN] at CC ⊢
              clear HRN HSN HEN hl1 hWN c0 cs0
              go_wp2_with fail
              refine CC.out.mono ?_
              rintro e w2 ⟨rfl, hbo, ρ', S', cv', kv', hR', hρ', hE'⟩
              have HO := Lib.hid (Keep.trans (Keep.of_all HBW.out) hbo)
              have HO2 := Lib.hid (And.intro hR' (And.intro (fun b (hb : b < w.heap.size) => hρ' b (Nat.lt_of_lt_of_le hb HBW.out.size)) hE'))
              clear hbo hR' hρ' hE'
              go_wp2
              go_ret
              exact ⟨rfl, HO.out, _, _, _, _, HO2.out.1.mono (by omega), HO2.out.2.1, HO2.out.2.2⟩
            · have hw4 : x = [100, 101, 99, 111, 109, 112] := Decidable.byContradiction fun h4 => hnone ⟨hw1, hw2, hw3, h4⟩
              have hs : saysF R.g (.string x) = some (saysV R.g 71) := by rw [hw4]; rfl
              have HX : Hid (takeP line S (x :: t) = decP line S t) := Lib.hid (by unfold takeP; exact (if_neg hnone).trans ((if_neg h2).trans ((if_neg hw1).trans ((if_neg hw2).trans (if_neg hw3)))))
              rw [hs] at hl1
              replace hl1 : ∀ k, (Instr.lookup 66 (.map (some R.bs)) (.string ⟨x.toArray⟩) true).run Tryz.prog (w.drewN k) = .ok (.tuple #[.func (.func 71) #[.pointer (some ⟨R.g, 0, none⟩)] #[], .bool true]) (w.drewN k) := hl1
              have q5 : (1 : Int) ≤ (q : Int) + 1 := by omega
              have q6 : ¬ cap = 1 := by omega
              have q7 : ((q : Int) + 1) ≤ cap := by omega
              rw [HX.out]
              clear hnone hs hx hzt h2 hcs hks hw4 hw1 hw2 hw3
              go_enter Tryz.func30, Tryz.ntmps30
              go_wp2_with fail
              go_quiet (fail)
              have HRN := Lib.hid (HR.out.below (below_drewN (Below.refl _ w) nq))
              have HSN := Lib.hid ((HTL.out hcap).below (below_drewN (Below.refl _ w) nq))
              have HEN := Lib.hid (HE.out.below (below_drewN (Below.refl _ w) nq))
              have CC := Lib.hid (pdecR (w.drewN nq) HRN.out t _ HSN.out HZT.out HQ2.out HEN.out hn)
              obtain ⟨W1, hWN⟩ : ∃ W1, w.drewN nq = W1 := ⟨_, rfl⟩
              have HBW : Hid (Below w.heap.size w W1) := Lib.hid (by rw [← hWN]; exact below_drewN (Below.refl _ w) nq)
              rw [hWN] at CC ⊢
              clear HRN HSN HEN hl1 hWN c0 cs0
              go_wp2_with fail
              refine CC.out.mono ?_
              rintro e w2 ⟨rfl, hbo, ρ', S', cv', kv', hR', hρ', hE'⟩
              have HO := Lib.hid (Keep.trans (Keep.of_all HBW.out) hbo)
              have HO2 := Lib.hid (And.intro hR' (And.intro (fun b (hb : b < w.heap.size) => hρ' b (Nat.lt_of_lt_of_le hb HBW.out.size)) hE'))
              clear hbo hR' hρ' hE'
              go_wp2
              go_ret
              exact ⟨rfl, HO.out, _, _, _, _, HO2.out.1.mono (by omega), HO2.out.2.1, HO2.out.2.2⟩
end Go.Proofs.YtfpfpaaojdodnaaGreatDoor
/- What is the same of any program: an iterator that lays memory of its own between rounds, and the loop over it. -/
namespace Go.Kt
open Go Go.RowKit
variable {P : Program}

def Slim {β : Type} (J : β → (Nat → Prop) → World → Prop) : Prop := ∀ s Y W, J s Y W → J s (fun b => Y b ∧ b < W.heap.size) W
def Iter2 {α : Type} (P : Program) (gf : Nat) (lb : Array Value) (encs : α → Array Value) (L : List α) (Nd : Nat → Prop) (w0 : World) : Prop :=
  ∀ (l : Nat) (X : Nat → Prop) (J Jx : List α → (Nat → Prop) → World → Prop) (W : World),
    (∀ b, Nd b → ¬ X b) → (∀ b, X b → b < W.heap.size) → (∀ b, Nd b → W.heap[b]? = w0.heap[b]?) → w0.heap.size ≤ W.heap.size →
    Low W.heap.size J → Low W.heap.size Jx → Slim J →
    (∀ pre x Y W1, pre ++ [x] <+: L → J pre Y W1 → W.heap.size ≤ W1.heap.size → (∀ b, Y b → W.heap.size ≤ b) → YieldAt Fence.wide 0 P l (encs x) W1 fun e W' =>
      ∃ Y', Keep (fun b => X b ∨ Y b) W1 W' ∧ (∀ b, Y' b → Y b ∨ W1.heap.size ≤ b) ∧ ((e = .returned (.bool true) ∧ J (pre ++ [x]) Y' W') ∨ (e = .returned (.bool false) ∧ Jx (pre ++ [x]) Y' W'))) →
    J [] (fun _ => False) W →
    Calls P gf (#[.func (.yield l) #[] #[]] ++ lb) W fun e W' => (∃ v, e = .returned v) ∧ Keep X W W' ∧ ((∃ Y, (∀ b, Y b → W.heap.size ≤ b) ∧ J L Y W') ∨ ∃ pre Y, pre <+: L ∧ (∀ b, Y b → W.heap.size ≤ b) ∧ Jx pre Y W')

theorem loop_core2 {α : Type} {F : Fence} {ps : Array Tmp} {assign body : Code} {Q : Exit → Act → World → Prop} {a a' : Act} {w W1 : World}
    {gf : Nat} {lb : Array Value} {encs : α → Array Value} {L : List α} {Nd X : Nat → Prop} {w0 : World} (hit : Iter2 P gf lb encs L Nd w0)
    (hps : ∀ x, (encs x).size = ps.size) (l : Nat) (rec : LoopState → Option Code → Loop) (fn : FuncId) (D : Nat)
    (hrec : ∀ st pe, rec st pe = { state := st, pending := pe, fn, tmps := a.tmps, params := ps, assign, body, defers := D })
    (hX : ∀ b, X b → b < w.heap.size) (hNd : ∀ b, Nd b → ¬ X b ∧ b < w.heap.size) (hNdw : ∀ b, Nd b → w.heap[b]? = w0.heap[b]?) (hw0 : w0.heap.size ≤ w.heap.size)
    (hl : w.heap.size ≤ l) (hL1 : W1.heap[l]? = some (.loop (rec .ready none))) (hbw : Below w.heap.size w W1)
    (I : List α → (Nat → Prop) → World → Prop) (Ix : Code → List α → (Nat → Prop) → World → Prop) (hI : Low w.heap.size I) (hSI : Slim I) (hIx : ∀ c, Low w.heap.size (Ix c)) (h0 : I [] (fun _ => False) w)
    (hround : Round P ps assign body a.tmps encs L X I Ix w l)
    (hdone : ∀ Y W, I L Y W → (∀ b, Y b → W1.heap.size ≤ b) → Keep X w W → Keep (fun b => X b ∨ b = l) W1 W → Q .normal a' W)
    (hstop : ∀ c pre Y W, pre <+: L → Ix c pre Y W → (∀ b, Y b → W1.heap.size ≤ b) → Keep X w W → Keep (fun b => X b ∨ b = l) W1 W → c.wpIn F 0 P Q a' W) :
    Calls P gf (#[.func (.yield l) #[] #[]] ++ lb) W1 (rangePost F 0 P l Q a') := by
  have hlt1 : l < W1.heap.size := (Array.getElem?_eq_some_iff.1 hL1).1
  have hB1 : w.heap.size ≤ W1.heap.size := hbw.size
  have hkw : Keep X w W1 := .of_all hbw
  -- a step that touches nothing below W1's heap's end but what is not of Y
  have low1 : ∀ {Y : Nat → Prop} {A B : World}, Keep (fun b => W1.heap.size ≤ b ∧ ¬ Y b) A B → Keep (fun b => w.heap.size ≤ b ∧ ¬ Y b) A B := fun h => h.weaken fun _ _ hb => ⟨Nat.le_trans hB1 hb.1, hb.2⟩
  have lowX : ∀ {Y : Nat → Prop} {A B : World}, Keep (fun b => W1.heap.size ≤ b ∧ ¬ Y b) A B → Keep X w A → Keep X w B := fun h k =>
    ⟨h.os.trans k.os, h.tape.trans k.tape, h.output.trans k.output, Nat.le_trans k.size h.size, fun b hb hx => (h.same b (Nat.lt_of_lt_of_le hb k.size) (fun hy => by have := hy.1; omega)).trans (k.same b hb hx)⟩
  have lowl : ∀ {Y : Nat → Prop} {A B : World} {o : Obj}, Keep (fun b => W1.heap.size ≤ b ∧ ¬ Y b) A B → A.heap[l]? = some o → B.heap[l]? = some o := fun h ho => h.heap ho (fun hy => by have := hy.1; omega)
  -- the law's own turn of its record
  have turn : ∀ {Y : Nat → Prop} (W : World) (o : Obj), (∀ b, Y b → W1.heap.size ≤ b) → Keep (fun b => w.heap.size ≤ b ∧ ¬ Y b) W (W.putObj l o) := fun W o hY => (Keep.refl _ W).putObj (.inl ⟨hl, fun hy => by have := hY l hy; omega⟩) o
  refine (hit l (fun b => X b ∨ b = l) (fun pre Y W => (∀ b, Y b → W1.heap.size ≤ b) ∧ I pre Y W ∧ Keep X w W ∧ W.heap[l]? = some (.loop (rec .ready none)))
    (fun pre Y W => (∀ b, Y b → W1.heap.size ≤ b) ∧ ∃ c, Ix c pre Y W ∧ Keep X w W ∧ W.heap[l]? = some (.loop (rec .done (some c)))) W1
    (fun b hb => by have := hNd b hb; rintro (h | h); exact this.1 h; omega)
    (fun b hb => by rcases hb with hb | hb; have := hX b hb; omega; omega)
    (fun b hb => (hkw.same b (hNd b hb).2 (hNd b hb).1).trans (hNdw b hb)) (by omega)
    (fun s Y A B hb ⟨hY, h1, h2, h3⟩ => ⟨hY, hI s Y A B (low1 hb) h1, lowX hb h2, lowl hb h3⟩)
    (fun s Y A B hb ⟨hY, c, h1, h2, h3⟩ => ⟨hY, c, hIx c s Y A B (low1 hb) h1, lowX hb h2, lowl hb h3⟩)
    (fun s Y A ⟨hY, h1, h2, h3⟩ => ⟨fun b hb => hY b hb.1, hSI s Y A h1, h2, h3⟩)
    ?_ ⟨fun _ h => h.elim, hI _ _ _ _ (.of_all hbw) h0, hkw, hL1⟩).mono ?_
  · rintro pre x Y W hpre ⟨hY, hi, hk, hl3⟩ hsz _
    have hlt : l < W.heap.size := (Array.getElem?_eq_some_iff.1 hl3).1
    have hYl : ∀ b, Y b → w.heap.size ≤ b ∧ b ≠ l := fun b hb => by have := hY b hb; omega
    have hy := run_yield (P := P) (args := encs x) hl3 (by rw [hrec]; exact hps x)
    rw [hrec] at hy
    refine ⟨fn, _, assign, body, hy, roundIn_of_wpIn trivial (wpIn_mono (hround pre x Y W hpre hi hk hYl hlt ⟨_, hl3⟩) ?_)⟩
    intro e a₁ w₁ h
    cases e with
    | normal =>
      obtain ⟨hk1, hb1⟩ := h
      have hl4 : w₁.heap[l]? = some (.loop (rec .ready none)) := hk1.heap hl3 (fun hx => hx)
      refine ⟨_, run_beginRound hl4 (by rw [hrec]), ?_⟩
      have hlt4 : l < w₁.heap.size := (Array.getElem?_eq_some_iff.1 hl4).1
      have hi1 : I pre Y w₁ := hI _ _ _ _ (hk1.weaken (fun _ _ h => h.elim)) hi
      have hi2 := hI _ _ _ _ (turn (Y := Y) w₁ (.loop { rec .ready none with state := .busy }) hY) hi1
      have hkw1 : Keep X w (w₁.putObj l (.loop { rec .ready none with state := .busy })) := (hk.trans (hk1.weaken fun _ _ h => h.elim)).putObj (.inr hl) _
      have hl5 : (w₁.putObj l (.loop { rec .ready none with state := .busy })).heap[l]? = some (.loop { rec .ready none with state := .busy }) := World.putObj_heap_same hlt4
      refine wpIn_mono (hb1 _ ((Keep.refl (fun b => b = l) w₁).putObj (.inl rfl) _) hkw1 hi2 ⟨_, hl5⟩) ?_
      have hX2 : Keep (fun b => (X b ∨ b = l) ∨ Y b) W (w₁.putObj l (.loop { rec .ready none with state := .busy })) := (hk1.weaken (fun _ _ h => h.elim)).putObj (.inl (.inl (.inr rfl))) _
      have hsz2 : W.heap.size ≤ (w₁.putObj l (.loop { rec .ready none with state := .busy })).heap.size := hX2.size
      have fin : ∀ (jump : Option Code) (W3 : World) (I' : List α → (Nat → Prop) → World → Prop), Low w.heap.size I' → Left X Y I' (pre ++ [x]) (w₁.putObj l (.loop { rec .ready none with state := .busy })) W3 →
          (Instr.endRound l jump).run P W3 = .ok (.bool jump.isNone) (W3.putObj l (.loop (rec (if jump.isNone then .ready else .done) jump))) ∧
          (W3.putObj l (.loop (rec (if jump.isNone then .ready else .done) jump))).heap[l]? = some (.loop (rec (if jump.isNone then .ready else .done) jump)) ∧
          ∃ Y', (∀ b, Y' b → W1.heap.size ≤ b) ∧ (∀ b, Y' b → Y b ∨ W.heap.size ≤ b) ∧ I' (pre ++ [x]) Y' (W3.putObj l (.loop (rec (if jump.isNone then .ready else .done) jump))) ∧
          Keep X w (W3.putObj l (.loop (rec (if jump.isNone then .ready else .done) jump))) ∧
          Keep (fun b => (X b ∨ b = l) ∨ Y b) W (W3.putObj l (.loop (rec (if jump.isNone then .ready else .done) jump))) := fun jump W3 I' hI' ⟨Y', hk3, hY', hi3⟩ => by
        have hl6 := hk3.heap hl5 (fun hx => by rcases hx with hx | hx; have := hX l hx; omega; have := hY l hx; omega)
        have hr := run_endRound (P := P) jump hl6
        have er : ({ ({ rec .ready none with state := .busy } : Loop) with state := if jump.isNone then .ready else .done, pending := jump } : Loop) = rec (if jump.isNone then .ready else .done) jump := by
          rw [hrec, hrec]
        rw [er] at hr
        have hY1 : ∀ b, Y' b → W1.heap.size ≤ b := fun b hb => by rcases hY' b hb with h | h; exact hY b h; omega
        refine ⟨hr, World.putObj_heap_same (Array.getElem?_eq_some_iff.1 hl6).1, Y', hY1, fun b hb => by rcases hY' b hb with h | h; exact .inl h; exact .inr (by omega), hI' _ _ _ _ (turn W3 _ hY1) hi3, ?_, ?_⟩
        · refine Keep.putObj ?_ (.inr hl) _
          exact ⟨hk3.os.trans hkw1.os, hk3.tape.trans hkw1.tape, hk3.output.trans hkw1.output, Nat.le_trans hkw1.size hk3.size, fun b hb hx => (hk3.same b (Nat.lt_of_lt_of_le hb hkw1.size) (fun h => by rcases h with h | h; exact hx h; have := hY b h; omega)).trans (hkw1.same b hb hx)⟩
        · exact (hX2.trans (hk3.weaken (fun _ _ h => by rcases h with h | h; exact .inl (.inl h); exact .inr h))).putObj (.inl (.inl (.inr rfl))) _
      rintro e a3 W3 hp
      cases e with
      | normal =>
        obtain ⟨hr, hl7, Y', q1, q2, q3, q4, q5⟩ := fin none W3 I hI hp
        exact ⟨_, _, hr, Y', q5, q2, .inl ⟨rfl, q1, q3, q4, hl7⟩⟩
      | ret =>
        obtain ⟨hr, hl7, Y', q1, q2, q3, q4, q5⟩ := fin (some .ret) W3 _ (hIx _) hp
        exact ⟨_, _, hr, Y', q5, q2, .inr ⟨rfl, q1, .ret, q3, q4, hl7⟩⟩
      | exit id =>
        obtain ⟨hr, hl7, Y', q1, q2, q3, q4, q5⟩ := fin (some (.exit id)) W3 _ (hIx _) hp
        exact ⟨_, _, hr, Y', q5, q2, .inr ⟨rfl, q1, .exit id, q3, q4, hl7⟩⟩
      | goto t =>
        obtain ⟨hr, hl7, Y', q1, q2, q3, q4, q5⟩ := fin (some (.goto t)) W3 _ (hIx _) hp
        exact ⟨_, _, hr, Y', q5, q2, .inr ⟨rfl, q1, .goto t, q3, q4, hl7⟩⟩
      | panic ch => exact hp.elim
      | outgrown => exact hp.elim
    | ret => exact h.elim
    | exit id => exact h.elim
    | goto t => exact h.elim
    | panic ch => exact h.elim
    | outgrown => exact h.elim
  · rintro e W2 ⟨⟨v, rfl⟩, hk2, (⟨Y, _, hY, hi, hk, hl2⟩ | ⟨pre, Y, hpre, _, hY, c, hi, hk, hl2⟩)⟩
    · have hr := run_endLoop (P := P) hl2 (by rw [hrec]; simp)
      have e1 : (rec .ready none).pending = none := by rw [hrec]
      rw [e1] at hr
      exact ⟨none, _, hr, hdone Y _ (hI _ _ _ _ (turn W2 _ hY) hi) hY (hk.putObj (.inr hl) _) (hk2.putObj (.inl (.inr rfl)) _)⟩
    · have hr := run_endLoop (P := P) hl2 (by rw [hrec]; simp)
      have e1 : (rec .done (some c)).pending = some c := by rw [hrec]
      rw [e1] at hr
      exact ⟨some c, _, hr, hstop c pre Y _ hpre (hIx c _ _ _ _ (turn W2 _ hY) hi) hY (hk.putObj (.inr hl) _) (hk2.putObj (.inl (.inr rfl)) _)⟩

theorem loop_out2 {α : Type} {g : Operand} {ps : Array Tmp} {assign body : Code} {Q : Exit → Act → World → Prop} {a : Act} {w : World}
    {gf : Nat} {lb : Array Value} (hg : a.eval g = .func (.func gf) #[] lb) (eg : ∀ args w, (callFunc gf args).run P w = .ok (.enter gf args) w)
    {encs : α → Array Value} {L : List α} {Nd X : Nat → Prop} {w0 : World} (hit : Iter2 P gf lb encs L Nd w0) (hps : ∀ x, (encs x).size = ps.size)
    (hX : ∀ b, X b → b < w.heap.size) (hNd : ∀ b, Nd b → ¬ X b ∧ b < w.heap.size) (hNdw : ∀ b, Nd b → w.heap[b]? = w0.heap[b]?) (hw0 : w0.heap.size ≤ w.heap.size)
    (I : List α → (Nat → Prop) → World → Prop) (Ix : Code → List α → (Nat → Prop) → World → Prop) (hI : Low w.heap.size I) (hSI : Slim I) (hIx : ∀ c, Low w.heap.size (Ix c)) (h0 : I [] (fun _ => False) w)
    (hround : ∀ l, w.heap.size ≤ l → Round P ps assign body a.tmps encs L X I Ix w l)
    (hdone : ∀ D Y W, w.heap.size ≤ D → W.heap[D]? = some (.deferred (some [])) → I L Y W → (∀ b, Y b → w.heap.size ≤ b ∧ b ≠ D) → Keep X w W → Q .normal { a with defers := { target := .collected D, args := #[] } :: a.defers } W)
    (hstop : ∀ D c pre Y W, w.heap.size ≤ D → W.heap[D]? = some (.deferred (some [])) → pre <+: L → Ix c pre Y W → (∀ b, Y b → w.heap.size ≤ b ∧ b ≠ D) → Keep X w W → c.wpIn Fence.wide 0 P Q { a with defers := { target := .collected D, args := #[] } :: a.defers } W) :
    (Code.rangeFunc g ps assign body).wpIn Fence.wide 0 P Q a w := by
  refine wpIn_rangeFunc ?_
  intro fn _
  obtain ⟨rec, hrec⟩ : ∃ rec : LoopState → Option Code → Loop, rec = fun st pe => { state := st, pending := pe, fn, tmps := a.tmps, params := ps, assign, body, defers := w.heap.size } := ⟨_, rfl⟩
  obtain ⟨W1, hW1⟩ : ∃ W1, (w.alloc (.deferred (some []))).alloc (.loop (rec .ready none)) = W1 := ⟨_, rfl⟩
  have hL1 : W1.heap[w.heap.size + 1]? = some (.loop (rec .ready none)) := by
    rw [← hW1]; have := World.alloc_heap_new (w.alloc (.deferred (some []))) (.loop (rec .ready none)); rwa [World.size_alloc] at this
  have hD1 : W1.heap[w.heap.size]? = some (.deferred (some [])) := by
    rw [← hW1]; exact (Below.heap_alloc _ _ _ (by simp)).trans (World.alloc_heap_new w _)
  have hbw : Below w.heap.size w W1 := by
    rw [← hW1]; exact ((Below.refl _ w).alloc (Nat.le_refl _) _).alloc (by simp) _
  have hltD : w.heap.size < W1.heap.size := (Array.getElem?_eq_some_iff.1 hD1).1
  have hD : ∀ W, Keep (fun b => X b ∨ b = w.heap.size + 1) W1 W → W.heap[w.heap.size]? = some (.deferred (some [])) := fun W hk =>
    hk.heap hD1 (fun h => by rcases h with h | h; have := hX _ h; omega; omega)
  refine ⟨w.heap.size + 1, [{ target := .collected w.heap.size, args := #[] }], W1, { target := .fn (.func gf) lb, args := #[.func (.yield (w.heap.size + 1)) #[] #[]] }, W1, gf,
    #[.func (.yield (w.heap.size + 1)) #[] #[]] ++ lb, W1, ?_, ?_, ?_, ?_, (fun h => by cases h), ?_⟩
  · rw [← hW1, hrec]; exact run_enterLoop_outer _ _ _ _ _
  · simp only [resolve, hg]
    simp [go_sem]
  · intro _ _; trivial
  · simp [invoke, go_sem, eg]
  · exact callsIn_wide.2 (loop_core2 hit hps (w.heap.size + 1) rec fn w.heap.size (by intro st pe; rw [hrec]) hX hNd hNdw hw0 (by omega) hL1 hbw I Ix hI hSI hIx h0
      (hround _ (by omega))
      (fun Y W hi hY hk hk1 => hdone _ Y W (Nat.le_refl _) (hD W hk1) hi (fun b hb => by have := hY b hb; omega) hk)
      (fun c pre Y W hp hi hY hk hk1 => hstop _ c pre Y W (Nat.le_refl _) (hD W hk1) hp hi (fun b hb => by have := hY b hb; omega) hk))
end Go.Kt
