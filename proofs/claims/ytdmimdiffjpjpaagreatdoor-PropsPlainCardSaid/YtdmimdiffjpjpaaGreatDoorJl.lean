/- props: fold and decomp. WRITTEN by wip/tools/gen_jl.py. -/
import Derived.Test.YtdmimdiffjpjpaaGreatDoorGz5
import Derived.Test.YtdmimdiffjpjpaaGreatDoorJk
namespace Go.Proofs.YtdmimdiffjpjpaaGreatDoor
open Go Go.RowKit Go.Kt Go.Kt.Rg Go.Maps

theorem ptsA_ok : ∀ (ws : List (List UInt8)) (acc l : List Nat), ptsA acc ws = (0, l) → (∀ x ∈ acc, Lib.validRune (x : Int) = true) → l.length = acc.length + ws.length ∧ ∀ x ∈ l, Lib.validRune (x : Int) = true
  | [], acc, l, h, ha => by
    rw [ptsA] at h
    obtain ⟨_, rfl⟩ := Prod.mk.inj h
    exact ⟨by simp, ha⟩
  | x :: t, acc, l, h, ha => by
    cases hx : numP x with
    | none => rw [ptsA_no hx] at h; cases h
    | some n =>
      cases hv : Lib.validRune (n : Int) with
      | false => rw [ptsA_bad hx hv] at h; cases h
      | true =>
        rw [ptsA_go hx hv] at h
        obtain ⟨h1, h2⟩ := ptsA_ok t (acc ++ [n]) l h (fun y hy => by
          rcases List.mem_append.1 hy with hy | hy
          · exact ha y hy
          · rw [List.mem_singleton.1 hy]; exact hv)
        exact ⟨by rw [h1]; simp; omega, h2⟩
theorem ptsP_ok {ws : List (List UInt8)} {l : List Nat} (h : ptsP ws = (0, l)) : l.length = ws.length ∧ ws.length ≤ 9 ∧ ∀ x ∈ l, Lib.validRune (x : Int) = true := by
  unfold ptsP at h
  by_cases h9 : 9 < ws.length
  · rw [if_pos h9] at h; cases h
  · rw [if_neg h9] at h
    have := ptsA_ok ws [] l h (fun _ h => by cases h)
    exact ⟨by simpa using this.1, by omega, this.2⟩
theorem valid_le {x : Nat} (h : Lib.validRune (x : Int) = true) : x ≤ 1114111 := by
  simp [Lib.validRune] at h
  omega

/-- What the words behind 'fold' do: the error's number, and what is held then. -/
def foldP (S : RdS) (ws : List (List UInt8)) : Nat × RdS := match ptsP ws with
  | (0, x :: t) => if (S.fs x).isSome then (13, S) else (0, { S with fs := updN S.fs x t })
  | (no, _) => (no, S)
def decP (line : Nat) (S : RdS) (ws : List (List UInt8)) : Nat × RdS := match ptsP ws with
  | (0, x :: t) => if (S.ds x).isSome then (13, S) else if hanP x then (1, S) else (0, { S with ds := updN S.ds x t, ls := updN S.ls x line })
  | (no, _) => (no, S)
theorem foldP_no {S : RdS} {ws : List (List UInt8)} {no : Nat} {l : List Nat} (h : ptsP ws = (no, l)) (h0 : no ≠ 0) : foldP S ws = (no, S) := by
  unfold foldP
  rw [h]
  split
  · rename_i e; exact absurd (Prod.mk.inj e).1 h0
  · rename_i e; rw [(Prod.mk.inj e).1]
theorem decP_no {line : Nat} {S : RdS} {ws : List (List UInt8)} {no : Nat} {l : List Nat} (h : ptsP ws = (no, l)) (h0 : no ≠ 0) : decP line S ws = (no, S) := by
  unfold decP
  rw [h]
  split
  · rename_i e; exact absurd (Prod.mk.inj e).1 h0
  · rename_i e; rw [(Prod.mk.inj e).1]

theorem DecM.mono {ρ : Nat → Nat} {k B n n' : Nat} {d : Nat → Option (List Nat)} {w : World} (h : DecM ρ k B n d w) (hn : n ≤ n') : DecM ρ k B n' d w := by
  obtain ⟨h0, vs, h1, h2⟩ := h
  exact ⟨h0, vs, h1.mono hn, h2⟩
theorem RdW.mono {B0 : Nat} {ρ : Nat → Nat} {R : RdB} {line n n' m : Nat} {S : RdS} {cv kv : Value} {w : World} (h : RdW B0 ρ R line n m S cv kv w) (hn : n ≤ n') : RdW B0 ρ R line n' m S cv kv w :=
  ⟨h.hr, h.hB, h.g, h.cell, h.c, h.k, h.d.mono hn, h.f.mono hn, ⟨h.l.1, h.l.2.mono hn⟩, h.e, h.s⟩
section
variable {B0 : Nat} {ρ : Nat → Nat} {R : RdB} {line n m : Nat} {S : RdS} {cv kv : Value} {w w' : World}
/-- Folds that grew. -/
theorem RdW.newf (h : RdW B0 ρ R line n m S cv kv w) {fs' : Nat → Option (List Nat)} (hk : Keep (fun b => b = R.bf) w w') (hf : DecM ρ 5 R.bf (n + 1) fs' w') : RdW B0 ρ R line (n + 1) m { S with fs := fs' } cv kv w' := by
  have H := h.mono (Nat.le_succ n)
  have hX : ∀ b, b = R.bf → ρ b = 5 := fun b e => by rw [e]; exact h.f.1
  exact {
    hr := H.hr, hB := Nat.le_trans h.hB hk.size, g := H.g, cell := hk.heap H.cell (fun e => by have := hX _ e; have := H.g; omega)
    c := H.c.keep hk (fun b hb h3 => by have := hX b hb; omega)
    k := H.k.keep hk (fun b hb h3 => by have := hX b hb; omega)
    d := H.d.keep hk (fun b hb => by have := hX b hb; omega)
    f := hf
    l := ⟨H.l.1, H.l.2.keep hk (fun hb => by have := hX _ hb; have := H.l.1; omega)⟩
    e := ⟨H.e.1, H.e.2.keep hk (fun hb => by have := hX _ hb; have := H.e.1; omega)⟩
    s := ⟨H.s.1, H.s.2.keep hk (fun hb => by have := hX _ hb; have := H.s.1; omega)⟩ }
/-- Decompositions that grew. -/
theorem RdW.newd (h : RdW B0 ρ R line n m S cv kv w) {ds' : Nat → Option (List Nat)} (hk : Keep (fun b => b = R.bd) w w') (hf : DecM ρ 4 R.bd (n + 1) ds' w') : RdW B0 ρ R line (n + 1) m { S with ds := ds' } cv kv w' := by
  have H := h.mono (Nat.le_succ n)
  have hX : ∀ b, b = R.bd → ρ b = 4 := fun b e => by rw [e]; exact h.d.1
  exact {
    hr := H.hr, hB := Nat.le_trans h.hB hk.size, g := H.g, cell := hk.heap H.cell (fun e => by have := hX _ e; have := H.g; omega)
    c := H.c.keep hk (fun b hb h3 => by have := hX b hb; omega)
    k := H.k.keep hk (fun b hb h3 => by have := hX b hb; omega)
    f := H.f.keep hk (fun b hb => by have := hX b hb; omega)
    d := hf
    l := ⟨H.l.1, H.l.2.keep hk (fun hb => by have := hX _ hb; have := H.l.1; omega)⟩
    e := ⟨H.e.1, H.e.2.keep hk (fun hb => by have := hX _ hb; have := H.e.1; omega)⟩
    s := ⟨H.s.1, H.s.2.keep hk (fun hb => by have := hX _ hb; have := H.s.1; omega)⟩ }
/-- Lines that grew. -/
theorem RdW.newl (h : RdW B0 ρ R line (n + 1) m S cv kv w) {ls' : Nat → Option Nat} (hk : Keep (fun b => b = R.bl) w w') (hf : MapG Tryz.prog 21 R.bl (n + 1) (ptF (lsV ls')) w') : RdW B0 ρ R line (n + 1) m { S with ls := ls' } cv kv w' := by
  have H := h
  have hX : ∀ b, b = R.bl → ρ b = 6 := fun b e => by rw [e]; exact h.l.1
  exact {
    hr := H.hr, hB := Nat.le_trans h.hB hk.size, g := H.g, cell := hk.heap H.cell (fun e => by have := hX _ e; have := H.g; omega)
    c := H.c.keep hk (fun b hb h3 => by have := hX b hb; omega)
    k := H.k.keep hk (fun b hb h3 => by have := hX b hb; omega)
    f := H.f.keep hk (fun b hb => by have := hX b hb; omega)
    d := H.d.keep hk (fun b hb => by have := hX b hb; omega)
    l := ⟨H.l.1, hf⟩
    e := ⟨H.e.1, H.e.2.keep hk (fun hb => by have := hX _ hb; have := H.e.1; omega)⟩
    s := ⟨H.s.1, H.s.2.keep hk (fun hb => by have := hX _ hb; have := H.s.1; omega)⟩ }
/-- A list of points that was just made, with the reader beside it. -/
theorem pts_new (h : RdW B0 ρ R line n m S cv kv w) (hb : Below w.heap.size w w') {B : Nat} {l : List Nat} (_h0 : l ≠ []) (h9 : l.length ≤ 9) (hB : w.heap.size ≤ B) (hB2 : B < w'.heap.size) (hc : ∀ (i : Nat) (x : Nat), l[i]? = some x → w'.cell? ⟨B, i, none⟩ = some (.int .i32 (x : Nat))) :
    RdW B0 (moreR w ρ 0) R line n m S cv kv w' ∧ PtV (moreR w ρ 0) (.slice (some ⟨B, 0, none⟩) l.length l.length) l w' :=
  ⟨(h.role_more 0).below hb, B, 0, l.length, rfl, Nat.le_refl _, by omega, moreR_new B hB, hB2, fun i x hx => by rw [Nat.zero_add]; exact hc i x hx⟩
end

set_option maxRecDepth 100000 in
set_option maxHeartbeats 4000000 in
theorem pfoldR {B0 : Nat} {ρ : Nat → Nat} {R : RdB} {line n m : Nat} {S : RdS} {cv kv : Value} (w : World) (hR : RdW B0 ρ R line n m S cv kv w) (ws : List (List UInt8)) (sv : Value) (hS : StrS sv ws w) (hz : ∀ x ∈ ws, x ≠ [] ∧ x.length ≤ 1048576) (h2 : 2 ≤ ws.length) (hE : PEnv w) (hn : n ≤ 1000000) :
    Calls Tryz.prog 54 #[.pointer (some ⟨R.g, 0, none⟩), sv] w fun e w' => RdOut B0 ρ R line (n + 1) m (foldP S ws).1 (foldP S ws).2 w e w' := by
  have CP := Lib.hid (ppoints ws sv w hS (fun x hx => (hz x hx).2) (fun e => by rw [e] at h2; simp at h2) hE)
  obtain ⟨⟨no, l⟩, hP⟩ : ∃ z, ptsP ws = z := ⟨_, rfl⟩
  rw [hP] at CP
  have HP := Lib.hid hP
  have H2 := Lib.hid h2
  clear hP hS hz h2 hE
  have HR := Lib.hid hR
  have hgl := hR.gl
  clear hR
  go_enter Tryz.func54, Tryz.ntmps54
  go_wp2_with fail
  refine CP.out.mono ?_
  rintro e w1 ⟨hb1, v, rfl, hv⟩
  by_cases h0 : no = 0
  · subst h0
    obtain ⟨b, rfl, hb2, hb3, hc⟩ := hv rfl
    have hok := ptsP_ok HP.out
    have H2' := H2.out
    cases l with
    | nil => exact absurd hok.1 (by simp; omega)
    | cons x t =>
    have ht : t ≠ [] := fun e => by rw [e] at hok; have := hok.1; simp at this; omega
    have hx : x ≤ 1114111 := valid_le (hok.2.2 x List.mem_cons_self)
    obtain ⟨HR1, HV⟩ := pts_new HR.out hb1 (List.cons_ne_nil x t) (by omega) hb2 hb3 hc
    simp only at hc hok
    have HR1' := Lib.hid HR1
    have HB1 := Lib.hid hb1
    have hxc : w1.cell? ⟨b, 0, none⟩ = some (.int .i32 (x : Nat)) := hc 0 x rfl
    have HBN := Lib.hid hb2
    obtain ⟨q, hq⟩ : ∃ q, t.length = q := ⟨_, rfl⟩
    rw [List.length_cons, hq] at HV ⊢
    have HX : Hid (foldP S ws = if (S.fs x).isSome then (13, S) else (0, { S with fs := updN S.fs x t })) := Lib.hid (by unfold foldP; rw [HP.out]; rfl)
    have CU := Lib.hid (pput (moreR w ρ 0) 5 R.bf n S.fs w1 (by decide) HR1.f x t (by omega) ht (by omega) _ (HV))
    rw [show R.g = R.g from rfl]
    have c5 : w1.cell? ⟨R.g, 5, none⟩ = some (.map (some R.bf)) := by rw [Lib.cell_of_heap HR1.cell]; rfl
    clear hb1 hv hok ht hx HR1 HV hc hb2 hb3 hxc hgl H2'
    go_wp2_with fail
    refine CU.out.mono ?_
    rintro e w2 ⟨he, hD, hK⟩
    have HN := Lib.hid (HR1'.out.newf hK hD)
    have HBB : Hid (Keep (fun b => ρ b ≠ 0 ∧ ρ b ≠ 9) w w2) := Lib.hid ((Keep.of_all HB1.out).trans (hK.weaken (fun b _ hb => by
      have h : ρ b = 5 := by rw [hb]; exact HR.out.f.1
      constructor <;> omega)))
    clear hD hK
    cases hs : (S.fs x).isSome with
    | true =>
      rw [hs] at HN HX he
      replace he : e = .returned (.int .i64 13) := he
      replace HX : Hid (foldP S ws = (13, S)) := HX
      subst he
      go_wp2
      go_ret
      rw [HX.out]
      exact ⟨rfl, HBB.out, _, _, _, _, HN.out, fun b hb => moreR_old b hb, fun e => by cases e⟩
    | false =>
      rw [hs] at HN HX he
      replace he : e = .returned (.int .i64 0) := he
      replace HX : Hid (foldP S ws = (0, { S with fs := updN S.fs x t })) := HX
      subst he
      go_wp2
      go_ret
      rw [HX.out]
      exact ⟨rfl, HBB.out, _, _, _, _, HN.out, fun b hb => moreR_old b hb, fun _ => rfl⟩
  · have HX : Hid (foldP S ws = (no, S)) := Lib.hid (foldP_no HP.out h0)
    have b1 : ((no : Int) != 0) = true := by simp; omega
    have HB := Lib.hid hb1
    clear hb1 hv
    go_wp2
    go_ret
    rw [HX.out]
    exact ⟨rfl, Keep.of_all HB.out, ρ, S, cv, kv, (HR.out.below HB.out).mono (Nat.le_succ n), fun _ _ => rfl, fun e => absurd e h0⟩

set_option maxRecDepth 100000 in
set_option maxHeartbeats 4000000 in
theorem pdecR {B0 : Nat} {ρ : Nat → Nat} {R : RdB} {line n m : Nat} {S : RdS} {cv kv : Value} (w : World) (hR : RdW B0 ρ R line n m S cv kv w) (ws : List (List UInt8)) (sv : Value) (hS : StrS sv ws w) (hz : ∀ x ∈ ws, x ≠ [] ∧ x.length ≤ 1048576) (h2 : 2 ≤ ws.length) (hE : PEnv w) (hn : n ≤ 1000000) :
    Calls Tryz.prog 55 #[.pointer (some ⟨R.g, 0, none⟩), sv] w fun e w' => RdOut B0 ρ R line (n + 2) m ((decP line) S ws).1 ((decP line) S ws).2 w e w' := by
  have CP := Lib.hid (ppoints ws sv w hS (fun x hx => (hz x hx).2) (fun e => by rw [e] at h2; simp at h2) hE)
  obtain ⟨⟨no, l⟩, hP⟩ : ∃ z, ptsP ws = z := ⟨_, rfl⟩
  rw [hP] at CP
  have HP := Lib.hid hP
  have H2 := Lib.hid h2
  clear hP hS hz h2 hE
  have HR := Lib.hid hR
  have hgl := hR.gl
  clear hR
  go_enter Tryz.func55, Tryz.ntmps55
  go_wp2_with fail
  refine CP.out.mono ?_
  rintro e w1 ⟨hb1, v, rfl, hv⟩
  by_cases h0 : no = 0
  · subst h0
    obtain ⟨b, rfl, hb2, hb3, hc⟩ := hv rfl
    have hok := ptsP_ok HP.out
    have H2' := H2.out
    cases l with
    | nil => exact absurd hok.1 (by simp; omega)
    | cons x t =>
    have ht : t ≠ [] := fun e => by rw [e] at hok; have := hok.1; simp at this; omega
    have hx : x ≤ 1114111 := valid_le (hok.2.2 x List.mem_cons_self)
    obtain ⟨HR1, HV⟩ := pts_new HR.out hb1 (List.cons_ne_nil x t) (by omega) hb2 hb3 hc
    simp only at hc hok
    have HR1' := Lib.hid HR1
    have HB1 := Lib.hid hb1
    have hxc : w1.cell? ⟨b, 0, none⟩ = some (.int .i32 (x : Nat)) := hc 0 x rfl
    have HBN := Lib.hid hb2
    obtain ⟨q, hq⟩ : ∃ q, t.length = q := ⟨_, rfl⟩
    rw [List.length_cons, hq] at HV ⊢
    have HX : Hid (decP line S ws = if (S.ds x).isSome then (13, S) else if hanP x then (1, S) else (0, { S with ds := updN S.ds x t, ls := updN S.ls x line })) := Lib.hid (by unfold decP; rw [HP.out]; rfl)
    have CU := Lib.hid (pput (moreR w ρ 0) 4 R.bd n S.ds w1 (by decide) HR1.d x t (by omega) ht (by omega) _ HV)
    have c4 : w1.cell? ⟨R.g, 4, none⟩ = some (.map (some R.bd)) := by rw [Lib.cell_of_heap HR1.cell]; rfl
    have HXC := Lib.hid hxc
    have HXX := Lib.hid hx
    have HBR : Hid (b ≠ R.bd) := Lib.hid (fun e => by have h1 : moreR w ρ 0 b = 0 := moreR_new b hb2; rw [e, HR1.d.1] at h1; cases h1)
    have CHN := Lib.hid (fun W => phan (x : Int) W)
    clear hb1 hv hok ht hx HR1 HV hc hb2 hb3 hxc hgl H2'
    go_wp2_with fail
    refine CU.out.mono ?_
    rintro e w2 ⟨he, hD, hK⟩
    have HK := Lib.hid hK
    have HBB : Hid (Keep (fun b => ρ b ≠ 0 ∧ ρ b ≠ 9) w w2) := Lib.hid ((Keep.of_all HB1.out).trans (HK.out.weaken (fun b _ hb => by
      have h : ρ b = 4 := by rw [hb]; exact HR.out.d.1
      constructor <;> omega)))
    have HN := Lib.hid (HR1'.out.newd HK.out hD)
    have hxc2 : w2.cell? ⟨b, 0, none⟩ = some (.int .i32 (x : Nat)) := hK.cell HXC.out HBR.out
    clear hD hK CU HB1
    cases hs : (S.ds x).isSome with
    | true =>
      rw [hs] at HN HX he
      replace he : e = .returned (.int .i64 13) := he
      subst he
      replace HX : Hid (decP line S ws = (13, S)) := HX
      clear hxc2
      go_wp2
      go_ret
      rw [HX.out]
      exact ⟨rfl, HBB.out, _, _, _, _, HN.out.mono (by omega), fun b hb => moreR_old b hb, fun e => by cases e⟩
    | false =>
      rw [hs] at HN HX he
      replace he : e = .returned (.int .i64 0) := he
      subst he
      replace HX : Hid (decP line S ws = if hanP x then (1, S) else (0, { S with ds := updN S.ds x t, ls := updN S.ls x line })) := HX
      replace HN : Hid (RdW B0 (moreR w ρ 0) R line (n + 1) m { S with ds := updN S.ds x t } cv kv w2) := HN
      have hpos : (0 : Int) ≤ (q : Int) := by omega
      go_wp2_with fail
      refine (CHN.out w2).mono ?_
      rintro e w3 ⟨rfl, rfl⟩
      cases hh : hanP (x : Int) with
      | true =>
        rw [hh] at HX
        replace HX : Hid (decP line S ws = (1, S)) := HX
        clear hxc2
        go_wp2
        go_ret
        rw [HX.out]
        exact ⟨rfl, HBB.out, _, _, _, _, HN.out.mono (by omega), fun b hb => moreR_old b hb, fun e => by cases e⟩
      | false =>
        rw [hh] at HX
        replace HX : Hid (decP line S ws = (0, { S with ds := updN S.ds x t, ls := updN S.ls x line })) := HX
        go_wp2_with fail
        have hkey : keyOf Tryz.prog 21 (.int .i32 (x : Nat)) = some (.int .i32 (x : Nat)) := keyOf_int_mk Tryz.underlying21 (WalkArith.wf_i32 (n := (x : Int)) ⟨by omega, by have := HXX.out; omega⟩)
        have hcell := HN.out.cell
        have hf6 : ∀ X : World, (Instr.fieldAt 59 (.pointer (some ⟨R.g, 0, none⟩)) 6).run Tryz.prog X = .ok (.pointer (some ⟨R.g, 6, none⟩)) X := fun X => by go_simp
        have hf1 : ∀ X : World, (Instr.fieldAt 59 (.pointer (some ⟨R.g, 0, none⟩)) 1).run Tryz.prog X = .ok (.pointer (some ⟨R.g, 1, none⟩)) X := fun X => by go_simp
        have hlb : ∀ X : World, X = w3.drew → (Instr.loadAt 57 (.pointer (some ⟨R.g, 6, none⟩))).run Tryz.prog X = .ok (.map (some R.bl)) X := fun X h => by
          subst h
          have c1 : w3.drew.cell? ⟨R.g, 6, none⟩ = some (.map (some R.bl)) := by rw [Lib.cell_of_heap (w := w3.drew) hcell]; rfl
          go_simp
        have hll : ∀ X : World, X = w3.drew → (Instr.loadAt 3 (.pointer (some ⟨R.g, 1, none⟩))).run Tryz.prog X = .ok (.int .i64 (line : Nat)) X := fun X h => by
          subst h
          have c1 : w3.drew.cell? ⟨R.g, 1, none⟩ = some (.int .i64 (line : Nat)) := by rw [Lib.cell_of_heap (w := w3.drew) hcell]; rfl
          go_simp
        have hlx : ∀ X : World, X = w3.drew → (Instr.loadAt 21 (.pointer (some ⟨b, 0, none⟩))).run Tryz.prog X = .ok (.int .i32 (x : Nat)) X := fun X h => by
          subst h
          have c1 : w3.drew.cell? ⟨b, 0, none⟩ = some (.int .i32 (x : Nat)) := hxc2
          go_simp
        have hix : ∀ X : World, (Instr.indexAt 22 (.slice (some ⟨b, 0, none⟩) (q + 1) (q + 1)) (.int .i64 0)).run Tryz.prog X = .ok (.pointer (some ⟨b, 0, none⟩)) X := fun X => by
          have q1 : ¬ (q : Int) + 1 ≤ 0 := by omega
          go_simp
        obtain ⟨w4, hr2, hM2, hK2⟩ := (HN.out.l.2.keep (Keep.refl (fun _ => False) w3).drew (fun h => h)).put (int_keyed Tryz.underlying21) Tryz.underlying57 (by unfold maxLen; omega) (val := .int .i64 (line : Nat)) hkey
        have hmu : ∀ X : World, X = w3.drew → (Instr.mapUpdate 57 (.map (some R.bl)) (.int .i32 (x : Nat)) (.int .i64 (line : Nat))).run Tryz.prog X = .ok () w4 := fun X h => by
          subst h
          exact hr2
        have HKW := Lib.hid (Keep.trans (Keep.refl (fun b => b = R.bl) w3).drew hK2)
        have HLM : Hid (MapG Tryz.prog 21 R.bl (n + 1 + 1) (ptF (lsV (updN S.ls x line))) w4) := Lib.hid (hM2.congr (fun kl hkl => by
          rw [ptF_put _ _ _ _ hkl]
          congr 1
          funext y
          unfold lsV updN
          by_cases e : y = x
          · rw [if_pos e, if_pos e]; rfl
          · rw [if_neg e, if_neg e]))
        clear hkey hcell hr2 hM2 hK2 hxc2 hpos
        obtain ⟨FF, hFF⟩ : ∃ FF : StoR, FF = ⟨w3.drew, w4, 11, fun z => match z with | 0 => some (.pointer (some ⟨R.g, 0, none⟩)) | 1 => some (.pointer (some ⟨R.g, 0, none⟩)) | 2 => some (.pointer (some ⟨R.g, 6, none⟩)) | 3 => some (.map (some R.bl)) | 4 => some (.slice (some ⟨b, 0, none⟩) (q + 1) (q + 1)) | 5 => some (.pointer (some ⟨b, 0, none⟩)) | 6 => some (.int .i32 (x : Nat)) | 7 => some (.pointer (some ⟨R.g, 0, none⟩)) | 8 => some (.pointer (some ⟨R.g, 0, none⟩)) | 9 => some (.pointer (some ⟨R.g, 1, none⟩)) | 10 => some (.int .i64 (line : Nat)) | _ => none⟩ := ⟨_, rfl⟩
        have H0 : StoR.S FF (fun _ => false) w3.drew := by rw [hFF]; exact fun _ => rfl
        refine wp_region_done (StoR.S FF) (StoR.P FF) (by kernel_rfl) (by kernel_rfl) (by kernel_rfl) H0 ?hs ?hd
        case hs =>
          rw [hFF]
          refine DSteps.cons ?_ (DSteps.cons ?_ (DSteps.cons ?_ (DSteps.cons ?_ (DSteps.cons ?_ (DSteps.cons ?_ (DSteps.cons ?_ (DSteps.cons ?_ (DSteps.cons ?_ (DSteps.cons ?_ (DSteps.cons ?_ (DSteps.cons ?_ (DSteps.nil))))))))))))
          · intro D2 a X9 hDi hDa _ hX hL hd
            refine ⟨rfl, ?_⟩
            have e0 : a.eval (.tmp 0) = .pointer (some ⟨R.g, 0, none⟩) := hL.far 0 (by kernel_rfl)
            exact wp_value (exec_move rfl e0) ⟨_, rfl, hX.more, fun _ _ _ h => h, StoR.P.mk rfl (by simp)⟩
          · intro D2 a X9 hDi hDa _ hX hL hd
            refine ⟨rfl, ?_⟩
            have e0 : a.eval (.tmp 29) = .pointer (some ⟨R.g, 0, none⟩) := (hd 0 29 (by kernel_rfl) (by kernel_rfl)).is rfl
            exact wp_value (exec_nilCheck rfl e0) ⟨_, rfl, hX.more, fun _ _ _ h => h, StoR.P.mk rfl (by simp)⟩
          · intro D2 a X9 hDi hDa _ hX hL hd
            refine ⟨rfl, ?_⟩
            have e0 : a.eval (.tmp 30) = .pointer (some ⟨R.g, 0, none⟩) := (hd 1 30 (by kernel_rfl) (by kernel_rfl)).is rfl
            exact wp_value (exec_fieldAddr rfl e0 (hf6 X9)) ⟨_, rfl, hX.more, fun _ _ _ h => h, StoR.P.mk rfl (by simp)⟩
          · intro D2 a X9 hDi hDa _ hX hL hd
            refine ⟨rfl, ?_⟩
            have e0 : a.eval (.tmp 31) = .pointer (some ⟨R.g, 6, none⟩) := (hd 2 31 (by kernel_rfl) (by kernel_rfl)).is rfl
            exact wp_value (exec_load rfl e0 (hlb X9 (hX (hDa 11 (by kernel_rfl))))) ⟨_, rfl, hX.more, fun _ _ _ h => h, StoR.P.mk rfl (by simp)⟩
          · intro D2 a X9 hDi hDa _ hX hL hd
            refine ⟨rfl, ?_⟩
            have e0 : a.eval (.tmp 5) = .slice (some ⟨b, 0, none⟩) (q + 1) (q + 1) := hL.far 5 (by kernel_rfl)
            exact wp_value (exec_move rfl e0) ⟨_, rfl, hX.more, fun _ _ _ h => h, StoR.P.mk rfl (by simp)⟩
          · intro D2 a X9 hDi hDa _ hX hL hd
            refine ⟨rfl, ?_⟩
            have e0 : a.eval (.tmp 33) = .slice (some ⟨b, 0, none⟩) (q + 1) (q + 1) := (hd 4 33 (by kernel_rfl) (by kernel_rfl)).is rfl
            exact wp_value (exec_indexAddr rfl e0 rfl (hix X9)) ⟨_, rfl, hX.more, fun _ _ _ h => h, StoR.P.mk rfl (by simp)⟩
          · intro D2 a X9 hDi hDa _ hX hL hd
            refine ⟨rfl, ?_⟩
            have e0 : a.eval (.tmp 34) = .pointer (some ⟨b, 0, none⟩) := (hd 5 34 (by kernel_rfl) (by kernel_rfl)).is rfl
            exact wp_value (exec_load rfl e0 (hlx X9 (hX (hDa 11 (by kernel_rfl))))) ⟨_, rfl, hX.more, fun _ _ _ h => h, StoR.P.mk rfl (by simp)⟩
          · intro D2 a X9 hDi hDa _ hX hL hd
            refine ⟨rfl, ?_⟩
            have e0 : a.eval (.tmp 0) = .pointer (some ⟨R.g, 0, none⟩) := hL.far 0 (by kernel_rfl)
            exact wp_value (exec_move rfl e0) ⟨_, rfl, hX.more, fun _ _ _ h => h, StoR.P.mk rfl (by simp)⟩
          · intro D2 a X9 hDi hDa _ hX hL hd
            refine ⟨rfl, ?_⟩
            have e0 : a.eval (.tmp 36) = .pointer (some ⟨R.g, 0, none⟩) := (hd 7 36 (by kernel_rfl) (by kernel_rfl)).is rfl
            exact wp_value (exec_nilCheck rfl e0) ⟨_, rfl, hX.more, fun _ _ _ h => h, StoR.P.mk rfl (by simp)⟩
          · intro D2 a X9 hDi hDa _ hX hL hd
            refine ⟨rfl, ?_⟩
            have e0 : a.eval (.tmp 37) = .pointer (some ⟨R.g, 0, none⟩) := (hd 8 37 (by kernel_rfl) (by kernel_rfl)).is rfl
            exact wp_value (exec_fieldAddr rfl e0 (hf1 X9)) ⟨_, rfl, hX.more, fun _ _ _ h => h, StoR.P.mk rfl (by simp)⟩
          · intro D2 a X9 hDi hDa _ hX hL hd
            refine ⟨rfl, ?_⟩
            have e0 : a.eval (.tmp 38) = .pointer (some ⟨R.g, 1, none⟩) := (hd 9 38 (by kernel_rfl) (by kernel_rfl)).is rfl
            exact wp_value (exec_load rfl e0 (hll X9 (hX (hDa 11 (by kernel_rfl))))) ⟨_, rfl, hX.more, fun _ _ _ h => h, StoR.P.mk rfl (by simp)⟩
          · intro D2 a X9 hDi hDa _ hX hL hd
            refine ⟨rfl, ?_⟩
            have e0 : a.eval (.tmp 32) = .map (some R.bl) := (hd 3 32 (by kernel_rfl) (by kernel_rfl)).is rfl
            have e1 : a.eval (.tmp 35) = .int .i32 (x : Nat) := (hd 6 35 (by kernel_rfl) (by kernel_rfl)).is rfl
            have e2 : a.eval (.tmp 39) = .int .i64 (line : Nat) := (hd 10 39 (by kernel_rfl) (by kernel_rfl)).is rfl
            exact wp_skipped (exec_mapUpdate rfl e0 e1 e2 (hmu X9 (hX hDi))) ⟨undef, rfl, StoR.S.store, fun k2 u hj h => h.store (fun e => by subst e; rw [hDi] at hj; cases hj), StoR.P.last rfl rfl⟩
        case hd =>
          intro D2 a X9 hAll hX hL hP hE
          obtain ⟨_, hp⟩ := hE 11 (by decide)
          rw [hFF] at hp
          have hX9 : X9 = w4 := hp.2 rfl
          obtain ⟨f, ha, hf⟩ := hL.out [29, 30, 31, 32, 33, 34, 35, 36, 37, 38, 39] rfl
          clear hf hAll hP hX hL hE hp hFF H0 hf6 hlb hix hlx hf1 hll hmu
          simp only [List.foldl_cons, List.foldl_nil, List.setIfInBounds_toArray, List.set_cons_zero, List.set_cons_succ] at ha
          subst ha
          subst hX9
          go_wp2
          go_ret
          rw [HX.out]
          have H9 := (HN.out.mono (Nat.le_succ (n + 1))).newl HKW.out HLM.out
          exact ⟨rfl, HBB.out.trans (HKW.out.weaken (fun b _ hb => by
            have h : ρ b = 6 := by rw [hb]; exact HR.out.l.1
            constructor <;> omega)), _, _, _, _, H9, fun b hb => moreR_old b hb, fun _ => rfl⟩
  · have HX : Hid (decP line S ws = (no, S)) := Lib.hid (decP_no HP.out h0)
    have b1 : ((no : Int) != 0) = true := by simp; omega
    have HB := Lib.hid hb1
    clear hb1 hv
    go_wp2
    go_ret
    rw [HX.out]
    exact ⟨rfl, Keep.of_all HB.out, ρ, S, cv, kv, (HR.out.below HB.out).mono (by omega), fun _ _ => rfl, fun e => absurd e h0⟩
end Go.Proofs.YtdmimdiffjpjpaaGreatDoor
