/- Parts of the proof of what the last text says. -/
import Derived.Test.YtcfhblbmpbfoaaaGreatDoorGv9
import Derived.Test.YtcfhblbmpbfoaaaGreatDoorGv8
import Derived.Maps.Own
namespace Go.Proofs.YtcfhblbmpbfoaaaGreatDoor
open Go Go.RowKit Go.Kt Go.Kt.Rg Go.Maps

def partsP (n : Nat) : List Nat := [4352 + n / 28 / 21, 4449 + n / 28 % 21] ++ if n % 28 = 0 then [] else [4519 + n % 28]

theorem own_full (w : World) (xs : List Value) (e : TypeId) (hm : xs.length ≤ maxLen) : OwnS (fun b => b = w.heap.size) e 1 (.slice (some ⟨w.heap.size, 0, none⟩) xs.length xs.length) xs.length xs (w.alloc (.cells xs.toArray e)) :=
  ⟨⟨by simp, .inr ⟨w.heap.size, xs.length, xs.toArray, rfl, Nat.zero_le _, heap_alloc_new w _, Nat.le_refl _, hm, by simp, by simp⟩⟩, fun b hb => by simp [Value.ownBlock] at hb; exact hb.symm⟩
set_option maxRecDepth 100000 in
set_option maxHeartbeats 2000000 in
theorem pparts (n : Nat) (hn : n < 11172) (w : World) : Calls Tryz.prog 111 #[.int .i32 (44032 + (n : Nat))] w fun e w' => ∃ ao cp, e = .returned (.slice ao (partsP n).length cp) ∧ OwnS (fun b => w.heap.size ≤ b) 21 1 (.slice ao (partsP n).length cp) (partsP n).length (encN (partsP n)) w' ∧ Below w.heap.size w w' := by
  have e1 : IntKind.i32.wrap ((44032 + (n : Int)) - 44032) = n := by rw [IntWalk.i32_in _ (by omega)]; omega
  obtain ⟨h, hh⟩ : ∃ h, w.heap.size = h := ⟨_, rfl⟩
  obtain ⟨W1, hW1⟩ : ∃ W1, w.alloc (.cells #[.int .i32 (4352 + (n : Int) / 28 / 21), .int .i32 (4449 + (n : Int) / 28 % 21)] 21) = W1 := ⟨_, rfl⟩
  have ho := own_full w [.int .i32 (4352 + (n : Int) / 28 / 21), .int .i32 (4449 + (n : Int) / 28 % 21)] 21 (by show 2 ≤ maxLen; decide)
  replace ho : OwnS (fun b => b = h) 21 1 (.slice (some ⟨h, 0, none⟩) 2 2) 2 [.int .i32 (4352 + (n : Int) / 28 / 21), .int .i32 (4449 + (n : Int) / 28 % 21)] W1 := by
    rw [hh] at ho
    rw [← hW1]
    exact ho
  have hb1 : Below h w W1 := by rw [← hW1, ← hh]; exact (Below.refl _ w).alloc (Nat.le_refl _) _
  have hz1 : W1.heap.size = h + 1 := by rw [← hW1, ← hh]; exact Array.size_push _
  have HB := Lib.hid (And.intro hb1 (And.intro ho hz1))
  by_cases hc : n % 28 = 0
  · have HP : Hid (partsP n = [4352 + n / 28 / 21, 4449 + n / 28 % 21]) := Lib.hid (by unfold partsP; rw [if_pos hc]; rfl)
    have q0 : ((n : Int) % 28 != 0) = false := by
      have : (n : Int) % 28 = 0 := by omega
      rw [this]; rfl
    rw [HP.out]
    clear hc ho hb1 hz1
    go_enter Tryz.func111, Tryz.ntmps111
    go_wp2
    go_ret
    rw [hh]
    exact ⟨some ⟨h, 0, none⟩, 2, rfl, HB.out.2.1.weaken (fun b hb => by omega), HB.out.1⟩
  · have HP : Hid (partsP n = [4352 + n / 28 / 21, 4449 + n / 28 % 21] ++ [4519 + n % 28]) := Lib.hid (by unfold partsP; rw [if_neg hc])
    have q0 : ((n : Int) % 28 != 0) = true := by
      simp only [bne_iff_ne, ne_eq]
      omega
    obtain ⟨g, cap, w3, hrun, hown3, hk3, hg3, hz3⟩ := append_x (P := Tryz.prog) W1 22 21 Tryz.underlying22 tinfoI32 rfl (by omega) ho [.int .i32 (4520 + (n : Int) % 28 - 1)] rfl
      (by intro u hu; simp at hu; rcases hu with rfl; rfl) (by unfold maxLen; omega) (by omega)
    have hgg : h ≤ g := by
      rcases hg3 with hx | hx
      · simp [Value.ownBlock] at hx; omega
      · omega
    have HRun := Lib.hid hrun
    have H3 := Lib.hid (And.intro hown3 (And.intro (hb1.trans (hk3.below (by omega) (fun b hb => by simp [Value.ownBlock] at hb; omega))) hgg))
    have HZ := Lib.hid hz1
    rw [HP.out]
    clear hc ho hb1 hz1 hrun hown3 hk3 hg3 hz3 hgg
    go_enter Tryz.func111, Tryz.ntmps111
    go_wp2_with (at_builtin; refine wpList_append_eq rfl rfl rfl rfl HRun.out ?_)
    go_ret
    rw [hh]
    have e : encN [4352 + n / 28 / 21, 4449 + n / 28 % 21, 4519 + n % 28] = [.int .i32 (4352 + (n : Int) / 28 / 21), .int .i32 (4449 + (n : Int) / 28 % 21)] ++ [.int .i32 (4520 + (n : Int) % 28 - 1)] := by
      simp [encN]
      omega
    rw [e]
    exact ⟨some ⟨g, 0, none⟩, cap, rfl, H3.out.1.weaken (fun b hb => by have := H3.out.2.2; omega), H3.out.2.1⟩
end Go.Proofs.YtcfhblbmpbfoaaaGreatDoor
namespace Go.Proofs.YtcfhblbmpbfoaaaGreatDoor
open Go Go.RowKit Go.Kt Go.Kt.Rg Go.Maps

abbrev LeT := Nat → Option Int
def lenL (g : LeT → Nat → Int × LeT) (x : Nat) : List Nat → Int → LeT → Int × LeT
  | [], sum, le => (sum, updN le x sum)
  | y :: t, sum, le => if (g le y).1 = -1 then (-1, (g le y).2) else lenL g x t (min (sum + (g le y).1) 9) (g le y).2
def lenF (ds : Nat → Option (List Nat)) : Nat → LeT → Nat → Int × LeT
  | 0, le, _ => (0, le)
  | f + 1, le, x => if sylP x then (((partsP (x - 44032)).length : Nat), le) else
    match ds x with
    | none => (1, le)
    | some own => match le x with
      | some n => (n, le)
      | none => lenL (lenF ds f) x own 0 (updN le x (-1))
def LeOk (le : LeT) : Prop := ∀ y v, le y = some v → -1 ≤ v ∧ v ≤ 9
theorem LeOk.upd {le : LeT} (h : LeOk le) {x : Nat} {v : Int} (h1 : -1 ≤ v) (h9 : v ≤ 9) : LeOk (updN le x v) := fun y u hu => by
  unfold updN at hu
  by_cases e : y = x
  · rw [if_pos e] at hu; cases hu; exact ⟨h1, h9⟩
  · rw [if_neg e] at hu; exact h y u hu
def LeLe (le le' : LeT) : Prop := ∀ y, (le y).isSome = true → (le' y).isSome = true
theorem LeLe.upd (le : LeT) (x : Nat) (v : Int) : LeLe le (updN le x v) := fun y h => by
  unfold updN
  by_cases e : y = x
  · rw [if_pos e]; rfl
  · rw [if_neg e]; exact h
theorem lenL_ok {g : LeT → Nat → Int × LeT} (hg : ∀ le y, LeOk le → (-1 ≤ (g le y).1 ∧ (g le y).1 ≤ 9) ∧ LeOk (g le y).2 ∧ LeLe le (g le y).2) (x : Nat) : ∀ (l : List Nat) (sum : Int) (le : LeT), 0 ≤ sum → sum ≤ 9 → LeOk le →
    (-1 ≤ (lenL g x l sum le).1 ∧ (lenL g x l sum le).1 ≤ 9) ∧ LeOk (lenL g x l sum le).2 ∧ LeLe le (lenL g x l sum le).2
  | [], sum, le, h0, h9, hl => ⟨⟨by simp [lenL]; omega, by simp [lenL]; omega⟩, LeOk.upd hl (by omega) h9, LeLe.upd _ _ _⟩
  | y :: t, sum, le, h0, h9, hl => by
    obtain ⟨h1, h2, h3⟩ := hg le y hl
    rw [lenL]
    by_cases e : (g le y).1 = -1
    · rw [if_pos e]
      exact ⟨⟨by simp, by simp⟩, h2, h3⟩
    · rw [if_neg e]
      have h4 := lenL_ok hg x t (min (sum + (g le y).1) 9) (g le y).2 (by omega) (by omega) h2
      exact ⟨h4.1, h4.2.1, fun z hz => h4.2.2 z (h3 z hz)⟩
theorem lenF_ok (ds : Nat → Option (List Nat)) : ∀ (f : Nat) (le : LeT) (x : Nat), LeOk le → (-1 ≤ (lenF ds f le x).1 ∧ (lenF ds f le x).1 ≤ 9) ∧ LeOk (lenF ds f le x).2 ∧ LeLe le (lenF ds f le x).2
  | 0, le, x, h => ⟨⟨by simp [lenF], by simp [lenF]⟩, h, fun _ h => h⟩
  | f + 1, le, x, h => by
    rw [lenF]
    split
    · refine ⟨⟨by omega, ?_⟩, h, fun _ h => h⟩
      have : (partsP (x - 44032)).length ≤ 3 := by unfold partsP; split <;> simp
      omega
    · split
      · exact ⟨⟨by omega, by omega⟩, h, fun _ h => h⟩
      · split
        · rename_i n hn
          exact ⟨h x n hn, h, fun _ h => h⟩
        · rename_i own hown _ hnone
          have := lenL_ok (fun le y h => lenF_ok ds f le y h) x own 0 (updN le x (-1)) (by omega) (by omega) (h.upd (x := x) (v := -1) (by omega) (by omega))
          exact ⟨this.1, this.2.1, fun y hy => this.2.2 y (LeLe.upd _ _ _ y hy)⟩
def unk (L : List Nat) (le : LeT) : Nat := (L.filter fun x => (le x).isNone).length
theorem unk_mono (L : List Nat) {le le' : LeT} (h : LeLe le le') : unk L le' ≤ unk L le := by
  unfold unk
  rw [← List.countP_eq_length_filter, ← List.countP_eq_length_filter]
  refine List.countP_mono_left fun x _ hx => ?_
  cases hl : le x with
  | none => rfl
  | some v =>
    have := h x (by rw [hl]; rfl)
    rw [Option.isNone_iff_eq_none] at hx
    rw [hx] at this
    cases this
theorem unk_upd (L : List Nat) {le : LeT} {x : Nat} (hx : x ∈ L) (h : le x = none) (v : Int) : unk L (updN le x v) + 1 ≤ unk L le := by
  induction L with
  | nil => cases hx
  | cons y t ih =>
    by_cases e : y = x
    · subst e
      have h1 := unk_mono t (LeLe.upd le y v)
      unfold unk at h1 ⊢
      rw [List.filter_cons_of_neg (by simp [updN]), List.filter_cons_of_pos (by rw [h]; rfl)]
      simp only [List.length_cons]
      omega
    · have h2 := ih (by rcases List.mem_cons.1 hx with h | h; exact absurd h.symm e; exact h)
      have e2 : updN le x v y = le y := if_neg e
      unfold unk at h2 ⊢
      simp only [List.filter_cons, e2]
      split
      · simp only [List.length_cons]; omega
      · exact h2

section
variable {B0 : Nat} {ρ : Nat → Nat} {R : RdB} {line n m m' : Nat} {S : RdS} {cv kv : Value} {w w' : World}
theorem RdW.newe (h : RdW B0 ρ R line n m S cv kv w) {le' : LeT} (hk : Keep (fun b => b = R.bn) w w') (hf : MapG Tryz.prog 21 R.bn m' (ptF (leV le')) w') : RdW B0 ρ R line n m' { S with le := le' } cv kv w' := by
  have H := h
  have hX : ∀ b, b = R.bn → ρ b = 7 := fun b e => by rw [e]; exact h.e.1
  exact {
    hr := H.hr, hB := Nat.le_trans h.hB hk.size, g := H.g, cell := hk.heap H.cell (fun e => by have := hX _ e; have := H.g; omega)
    c := H.c.keep hk (fun b hb h3 => by have := hX b hb; omega)
    k := H.k.keep hk (fun b hb h3 => by have := hX b hb; omega)
    f := H.f.keep hk (fun b hb => by have := hX b hb; omega)
    d := H.d.keep hk (fun b hb => by have := hX b hb; omega)
    e := ⟨H.e.1, hf⟩
    l := ⟨H.l.1, H.l.2.keep hk (fun hb => by have := hX _ hb; have := H.l.1; omega)⟩
    s := ⟨H.s.1, H.s.2.keep hk (fun hb => by have := hX _ hb; have := H.s.1; omega)⟩ }
end
def LenOut (B0 : Nat) (ρ : Nat → Nat) (R : RdB) (line n m : Nat) (L : List Nat) (S : RdS) (cv kv : Value) (r : Int × LeT) (w : World) (e : Ending) (w' : World) : Prop :=
  e = .returned (.int .i64 r.1) ∧ (∃ m', RdW B0 ρ R line n m' { S with le := r.2 } cv kv w' ∧ m' + 2 * unk L r.2 ≤ m + 2 * unk L S.le) ∧ Keep (fun b => b = R.bn) w w'
end Go.Proofs.YtcfhblbmpbfoaaaGreatDoor
namespace Go.Proofs.YtcfhblbmpbfoaaaGreatDoor
open Go Go.RowKit Go.Kt Go.Kt.Rg Go.Maps

theorem leV_put (le : LeT) (x : Nat) (v : Int) (kl : Lit) (hk : WideAt.IsKeyLit kl) : putF (ptF (leV le)) (.int .i32 (x : Int)) (.int .i64 v) kl = ptF (leV (updN le x v)) kl := by
  rw [ptF_put _ _ _ _ hk]
  congr 1
  funext y
  unfold leV updN
  by_cases e : y = x
  · rw [if_pos e, if_pos e]; rfl
  · rw [if_neg e, if_neg e]

def LenI (B0 : Nat) (ρ : Nat → Nat) (R : RdB) (line n m : Nat) (L : List Nat) (S : RdS) (cv kv : Value) (g : LeT → Nat → Int × LeT) (x : Nat) (own : List Nat) (le1 : LeT) (R0 : Int × LeT) (w : World) (i : Nat) (sum : Int) (wr : World) : Prop :=
  i ≤ own.length ∧ (0 ≤ sum ∧ sum ≤ 9) ∧ Keep (fun b => b = R.bn) w wr ∧ ∃ (le : LeT) (mi : Nat), LeOk le ∧ LeLe le1 le ∧ RdW B0 ρ R line n mi { S with le := le } cv kv wr ∧ mi + 2 * unk L le ≤ m + 1 + 2 * unk L le1 ∧ lenL g x (own.drop i) sum le = R0

set_option maxRecDepth 100000 in
set_option maxHeartbeats 4000000 in
theorem plen {B0 : Nat} {R : RdB} {line n : Nat} (L : List Nat) : ∀ (f : Nat) (w : World) (ρ : Nat → Nat) (m : Nat) (S : RdS) (cv kv : Value) (x : Nat), RdW B0 ρ R line n m S cv kv w → (∀ y, (S.ds y).isSome = true → y ∈ L) → (∀ y l, S.ds y = some l → l.length ≤ 9 ∧ ∀ z ∈ l, z ≤ 1114111) →
    LeOk S.le → unk L S.le < f → x ≤ 1114111 → m + 2 * unk L S.le ≤ 1099511627776 →
    Calls Tryz.prog 104 #[.pointer (some ⟨R.g, 0, none⟩), .int .i32 (x : Nat)] w fun e w' => LenOut B0 ρ R line n m L S cv kv (lenF S.ds f S.le x) w e w'
  | 0, w, ρ, m, S, cv, kv, x, hR, hL, hds, hle, hu, hx, hm => by omega
  | f + 1, w, ρ, m, S, cv, kv, x, hR, hL, hds, hle, hu, hx, hm => by
    have HR := Lib.hid hR
    have HL := Lib.hid (And.intro hL (And.intro hds (And.intro hle (And.intro hu hm))))
    have CS := Lib.hid (psyl (x : Int) w)
    cases hsy : sylP (x : Int) with
    | true =>
      have hr : 44032 ≤ (x : Int) ∧ (x : Int) < 55204 := by simpa [sylP] using hsy
      have HX : Hid (lenF S.ds (f + 1) S.le x = ((((partsP (x - 44032)).length : Nat) : Int), S.le)) := Lib.hid (by rw [lenF]; exact if_pos hsy)
      have hxx : (44032 + ((x - 44032 : Nat) : Int)) = (x : Int) := by omega
      have CP := pparts (x - 44032) (by omega) w
      rw [hxx] at CP
      have CP := Lib.hid CP
      rw [hsy] at CS
      obtain ⟨k, hk⟩ : ∃ k, (partsP (x - 44032)).length = k := ⟨_, rfl⟩
      rw [hk] at CP HX
      clear hR hL hds hle hu hm hsy hr hxx hk
      go_enter Tryz.func104, Tryz.ntmps104
      go_wp2_with fail
      refine CS.out.mono ?_
      rintro e w1 ⟨rfl, rfl⟩
      go_wp2_with fail
      refine CP.out.mono ?_
      rintro e w2 ⟨ao, cp, rfl, ho, hb⟩
      have HB := Lib.hid hb
      clear ho hb
      go_wp2
      go_ret
      unfold LenOut
      rw [HX.out]
      exact ⟨rfl, ⟨m, HR.out.below HB.out, Nat.le_refl _⟩, Keep.of_all HB.out⟩
    | false =>
      rw [hsy] at CS
      have c4 : w.cell? ⟨R.g, 4, none⟩ = some (.map (some R.bd)) := by rw [Lib.cell_of_heap hR.cell]; rfl
      have c7 : w.cell? ⟨R.g, 7, none⟩ = some (.map (some R.bn)) := by rw [Lib.cell_of_heap hR.cell]; rfl
      have hkey : keyOf Tryz.prog 21 (.int .i32 (x : Nat)) = some (.int .i32 (x : Nat)) := keyOf_int_mk Tryz.underlying21 (WalkArith.wf_i32 (n := (x : Int)) ⟨by omega, by omega⟩)
      obtain ⟨hB, vs, hM, hs, hp⟩ := hR.d
      have hl1 := hM.look (int_keyed Tryz.underlying21) Tryz.underlying89 (z := .slice none 0 0) rfl hkey
      have hl2 := hR.e.2.look (int_keyed Tryz.underlying21) Tryz.underlying90 (z := .int .i64 0) rfl hkey
      rw [ptF_at] at hl1 hl2
      have hsx := hs x
      cases hd : S.ds x with
      | none =>
        have HX : Hid (lenF S.ds (f + 1) S.le x = (1, S.le)) := Lib.hid (by rw [lenF, if_neg (by rw [hsy]; exact fun h => by cases h), hd])
        have hv : vs x = none := by rw [hd] at hsx; cases h : vs x with | none => rfl | some u => rw [h] at hsx; cases hsx
        rw [hv] at hl1
        replace hl1 : (Instr.lookup 89 (.map (some R.bd)) (.int .i32 (x : Nat)) true).run Tryz.prog w = .ok (.tuple #[.slice none 0 0, .bool false]) w := hl1
        clear hR hL hds hle hu hm hsy hl2 hsx hs hp hM hB hkey hv hd c7
        go_enter Tryz.func104, Tryz.ntmps104
        go_wp2_with fail
        refine CS.out.mono ?_
        rintro e w1 ⟨rfl, rfl⟩
        go_wp2
        go_ret
        unfold LenOut
        rw [HX.out]
        exact ⟨rfl, ⟨m, HR.out, Nat.le_refl _⟩, Keep.refl _ _⟩
      | some own =>
        obtain ⟨v, hv⟩ : ∃ v, vs x = some v := by rw [hd] at hsx; cases h : vs x with | none => rw [h] at hsx; cases hsx | some u => exact ⟨u, rfl⟩
        rw [hv] at hl1
        obtain ⟨b, off, cap, hvv, hcap, hcap2, hb0, hbl, hcl⟩ := hp x v own hv hd
        subst hvv
        replace hl1 : (Instr.lookup 89 (.map (some R.bd)) (.int .i32 (x : Nat)) true).run Tryz.prog w = .ok (.tuple #[.slice (some ⟨b, off, none⟩) own.length cap, .bool true]) w := hl1
        cases hn : S.le x with
        | some z =>
          have HX : Hid (lenF S.ds (f + 1) S.le x = (z, S.le)) := Lib.hid (by rw [lenF, if_neg (by rw [hsy]; exact fun h => by cases h), hd, hn])
          have hvn : leV S.le x = some (.int .i64 z) := by unfold leV; rw [hn]; rfl
          rw [hvn] at hl2
          replace hl2 : (Instr.lookup 90 (.map (some R.bn)) (.int .i32 (x : Nat)) true).run Tryz.prog w = .ok (.tuple #[.int .i64 z, .bool true]) w := hl2
          clear hR hL hds hle hu hm hsy hsx hs hp hM hB hkey hv hd hn hvn hcl hb0 hbl hcap hcap2
          go_enter Tryz.func104, Tryz.ntmps104
          go_wp2_with fail
          refine CS.out.mono ?_
          rintro e w1 ⟨rfl, rfl⟩
          go_wp2
          go_ret
          unfold LenOut
          rw [HX.out]
          exact ⟨rfl, ⟨m, HR.out, Nat.le_refl _⟩, Keep.refl _ _⟩
        | none =>
          have HX : Hid (lenF S.ds (f + 1) S.le x = lenL (lenF S.ds f) x own 0 (updN S.le x (-1))) := Lib.hid (by rw [lenF, if_neg (by rw [hsy]; exact fun h => by cases h), hd, hn])
          have hvn : leV S.le x = none := by unfold leV; rw [hn]; rfl
          rw [hvn] at hl2
          replace hl2 : (Instr.lookup 90 (.map (some R.bn)) (.int .i32 (x : Nat)) true).run Tryz.prog w = .ok (.tuple #[.int .i64 0, .bool false]) w := hl2
          have hol := hds x own hd
          have hun := unk_upd L (hL x (by rw [hd]; rfl)) hn (-1)
          have HCL : Hid (∀ (i : Nat) (y : Nat), own[i]? = some y → w.cell? ⟨b, off + i, none⟩ = some (.int .i32 (y : Nat))) := Lib.hid hcl
          have HBN : Hid (b ≠ R.bn) := Lib.hid (fun e => by rw [e, hR.e.1] at hb0; cases hb0)
          obtain ⟨R0, hR0⟩ : ∃ R0, lenL (lenF S.ds f) x own 0 (updN S.le x (-1)) = R0 := ⟨_, rfl⟩
          rw [hR0] at HX
          obtain ⟨k, hk⟩ : ∃ k, own.length = k := ⟨_, rfl⟩
          rw [hk] at hl1 hcap
          have hk9 : k ≤ 9 := by rw [← hk]; exact hol.1
          have hE := hR.e.2
          have HOL := Lib.hid (And.intro hol (And.intro hun (And.intro hR0 hk)))
          clear hR hL hds hle hu hsy hsx hs hp hM hB hv hd hn hvn hcl hb0 hbl hcap2 hol hun hR0 hk
          go_enter Tryz.func104, Tryz.ntmps104
          go_wp2_with fail
          refine CS.out.mono ?_
          rintro e w1 ⟨rfl, rfl⟩
          go_wp2_with (first | (at_mapUpdate; refine wpList_put _ rfl _ _ _ 90 rfl 21 _ (int_keyed Tryz.underlying21) Tryz.underlying90 R.bn m (ptF (leV S.le)) rfl hE (by unfold maxLen; omega) _ _ _ rfl rfl hkey ?_; intro w2 hm2 hk2) | fail)
          have hm3 : MapG Tryz.prog 21 R.bn (m + 1) (ptF (leV (updN S.le x (-1)))) w2 := MapG.congr hm2 (leV_put S.le x (-1))
          have HL0 : Hid (LenI B0 ρ R line n m L S cv kv (lenF S.ds f) x own (updN S.le x (-1)) R0 w1 0 0 w2) := Lib.hid ⟨Nat.zero_le _, ⟨by omega, by omega⟩, hk2, _, m + 1, LeOk.upd HL.out.2.2.1 (by omega) (by omega), fun _ h => h, HR.out.newe hk2 hm3, Nat.le_refl _, HOL.out.2.2.1⟩
          clear hm2 hm3 hk2 hE hl1 hl2 c4 c7 CS
          go_loopw [9, 47] (fun s j wr => ∃ (i : Nat) (sum : Int), s = .int .i64 sum ∧ j = .int .i64 i ∧ LenI B0 ρ R line n m L S cv kv (lenF S.ds f) x own (updN S.le x (-1)) R0 w1 i sum wr)
            (fun _ j _ => k - (RowKit.intOf j).toNat)
          case atStart => exact ⟨0, 0, rfl, rfl, HL0.out⟩
          case round =>
            obtain ⟨i, sum, rfl, rfl, hI⟩ := hrel
            obtain ⟨hik, hsum, hkw, le, mi, hlo, hll, hRi, hmi, hR0⟩ := hI
            rw [HOL.out.2.2.2] at hik
            have HI := Lib.hid (And.intro hlo (And.intro hll (And.intro hRi (And.intro hmi (And.intro hR0 hkw)))))
            have hun := HOL.out.2.1
            have huf := HL.out.2.2.2.1
            have hmo := unk_mono L hll
            by_cases hlt : i < k
            · have hlt' : (i : Int) < (k : Int) := by omega
              obtain ⟨y, hy⟩ : ∃ y, own[i]? = some y := ⟨_, List.getElem?_eq_getElem (by rw [HOL.out.2.2.2]; exact hlt)⟩
              have cy := hkw.cell (HCL.out i y hy) HBN.out
              have hyl := HOL.out.1.2 y (List.mem_of_getElem? hy)
              have hdr : own.drop i = y :: own.drop (i + 1) := by
                rw [List.drop_eq_getElem_cons (by rw [HOL.out.2.2.2]; exact hlt)]
                rw [(List.getElem?_eq_some_iff.1 hy).2]
              have CL := Lib.hid (plen L f wr ρ mi { S with le := le } cv kv y hRi HL.out.1 HL.out.2.1 hlo (by simp only; omega) hyl (by simp only; omega))
              have hgo := lenF_ok S.ds f le y hlo
              rw [hdr, lenL] at hR0
              simp only at CL
              obtain ⟨⟨r1, r2⟩, hr⟩ : ∃ r, lenF S.ds f le y = r := ⟨_, rfl⟩
              rw [hr] at CL hR0 hgo
              simp only at hR0 hgo
              have HG := Lib.hid hgo
              have HR0 := Lib.hid hR0
              clear hlo hll hRi hmi hR0 hkw hun huf hmo hlt hy hdr hr hgo
              go_wp2_with fail
              refine CL.out.mono ?_
              rintro e w3 hO
              obtain ⟨rfl, ⟨m2, hR3, hm3⟩, hk3⟩ := hO
              have H3 := Lib.hid (And.intro hR3 (And.intro hm3 hk3))
              clear hR3 hm3 hk3 CL cy
              by_cases h1 : r1 = -1
              · subst h1
                have hR0 : ((-1, r2) : Int × LeT) = R0 := HR0.out
                have HRE := Lib.hid hR0
                clear hR0 HR0
                go_wp2
                go_ret
                unfold LenOut
                rw [HX.out, ← HRE.out]
                refine ⟨rfl, ⟨m2, H3.out.1, ?_⟩, HI.out.2.2.2.2.2.trans H3.out.2.2⟩
                have h1 := H3.out.2.1
                have h2 := HI.out.2.2.2.1
                have h3 := HOL.out.2.1
                simp only at h1 ⊢
                omega
              · have b1 : (r1 == -1) = false := beq_eq_false_iff_ne.2 h1
                have hR0 : lenL (lenF S.ds f) x (own.drop (i + 1)) (min (sum + r1) 9) r2 = R0 := (if_neg h1).symm.trans HR0.out
                have HRE := Lib.hid hR0
                have hg1 := HG.out.1
                have q1 : IntKind.i64.wrap (sum + r1) = sum + r1 := IntWalk.i64_in _ (by omega)
                clear hR0 HR0
                go_wp2_with fail
                go_roundw
                case rel =>
                  have h2 := HI.out.2.2.2.1
                  have h4 := H3.out.2.1
                  exact ⟨i + 1, min (sum + r1) 9, rfl, by go_num, by rw [HOL.out.2.2.2]; omega, by omega, HI.out.2.2.2.2.2.trans H3.out.2.2, r2, m2, HG.out.2.1, fun z hz => HG.out.2.2 z (HI.out.2.1 z hz), H3.out.1, by omega, HRE.out⟩
                case measure => simp [RowKit.intOf]; omega
            · have hi : i = k := by omega
              subst hi
              have hdr : own.drop i = [] := List.drop_eq_nil_of_le (by rw [HOL.out.2.2.2]; exact Nat.le_refl _)
              rw [hdr, lenL] at hR0
              have HRE := Lib.hid hR0
              have c7 : wr.cell? ⟨R.g, 7, none⟩ = some (.map (some R.bn)) := by rw [Lib.cell_of_heap hRi.cell]; rfl
              have hE := hRi.e.2
              simp only at hE
              have hmb : mi < maxLen := by unfold maxLen; omega
              clear hlo hll hRi hR0 hkw hun huf hmo hdr hlt
              go_wp2_with (first | (at_mapUpdate; refine wpList_put _ rfl _ _ _ 90 rfl 21 _ (int_keyed Tryz.underlying21) Tryz.underlying90 R.bn mi (ptF (leV le)) rfl hE hmb _ _ _ rfl rfl hkey ?_; intro w3 hm3 hk3) | fail)
              go_ret
              have hm4 : MapG Tryz.prog 21 R.bn (mi + 1) (ptF (leV (updN le x sum))) w3 := MapG.congr hm3 (leV_put le x sum)
              unfold LenOut
              rw [HX.out, ← HRE.out]
              refine ⟨rfl, ⟨mi + 1, HI.out.2.2.1.newe hk3 hm4, ?_⟩, HI.out.2.2.2.2.2.trans hk3⟩
              have h2 := HI.out.2.2.2.1
              have h3 := HOL.out.2.1
              have h5 := unk_mono L (LeLe.upd le x sum)
              simp only
              omega
end Go.Proofs.YtcfhblbmpbfoaaaGreatDoor
