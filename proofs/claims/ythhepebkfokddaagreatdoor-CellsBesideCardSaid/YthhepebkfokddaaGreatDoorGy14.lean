/- Parts of the proof of what the last text says. -/
import Derived.Test.YthhepebkfokddaaGreatDoorGy5
import Derived.Test.YthhepebkfokddaaGreatDoorGy3
import Derived.Test.YthhepebkfokddaaGreatDoorGy7
import Derived.Test.YthhepebkfokddaaGreatDoorGy13
import Derived.Maps.Own
/- props: how many lines; an error at a line. -/
namespace Go.Proofs.YthhepebkfokddaaGreatDoor
open Go Go.RowKit Go.Kt Go.Kt.Rg Go.Maps

def lnC (l : List UInt8) : Nat := l.count 10 + if l = [] ∨ Lib.hasSuffix l [10] = true then 0 else 1

set_option maxRecDepth 100000 in
theorem plineCount (s : ByteArray) (w : World) (hs : s.size ≤ 1048576) : Calls Tryz.prog 16 #[.string s] w fun e w' => e = .returned (.int .i64 (lnC s.data.toList : Nat)) ∧ w' = w := by
  have C1 := Lib.hid (Tryz.strings_Count_one s 10 w)
  have C2 := Lib.hid (Tryz.strings_HasSuffix s ⟨#[10]⟩ w (by omega))
  have hl : s.data.toList.length = s.size := (Lib.size_eq s).symm
  have hl2 : s.toList = s.data.toList := ByteArray.toList_eq s
  obtain ⟨l, hs2⟩ : ∃ l, s.data.toList = l := ⟨_, rfl⟩
  rw [hs2] at C1 C2 hl hl2 ⊢
  have C2' : Hid (Calls Tryz.prog 35 #[.string s, .string ⟨#[10]⟩] w fun e w' => e = .returned (.bool (Lib.hasSuffix l [10])) ∧ w' = w) := C2
  obtain ⟨n, hn⟩ : ∃ n, Lib.countByte l 10 = n := ⟨_, rfl⟩
  have hnl : n ≤ l.length := by rw [← hn]; exact List.count_le_length
  have hcn : l.count 10 = n := hn
  rw [hn] at C1
  have q1 : IntKind.i64.wrap ((n : Int) + 1) = ((n + 1 : Nat) : Int) := by rw [IntWalk.i64_in _ (by omega)]; omega
  obtain ⟨t, ht⟩ : ∃ t, Lib.hasSuffix l [10] = t := ⟨_, rfl⟩
  rw [ht] at C2'
  by_cases h0 : l = []
  · have HX : Hid (lnC l = n) := Lib.hid (by unfold lnC; rw [if_pos (.inl h0), hcn]; rfl)
    have e0 : s.toList.isEmpty = true := by rw [hl2, h0]; rfl
    clear hcn hn ht hs2 hnl q1 hl hl2 h0 C2 C2'
    go_enter Tryz.func16, Tryz.ntmps16
    go_wp2_with fail
    refine C1.out.mono ?_
    rintro e w1 ⟨rfl, rfl⟩
    go_wp2
    go_ret
    exact ⟨by rw [HX.out]; rfl, rfl⟩
  · have e0 : s.toList.isEmpty = false := by rw [hl2]; simpa using h0
    cases t with
    | true =>
      have HX : Hid (lnC l = n) := Lib.hid (by unfold lnC; rw [if_pos (.inr ht), hcn]; rfl)
      clear hcn hn ht hs2 hnl q1 hl hl2 h0 C2
      go_enter Tryz.func16, Tryz.ntmps16
      go_wp2_with fail
      refine C1.out.mono ?_
      rintro e w1 ⟨rfl, rfl⟩
      go_wp2_with fail
      refine C2'.out.mono ?_
      rintro e w1 ⟨rfl, rfl⟩
      go_wp2
      go_ret
      exact ⟨by rw [HX.out]; rfl, rfl⟩
    | false =>
      have HX : Hid (lnC l = n + 1) := Lib.hid (by unfold lnC; rw [if_neg (fun h => by rcases h with h | h; exact h0 h; rw [ht] at h; cases h), hcn])
      clear hcn hn ht hs2 hnl hl hl2 h0 C2
      go_enter Tryz.func16, Tryz.ntmps16
      go_wp2_with fail
      refine C1.out.mono ?_
      rintro e w1 ⟨rfl, rfl⟩
      go_wp2_with fail
      refine C2'.out.mono ?_
      rintro e w1 ⟨rfl, rfl⟩
      go_wp2
      go_ret
      exact ⟨by rw [HX.out]; rfl, rfl⟩

theorem pfaultR {B0 : Nat} {ρ : Nat → Nat} {R : RdB} {line n m : Nat} {S : RdS} {cv kv : Value} (w : World) (hR : RdW B0 ρ R line n m S cv kv w) (no : Nat) :
    Calls Tryz.prog 21 #[.pointer (some ⟨R.g, 0, none⟩), .int .i64 (no : Nat)] w fun e w' => e = .returned (.iface 90 (.agg #[.int .i64 (no : Nat), .int .i64 (line : Nat), .int .i64 0])) ∧ w' = w := by
  have c1 : w.cell? ⟨R.g, 1, none⟩ = some (.int .i64 (line : Nat)) := by rw [Lib.cell_of_heap hR.cell]; rfl
  clear hR
  go_enter Tryz.func21, Tryz.ntmps21
  go_wp2
  go_ret
  exact ⟨rfl, rfl⟩
end Go.Proofs.YthhepebkfokddaaGreatDoor
/- props: the parts of a syllable. -/
namespace Go.Proofs.YthhepebkfokddaaGreatDoor
open Go Go.RowKit Go.Kt Go.Kt.Rg Go.Maps

def partsP (n : Nat) : List Nat := [4352 + n / 28 / 21, 4449 + n / 28 % 21] ++ if n % 28 = 0 then [] else [4519 + n % 28]

theorem own_full (w : World) (xs : List Value) (e : TypeId) (hm : xs.length ≤ maxLen) : OwnS (fun b => b = w.heap.size) e 1 (.slice (some ⟨w.heap.size, 0, none⟩) xs.length xs.length) xs.length xs (w.alloc (.cells xs.toArray e)) :=
  ⟨⟨by simp, .inr ⟨w.heap.size, xs.length, xs.toArray, rfl, Nat.zero_le _, heap_alloc_new w _, Nat.le_refl _, hm, by simp, by simp⟩⟩, fun b hb => by simp [Value.ownBlock] at hb; exact hb.symm⟩
set_option maxRecDepth 100000 in
set_option maxHeartbeats 2000000 in
theorem pparts (n : Nat) (hn : n < 11172) (w : World) : Calls Tryz.prog 85 #[.int .i32 (44032 + (n : Nat))] w fun e w' => ∃ ao cp, e = .returned (.slice ao (partsP n).length cp) ∧ OwnS (fun b => w.heap.size ≤ b) 21 1 (.slice ao (partsP n).length cp) (partsP n).length (encN (partsP n)) w' ∧ Below w.heap.size w w' := by
  have e1 : IntKind.i32.wrap ((44032 + (n : Int)) - 44032) = n := by rw [IntWalk.i32_in _ (by omega)]; omega
  obtain ⟨h, hh⟩ : ∃ h, w.heap.size = h := ⟨_, rfl⟩
  obtain ⟨W1, hW1⟩ : ∃ W1, w.alloc (.cells #[.int .i32 (4352 + (n : Int) / 28 / 21), .int .i32 (4449 + (n : Int) / 28 % 21)] 21) = W1 := ⟨_, rfl⟩
  have ho := own_full w [.int .i32 (4352 + (n : Int) / 28 / 21), .int .i32 (4449 + (n : Int) / 28 % 21)] 21 (by show 2 ≤ maxLen; decide)
  replace ho : OwnS (fun b => b = h) 21 1 (.slice (some ⟨h, 0, none⟩) 2 2) 2 [.int .i32 (4352 + (n : Int) / 28 / 21), .int .i32 (4449 + (n : Int) / 28 % 21)] W1 := by
    rw [hh] at ho
    rw [← hW1]
    exact ho
  have hb1 : Below h w W1 := by rw [← hW1, ← hh]; exact (Below.refl _ w).alloc (Nat.le_refl _) _
  have hz1 : W1.heap.size = h + 1 := by rw [← hW1, ← hh]; exact Array.size_push _
  have HB := Lib.hid (And.intro hb1 (And.intro ho hz1))
  by_cases hc : n % 28 = 0
  · have HP : Hid (partsP n = [4352 + n / 28 / 21, 4449 + n / 28 % 21]) := Lib.hid (by unfold partsP; rw [if_pos hc]; rfl)
    have q0 : ((n : Int) % 28 != 0) = false := by
      have : (n : Int) % 28 = 0 := by omega
      rw [this]; rfl
    rw [HP.out]
    clear hc ho hb1 hz1
    go_enter Tryz.func85, Tryz.ntmps85
    go_wp2
    go_ret
    rw [hh]
    exact ⟨some ⟨h, 0, none⟩, 2, rfl, HB.out.2.1.weaken (fun b hb => by omega), HB.out.1⟩
  · have HP : Hid (partsP n = [4352 + n / 28 / 21, 4449 + n / 28 % 21] ++ [4519 + n % 28]) := Lib.hid (by unfold partsP; rw [if_neg hc])
    have q0 : ((n : Int) % 28 != 0) = true := by
      simp only [bne_iff_ne, ne_eq]
      omega
    obtain ⟨g, cap, w3, hrun, hown3, hk3, hg3, hz3⟩ := append_x (P := Tryz.prog) W1 62 21 Tryz.underlying62 tinfoI32 rfl (by omega) ho [.int .i32 (4520 + (n : Int) % 28 - 1)] rfl
      (by intro u hu; simp at hu; rcases hu with rfl; rfl) (by unfold maxLen; omega) (by omega)
    have hgg : h ≤ g := by
      rcases hg3 with hx | hx
      · simp [Value.ownBlock] at hx; omega
      · omega
    have HRun := Lib.hid hrun
    have H3 := Lib.hid (And.intro hown3 (And.intro (hb1.trans (hk3.below (by omega) (fun b hb => by simp [Value.ownBlock] at hb; omega))) hgg))
    have HZ := Lib.hid hz1
    rw [HP.out]
    clear hc ho hb1 hz1 hrun hown3 hk3 hg3 hz3 hgg
    go_enter Tryz.func85, Tryz.ntmps85
    go_wp2_with (at_builtin; refine wpList_append_eq rfl rfl rfl rfl HRun.out ?_)
    go_ret
    rw [hh]
    have e : encN [4352 + n / 28 / 21, 4449 + n / 28 % 21, 4519 + n % 28] = [.int .i32 (4352 + (n : Int) / 28 / 21), .int .i32 (4449 + (n : Int) / 28 % 21)] ++ [.int .i32 (4520 + (n : Int) % 28 - 1)] := by
      simp [encN]
      omega
    rw [e]
    exact ⟨some ⟨g, 0, none⟩, cap, rfl, H3.out.1.weaken (fun b hb => by have := H3.out.2.2; omega), H3.out.2.1⟩
end Go.Proofs.YthhepebkfokddaaGreatDoor
/- props: the length of a full decomposition. -/
namespace Go.Proofs.YthhepebkfokddaaGreatDoor
open Go Go.RowKit Go.Kt Go.Kt.Rg Go.Maps

abbrev LeT := Nat → Option Int
def lenL (g : LeT → Nat → Int × LeT) (x : Nat) : List Nat → Int → LeT → Int × LeT
  | [], sum, le => (sum, updN le x sum)
  | y :: t, sum, le => if (g le y).1 = -1 then (-1, (g le y).2) else lenL g x t (min (sum + (g le y).1) 9) (g le y).2
def lenF (ds : Nat → Option (List Nat)) : Nat → LeT → Nat → Int × LeT
  | 0, le, _ => (0, le)
  | f + 1, le, x => if sylP x then (((partsP (x - 44032)).length : Nat), le) else
    match ds x with
    | none => (1, le)
    | some own => match le x with
      | some n => (n, le)
      | none => lenL (lenF ds f) x own 0 (updN le x (-1))
def LeOk (le : LeT) : Prop := ∀ y v, le y = some v → -1 ≤ v ∧ v ≤ 9
theorem LeOk.upd {le : LeT} (h : LeOk le) {x : Nat} {v : Int} (h1 : -1 ≤ v) (h9 : v ≤ 9) : LeOk (updN le x v) := fun y u hu => by
  unfold updN at hu
  by_cases e : y = x
  · rw [if_pos e] at hu; cases hu; exact ⟨h1, h9⟩
  · rw [if_neg e] at hu; exact h y u hu
def LeLe (le le' : LeT) : Prop := ∀ y, (le y).isSome = true → (le' y).isSome = true
theorem LeLe.upd (le : LeT) (x : Nat) (v : Int) : LeLe le (updN le x v) := fun y h => by
  unfold updN
  by_cases e : y = x
  · rw [if_pos e]; rfl
  · rw [if_neg e]; exact h
theorem lenL_ok {g : LeT → Nat → Int × LeT} (hg : ∀ le y, LeOk le → (-1 ≤ (g le y).1 ∧ (g le y).1 ≤ 9) ∧ LeOk (g le y).2 ∧ LeLe le (g le y).2) (x : Nat) : ∀ (l : List Nat) (sum : Int) (le : LeT), 0 ≤ sum → sum ≤ 9 → LeOk le →
    (-1 ≤ (lenL g x l sum le).1 ∧ (lenL g x l sum le).1 ≤ 9) ∧ LeOk (lenL g x l sum le).2 ∧ LeLe le (lenL g x l sum le).2
  | [], sum, le, h0, h9, hl => ⟨⟨by simp [lenL]; omega, by simp [lenL]; omega⟩, LeOk.upd hl (by omega) h9, LeLe.upd _ _ _⟩
  | y :: t, sum, le, h0, h9, hl => by
    obtain ⟨h1, h2, h3⟩ := hg le y hl
    rw [lenL]
    by_cases e : (g le y).1 = -1
    · rw [if_pos e]
      exact ⟨⟨by simp, by simp⟩, h2, h3⟩
    · rw [if_neg e]
      have h4 := lenL_ok hg x t (min (sum + (g le y).1) 9) (g le y).2 (by omega) (by omega) h2
      exact ⟨h4.1, h4.2.1, fun z hz => h4.2.2 z (h3 z hz)⟩
theorem lenF_ok (ds : Nat → Option (List Nat)) : ∀ (f : Nat) (le : LeT) (x : Nat), LeOk le → (-1 ≤ (lenF ds f le x).1 ∧ (lenF ds f le x).1 ≤ 9) ∧ LeOk (lenF ds f le x).2 ∧ LeLe le (lenF ds f le x).2
  | 0, le, x, h => ⟨⟨by simp [lenF], by simp [lenF]⟩, h, fun _ h => h⟩
  | f + 1, le, x, h => by
    rw [lenF]
    split
    · refine ⟨⟨by omega, ?_⟩, h, fun _ h => h⟩
      have : (partsP (x - 44032)).length ≤ 3 := by unfold partsP; split <;> simp
      omega
    · split
      · exact ⟨⟨by omega, by omega⟩, h, fun _ h => h⟩
      · split
        · rename_i n hn
          exact ⟨h x n hn, h, fun _ h => h⟩
        · rename_i own hown _ hnone
          have := lenL_ok (fun le y h => lenF_ok ds f le y h) x own 0 (updN le x (-1)) (by omega) (by omega) (h.upd (x := x) (v := -1) (by omega) (by omega))
          exact ⟨this.1, this.2.1, fun y hy => this.2.2 y (LeLe.upd _ _ _ y hy)⟩
def unk (L : List Nat) (le : LeT) : Nat := (L.filter fun x => (le x).isNone).length
theorem unk_mono (L : List Nat) {le le' : LeT} (h : LeLe le le') : unk L le' ≤ unk L le := by
  unfold unk
  rw [← List.countP_eq_length_filter, ← List.countP_eq_length_filter]
  refine List.countP_mono_left fun x _ hx => ?_
  cases hl : le x with
  | none => rfl
  | some v =>
    have := h x (by rw [hl]; rfl)
    rw [Option.isNone_iff_eq_none] at hx
    rw [hx] at this
    cases this
theorem unk_upd (L : List Nat) {le : LeT} {x : Nat} (hx : x ∈ L) (h : le x = none) (v : Int) : unk L (updN le x v) + 1 ≤ unk L le := by
  induction L with
  | nil => cases hx
  | cons y t ih =>
    by_cases e : y = x
    · subst e
      have h1 := unk_mono t (LeLe.upd le y v)
      unfold unk at h1 ⊢
      rw [List.filter_cons_of_neg (by simp [updN]), List.filter_cons_of_pos (by rw [h]; rfl)]
      simp only [List.length_cons]
      omega
    · have h2 := ih (by rcases List.mem_cons.1 hx with h | h; exact absurd h.symm e; exact h)
      have e2 : updN le x v y = le y := if_neg e
      unfold unk at h2 ⊢
      simp only [List.filter_cons, e2]
      split
      · simp only [List.length_cons]; omega
      · exact h2

section
variable {B0 : Nat} {ρ : Nat → Nat} {R : RdB} {line n m m' : Nat} {S : RdS} {cv kv : Value} {w w' : World}
theorem RdW.newe (h : RdW B0 ρ R line n m S cv kv w) {le' : LeT} (hk : Keep (fun b => b = R.bn) w w') (hf : MapG Tryz.prog 21 R.bn m' (ptF (leV le')) w') : RdW B0 ρ R line n m' { S with le := le' } cv kv w' := by
  have H := h
  have hX : ∀ b, b = R.bn → ρ b = 7 := fun b e => by rw [e]; exact h.e.1
  exact {
    hr := H.hr, hB := Nat.le_trans h.hB hk.size, g := H.g, cell := hk.heap H.cell (fun e => by have := hX _ e; have := H.g; omega)
    c := H.c.keep hk (fun b hb h3 => by have := hX b hb; omega)
    k := H.k.keep hk (fun b hb h3 => by have := hX b hb; omega)
    f := H.f.keep hk (fun b hb => by have := hX b hb; omega)
    d := H.d.keep hk (fun b hb => by have := hX b hb; omega)
    e := ⟨H.e.1, hf⟩
    l := ⟨H.l.1, H.l.2.keep hk (fun hb => by have := hX _ hb; have := H.l.1; omega)⟩
    s := ⟨H.s.1, H.s.2.keep hk (fun hb => by have := hX _ hb; have := H.s.1; omega)⟩ }
end
def LenOut (B0 : Nat) (ρ : Nat → Nat) (R : RdB) (line n m : Nat) (L : List Nat) (S : RdS) (cv kv : Value) (r : Int × LeT) (w : World) (e : Ending) (w' : World) : Prop :=
  e = .returned (.int .i64 r.1) ∧ (∃ m', RdW B0 ρ R line n m' { S with le := r.2 } cv kv w' ∧ m' + 2 * unk L r.2 ≤ m + 2 * unk L S.le) ∧ Keep (fun b => b = R.bn) w w'
end Go.Proofs.YthhepebkfokddaaGreatDoor
/- props: the length of a full decomposition: the walk. -/
namespace Go.Proofs.YthhepebkfokddaaGreatDoor
open Go Go.RowKit Go.Kt Go.Kt.Rg Go.Maps

theorem leV_put (le : LeT) (x : Nat) (v : Int) (kl : Lit) (hk : WideAt.IsKeyLit kl) : putF (ptF (leV le)) (.int .i32 (x : Int)) (.int .i64 v) kl = ptF (leV (updN le x v)) kl := by
  rw [ptF_put _ _ _ _ hk]
  congr 1
  funext y
  unfold leV updN
  by_cases e : y = x
  · rw [if_pos e, if_pos e]; rfl
  · rw [if_neg e, if_neg e]

def LenI (B0 : Nat) (ρ : Nat → Nat) (R : RdB) (line n m : Nat) (L : List Nat) (S : RdS) (cv kv : Value) (g : LeT → Nat → Int × LeT) (x : Nat) (own : List Nat) (le1 : LeT) (R0 : Int × LeT) (w : World) (i : Nat) (sum : Int) (wr : World) : Prop :=
  i ≤ own.length ∧ (0 ≤ sum ∧ sum ≤ 9) ∧ Keep (fun b => b = R.bn) w wr ∧ ∃ (le : LeT) (mi : Nat), LeOk le ∧ LeLe le1 le ∧ RdW B0 ρ R line n mi { S with le := le } cv kv wr ∧ mi + 2 * unk L le ≤ m + 1 + 2 * unk L le1 ∧ lenL g x (own.drop i) sum le = R0

set_option maxRecDepth 100000 in
set_option maxHeartbeats 4000000 in
theorem plen {B0 : Nat} {R : RdB} {line n : Nat} (L : List Nat) : ∀ (f : Nat) (w : World) (ρ : Nat → Nat) (m : Nat) (S : RdS) (cv kv : Value) (x : Nat), RdW B0 ρ R line n m S cv kv w → (∀ y, (S.ds y).isSome = true → y ∈ L) → (∀ y l, S.ds y = some l → l.length ≤ 9 ∧ ∀ z ∈ l, z ≤ 1114111) →
    LeOk S.le → unk L S.le < f → x ≤ 1114111 → m + 2 * unk L S.le ≤ 1099511627776 →
    Calls Tryz.prog 48 #[.pointer (some ⟨R.g, 0, none⟩), .int .i32 (x : Nat)] w fun e w' => LenOut B0 ρ R line n m L S cv kv (lenF S.ds f S.le x) w e w'
  | 0, w, ρ, m, S, cv, kv, x, hR, hL, hds, hle, hu, hx, hm => by omega
  | f + 1, w, ρ, m, S, cv, kv, x, hR, hL, hds, hle, hu, hx, hm => by
    have HR := Lib.hid hR
    have HL := Lib.hid (And.intro hL (And.intro hds (And.intro hle (And.intro hu hm))))
    have CS := Lib.hid (psyl (x : Int) w)
    cases hsy : sylP (x : Int) with
    | true =>
      have hr : 44032 ≤ (x : Int) ∧ (x : Int) < 55204 := by simpa [sylP] using hsy
      have HX : Hid (lenF S.ds (f + 1) S.le x = ((((partsP (x - 44032)).length : Nat) : Int), S.le)) := Lib.hid (by rw [lenF]; exact if_pos hsy)
      have hxx : (44032 + ((x - 44032 : Nat) : Int)) = (x : Int) := by omega
      have CP := pparts (x - 44032) (by omega) w
      rw [hxx] at CP
      have CP := Lib.hid CP
      rw [hsy] at CS
      obtain ⟨k, hk⟩ : ∃ k, (partsP (x - 44032)).length = k := ⟨_, rfl⟩
      rw [hk] at CP HX
      clear hR hL hds hle hu hm hsy hr hxx hk
      go_enter Tryz.func48, Tryz.ntmps48
      go_wp2_with fail
      refine CS.out.mono ?_
      rintro e w1 ⟨rfl, rfl⟩
      go_wp2_with fail
      refine CP.out.mono ?_
      rintro e w2 ⟨ao, cp, rfl, ho, hb⟩
      have HB := Lib.hid hb
      clear ho hb
      go_wp2
      go_ret
      unfold LenOut
      rw [HX.out]
      exact ⟨rfl, ⟨m, HR.out.below HB.out, Nat.le_refl _⟩, Keep.of_all HB.out⟩
    | false =>
      rw [hsy] at CS
      have c4 : w.cell? ⟨R.g, 4, none⟩ = some (.map (some R.bd)) := by rw [Lib.cell_of_heap hR.cell]; rfl
      have c7 : w.cell? ⟨R.g, 7, none⟩ = some (.map (some R.bn)) := by rw [Lib.cell_of_heap hR.cell]; rfl
      have hkey : keyOf Tryz.prog 21 (.int .i32 (x : Nat)) = some (.int .i32 (x : Nat)) := keyOf_int_mk Tryz.underlying21 (WalkArith.wf_i32 (n := (x : Int)) ⟨by omega, by omega⟩)
      obtain ⟨hB, vs, hM, hs, hp⟩ := hR.d
      have hl1 := hM.look (int_keyed Tryz.underlying21) Tryz.underlying54 (z := .slice none 0 0) rfl hkey
      have hl2 := hR.e.2.look (int_keyed Tryz.underlying21) Tryz.underlying55 (z := .int .i64 0) rfl hkey
      rw [ptF_at] at hl1 hl2
      have hsx := hs x
      cases hd : S.ds x with
      | none =>
        have HX : Hid (lenF S.ds (f + 1) S.le x = (1, S.le)) := Lib.hid (by rw [lenF, if_neg (by rw [hsy]; exact fun h => by cases h), hd])
        have hv : vs x = none := by rw [hd] at hsx; cases h : vs x with | none => rfl | some u => rw [h] at hsx; cases hsx
        rw [hv] at hl1
        replace hl1 : (Instr.lookup 54 (.map (some R.bd)) (.int .i32 (x : Nat)) true).run Tryz.prog w = .ok (.tuple #[.slice none 0 0, .bool false]) w := hl1
        clear hR hL hds hle hu hm hsy hl2 hsx hs hp hM hB hkey hv hd c7
        go_enter Tryz.func48, Tryz.ntmps48
        go_wp2_with fail
        refine CS.out.mono ?_
        rintro e w1 ⟨rfl, rfl⟩
        go_wp2
        go_ret
        unfold LenOut
        rw [HX.out]
        exact ⟨rfl, ⟨m, HR.out, Nat.le_refl _⟩, Keep.refl _ _⟩
      | some own =>
        obtain ⟨v, hv⟩ : ∃ v, vs x = some v := by rw [hd] at hsx; cases h : vs x with | none => rw [h] at hsx; cases hsx | some u => exact ⟨u, rfl⟩
        rw [hv] at hl1
        obtain ⟨b, off, cap, hvv, hcap, hcap2, hb0, hbl, hcl⟩ := hp x v own hv hd
        subst hvv
        replace hl1 : (Instr.lookup 54 (.map (some R.bd)) (.int .i32 (x : Nat)) true).run Tryz.prog w = .ok (.tuple #[.slice (some ⟨b, off, none⟩) own.length cap, .bool true]) w := hl1
        cases hn : S.le x with
        | some z =>
          have HX : Hid (lenF S.ds (f + 1) S.le x = (z, S.le)) := Lib.hid (by rw [lenF, if_neg (by rw [hsy]; exact fun h => by cases h), hd, hn])
          have hvn : leV S.le x = some (.int .i64 z) := by unfold leV; rw [hn]; rfl
          rw [hvn] at hl2
          replace hl2 : (Instr.lookup 55 (.map (some R.bn)) (.int .i32 (x : Nat)) true).run Tryz.prog w = .ok (.tuple #[.int .i64 z, .bool true]) w := hl2
          clear hR hL hds hle hu hm hsy hsx hs hp hM hB hkey hv hd hn hvn hcl hb0 hbl hcap hcap2
          go_enter Tryz.func48, Tryz.ntmps48
          go_wp2_with fail
          refine CS.out.mono ?_
          rintro e w1 ⟨rfl, rfl⟩
          go_wp2
          go_ret
          unfold LenOut
          rw [HX.out]
          exact ⟨rfl, ⟨m, HR.out, Nat.le_refl _⟩, Keep.refl _ _⟩
        | none =>
          have HX : Hid (lenF S.ds (f + 1) S.le x = lenL (lenF S.ds f) x own 0 (updN S.le x (-1))) := Lib.hid (by rw [lenF, if_neg (by rw [hsy]; exact fun h => by cases h), hd, hn])
          have hvn : leV S.le x = none := by unfold leV; rw [hn]; rfl
          rw [hvn] at hl2
          replace hl2 : (Instr.lookup 55 (.map (some R.bn)) (.int .i32 (x : Nat)) true).run Tryz.prog w = .ok (.tuple #[.int .i64 0, .bool false]) w := hl2
          have hol := hds x own hd
          have hun := unk_upd L (hL x (by rw [hd]; rfl)) hn (-1)
          have HCL : Hid (∀ (i : Nat) (y : Nat), own[i]? = some y → w.cell? ⟨b, off + i, none⟩ = some (.int .i32 (y : Nat))) := Lib.hid hcl
          have HBN : Hid (b ≠ R.bn) := Lib.hid (fun e => by rw [e, hR.e.1] at hb0; cases hb0)
          obtain ⟨R0, hR0⟩ : ∃ R0, lenL (lenF S.ds f) x own 0 (updN S.le x (-1)) = R0 := ⟨_, rfl⟩
          rw [hR0] at HX
          obtain ⟨k, hk⟩ : ∃ k, own.length = k := ⟨_, rfl⟩
          rw [hk] at hl1 hcap
          have hk9 : k ≤ 9 := by rw [← hk]; exact hol.1
          have hE := hR.e.2
          have HOL := Lib.hid (And.intro hol (And.intro hun (And.intro hR0 hk)))
          clear hR hL hds hle hu hsy hsx hs hp hM hB hv hd hn hvn hcl hb0 hbl hcap2 hol hun hR0 hk
          go_enter Tryz.func48, Tryz.ntmps48
          go_wp2_with fail
          refine CS.out.mono ?_
          rintro e w1 ⟨rfl, rfl⟩
          go_wp2_with (first | (at_mapUpdate; refine wpList_put _ rfl _ _ _ 55 rfl 21 _ (int_keyed Tryz.underlying21) Tryz.underlying55 R.bn m (ptF (leV S.le)) rfl hE (by unfold maxLen; omega) _ _ _ rfl rfl hkey ?_; intro w2 hm2 hk2) | fail)
          have hm3 : MapG Tryz.prog 21 R.bn (m + 1) (ptF (leV (updN S.le x (-1)))) w2 := MapG.congr hm2 (leV_put S.le x (-1))
          have HL0 : Hid (LenI B0 ρ R line n m L S cv kv (lenF S.ds f) x own (updN S.le x (-1)) R0 w1 0 0 w2) := Lib.hid ⟨Nat.zero_le _, ⟨by omega, by omega⟩, hk2, _, m + 1, LeOk.upd HL.out.2.2.1 (by omega) (by omega), fun _ h => h, HR.out.newe hk2 hm3, Nat.le_refl _, HOL.out.2.2.1⟩
          clear hm2 hm3 hk2 hE hl1 hl2 c4 c7 CS
          go_loopw [9, 47] (fun s j wr => ∃ (i : Nat) (sum : Int), s = .int .i64 sum ∧ j = .int .i64 i ∧ LenI B0 ρ R line n m L S cv kv (lenF S.ds f) x own (updN S.le x (-1)) R0 w1 i sum wr)
            (fun _ j _ => k - (RowKit.intOf j).toNat)
          case atStart => exact ⟨0, 0, rfl, rfl, HL0.out⟩
          case round =>
            obtain ⟨i, sum, rfl, rfl, hI⟩ := hrel
            obtain ⟨hik, hsum, hkw, le, mi, hlo, hll, hRi, hmi, hR0⟩ := hI
            rw [HOL.out.2.2.2] at hik
            have HI := Lib.hid (And.intro hlo (And.intro hll (And.intro hRi (And.intro hmi (And.intro hR0 hkw)))))
            have hun := HOL.out.2.1
            have huf := HL.out.2.2.2.1
            have hmo := unk_mono L hll
            by_cases hlt : i < k
            · have hlt' : (i : Int) < (k : Int) := by omega
              obtain ⟨y, hy⟩ : ∃ y, own[i]? = some y := ⟨_, List.getElem?_eq_getElem (by rw [HOL.out.2.2.2]; exact hlt)⟩
              have cy := hkw.cell (HCL.out i y hy) HBN.out
              have hyl := HOL.out.1.2 y (List.mem_of_getElem? hy)
              have hdr : own.drop i = y :: own.drop (i + 1) := by
                rw [List.drop_eq_getElem_cons (by rw [HOL.out.2.2.2]; exact hlt)]
                rw [(List.getElem?_eq_some_iff.1 hy).2]
              have CL := Lib.hid (plen L f wr ρ mi { S with le := le } cv kv y hRi HL.out.1 HL.out.2.1 hlo (by simp only; omega) hyl (by simp only; omega))
              have hgo := lenF_ok S.ds f le y hlo
              rw [hdr, lenL] at hR0
              simp only at CL
              obtain ⟨⟨r1, r2⟩, hr⟩ : ∃ r, lenF S.ds f le y = r := ⟨_, rfl⟩
              rw [hr] at CL hR0 hgo
              simp only at hR0 hgo
              have HG := Lib.hid hgo
              have HR0 := Lib.hid hR0
              clear hlo hll hRi hmi hR0 hkw hun huf hmo hlt hy hdr hr hgo
              go_wp2_with fail
              refine CL.out.mono ?_
              rintro e w3 hO
              obtain ⟨rfl, ⟨m2, hR3, hm3⟩, hk3⟩ := hO
              have H3 := Lib.hid (And.intro hR3 (And.intro hm3 hk3))
              clear hR3 hm3 hk3 CL cy
              by_cases h1 : r1 = -1
              · subst h1
                have hR0 : ((-1, r2) : Int × LeT) = R0 := HR0.out
                have HRE := Lib.hid hR0
                clear hR0 HR0
                go_wp2
                go_ret
                unfold LenOut
                rw [HX.out, ← HRE.out]
                refine ⟨rfl, ⟨m2, H3.out.1, ?_⟩, HI.out.2.2.2.2.2.trans H3.out.2.2⟩
                have h1 := H3.out.2.1
                have h2 := HI.out.2.2.2.1
                have h3 := HOL.out.2.1
                simp only at h1 ⊢
                omega
              · have b1 : (r1 == -1) = false := beq_eq_false_iff_ne.2 h1
                have hR0 : lenL (lenF S.ds f) x (own.drop (i + 1)) (min (sum + r1) 9) r2 = R0 := (if_neg h1).symm.trans HR0.out
                have HRE := Lib.hid hR0
                have hg1 := HG.out.1
                have q1 : IntKind.i64.wrap (sum + r1) = sum + r1 := IntWalk.i64_in _ (by omega)
                clear hR0 HR0
                go_wp2_with fail
                go_roundw
                case rel =>
                  have h2 := HI.out.2.2.2.1
                  have h4 := H3.out.2.1
                  exact ⟨i + 1, min (sum + r1) 9, rfl, by go_num, by rw [HOL.out.2.2.2]; omega, by omega, HI.out.2.2.2.2.2.trans H3.out.2.2, r2, m2, HG.out.2.1, fun z hz => HG.out.2.2 z (HI.out.2.1 z hz), H3.out.1, by omega, HRE.out⟩
                case measure => simp [RowKit.intOf]; omega
            · have hi : i = k := by omega
              subst hi
              have hdr : own.drop i = [] := List.drop_eq_nil_of_le (by rw [HOL.out.2.2.2]; exact Nat.le_refl _)
              rw [hdr, lenL] at hR0
              have HRE := Lib.hid hR0
              have c7 : wr.cell? ⟨R.g, 7, none⟩ = some (.map (some R.bn)) := by rw [Lib.cell_of_heap hRi.cell]; rfl
              have hE := hRi.e.2
              simp only at hE
              have hmb : mi < maxLen := by unfold maxLen; omega
              clear hlo hll hRi hR0 hkw hun huf hmo hdr hlt
              go_wp2_with (first | (at_mapUpdate; refine wpList_put _ rfl _ _ _ 55 rfl 21 _ (int_keyed Tryz.underlying21) Tryz.underlying55 R.bn mi (ptF (leV le)) rfl hE hmb _ _ _ rfl rfl hkey ?_; intro w3 hm3 hk3) | fail)
              go_ret
              have hm4 : MapG Tryz.prog 21 R.bn (mi + 1) (ptF (leV (updN le x sum))) w3 := MapG.congr hm3 (leV_put le x sum)
              unfold LenOut
              rw [HX.out, ← HRE.out]
              refine ⟨rfl, ⟨mi + 1, HI.out.2.2.1.newe hk3 hm4, ?_⟩, HI.out.2.2.2.2.2.trans hk3⟩
              have h2 := HI.out.2.2.2.1
              have h3 := HOL.out.2.1
              have h5 := unk_mono L (LeLe.upd le x sum)
              simp only
              omega
end Go.Proofs.YthhepebkfokddaaGreatDoor
/- props: what is wrong with a full decomposition. -/
namespace Go.Proofs.YthhepebkfokddaaGreatDoor
open Go Go.RowKit Go.Kt Go.Kt.Rg Go.Maps

def endN (k : Int) : Nat := if k = -1 then 14 else if 8 < k then 5 else 0
def EndOut (B0 : Nat) (ρ : Nat → Nat) (R : RdB) (line n m : Nat) (L : List Nat) (S : RdS) (cv kv : Value) (r : Int × LeT) (w : World) (e : Ending) (w' : World) : Prop :=
  e = .returned (.int .i64 (endN r.1 : Nat)) ∧ (∃ m', RdW B0 ρ R line n m' { S with le := r.2 } cv kv w' ∧ m' + 2 * unk L r.2 ≤ m + 2 * unk L S.le) ∧ Keep (fun b => b = R.bn) w w'

set_option maxRecDepth 100000 in
theorem pended {B0 : Nat} {R : RdB} {line n : Nat} (L : List Nat) (f : Nat) (w : World) (ρ : Nat → Nat) (m : Nat) (S : RdS) (cv kv : Value) (x : Nat) (hR : RdW B0 ρ R line n m S cv kv w) (hL : ∀ y, (S.ds y).isSome = true → y ∈ L) (hds : ∀ y l, S.ds y = some l → l.length ≤ 9 ∧ ∀ z ∈ l, z ≤ 1114111)
    (hle : LeOk S.le) (hu : unk L S.le < f) (hx : x ≤ 1114111) (hm : m + 2 * unk L S.le ≤ 1099511627776) :
    Calls Tryz.prog 23 #[.pointer (some ⟨R.g, 0, none⟩), .int .i32 (x : Nat)] w fun e w' => EndOut B0 ρ R line n m L S cv kv (lenF S.ds f S.le x) w e w' := by
  have CL := Lib.hid (plen L f w ρ m S cv kv x hR hL hds hle hu hx hm)
  have hok := (lenF_ok S.ds f S.le x hle).1
  obtain ⟨r, hr⟩ : ∃ r, lenF S.ds f S.le x = r := ⟨_, rfl⟩
  rw [hr] at CL hok ⊢
  clear hR hL hds hle hu hx hm hr
  obtain ⟨r1, r2⟩ := r
  simp only at hok
  go_enter Tryz.func23, Tryz.ntmps23
  go_wp2_with fail
  refine CL.out.mono ?_
  rintro e w1 hO
  obtain ⟨rfl, hO2, hO3⟩ := hO
  have HO := Lib.hid (And.intro hO2 hO3)
  clear hO2 hO3 CL
  by_cases h1 : r1 = -1
  · subst h1
    have HX : Hid (endN (-1) = 14) := Lib.hid rfl
    go_wp2
    go_ret
    unfold EndOut
    simp only
    rw [HX.out]
    exact ⟨rfl, HO.out⟩
  · have b1 : (r1 == -1) = false := beq_eq_false_iff_ne.2 h1
    by_cases h8 : 8 < r1
    · have HX : Hid (endN r1 = 5) := Lib.hid (by unfold endN; rw [if_neg h1, if_pos h8])
      go_wp2
      go_ret
      unfold EndOut
      simp only
      rw [HX.out]
      exact ⟨rfl, HO.out⟩
    · have HX : Hid (endN r1 = 0) := Lib.hid (by unfold endN; rw [if_neg h1, if_neg h8])
      have h9 : r1 ≤ 8 := by omega
      clear h8
      go_wp2
      go_ret
      unfold EndOut
      simp only
      rw [HX.out]
      exact ⟨rfl, HO.out⟩
end Go.Proofs.YthhepebkfokddaaGreatDoor
/- props: newReader. WRITTEN by wip/tools/gen_jn.py. -/
namespace Go.Proofs.YthhepebkfokddaaGreatDoor
open Go Go.RowKit Go.Kt Go.Kt.Rg Go.Maps

def rd0 : RdS := ⟨[], [], fun _ => none, fun _ => none, fun _ => none, fun _ => none⟩
theorem MapG.alloc {P : Program} {k : TypeId} {b n : Nat} {f : Lit → Option Value} {w : World} (h : MapG P k b n f w) (o : Obj) : MapG P k b n f (w.alloc o) := MapG.keep h ((Keep.refl (fun _ => False) w).alloc o) (fun h => h)
theorem ptF_none {vs : Nat → Option Value} (h : ∀ x, vs x = none) (kl : Lit) : none = ptF vs kl := by
  unfold ptF
  split
  · split
    · rw [h]
    · rfl
  · rfl
theorem says_put (g : Nat) (kl : Lit) (hk : WideAt.IsKeyLit kl) : putF (putF (putF (putF (fun _ => none) (.string [99, 108, 97, 115, 115]) (saysV g 36)) (.string [107, 105, 110, 100]) (saysV g 37)) (.string [102, 111, 108, 100]) (saysV g 38)) (.string [100, 101, 99, 111, 109, 112]) (saysV g 39) kl = saysF g kl := by
  by_cases e4 : kl = .string [100, 101, 99, 111, 109, 112]
  · subst e4; rw [putF_same _ _ hk]; rfl
  rw [putF_other _ e4]
  by_cases e3 : kl = .string [102, 111, 108, 100]
  · subst e3; rw [putF_same _ _ hk]; rfl
  rw [putF_other _ e3]
  by_cases e2 : kl = .string [107, 105, 110, 100]
  · subst e2; rw [putF_same _ _ hk]; rfl
  rw [putF_other _ e2]
  by_cases e1 : kl = .string [99, 108, 97, 115, 115]
  · subst e1; rw [putF_same _ _ hk]; rfl
  rw [putF_other _ e1]
  unfold saysF
  split
  · rename_i b
    rw [if_neg (fun h => e1 (by rw [h])), if_neg (fun h => e2 (by rw [h])), if_neg (fun h => e3 (by rw [h])), if_neg (fun h => e4 (by rw [h]))]
  · rfl
def newRole (H : Nat) : Nat → Nat := fun b => if b = H then 4 else if b = H + 1 then 5 else if b = H + 1 + 1 then 6 else if b = H + 1 + 1 + 1 then 7 else if b = H + 1 + 1 + 1 + 1 then 1 else if b = H + 1 + 1 + 1 + 1 + 1 then 8 else 0
theorem newRole_le (H b : Nat) (h : newRole H b ≠ 0) : H ≤ b := by
  unfold newRole at h
  refine Nat.le_of_not_lt fun hb => h ?_
  rw [if_neg (by omega), if_neg (by omega), if_neg (by omega), if_neg (by omega), if_neg (by omega), if_neg (by omega)]

theorem newRole0 (H : Nat) : newRole H (H) = 4 := by unfold newRole; rw [if_pos rfl]
theorem newRole1 (H : Nat) : newRole H (H + 1) = 5 := by unfold newRole; rw [if_neg (by omega), if_pos rfl]
theorem newRole2 (H : Nat) : newRole H (H + 1 + 1) = 6 := by unfold newRole; rw [if_neg (by omega), if_neg (by omega), if_pos rfl]
theorem newRole3 (H : Nat) : newRole H (H + 1 + 1 + 1) = 7 := by unfold newRole; rw [if_neg (by omega), if_neg (by omega), if_neg (by omega), if_pos rfl]
theorem newRole4 (H : Nat) : newRole H (H + 1 + 1 + 1 + 1) = 1 := by unfold newRole; rw [if_neg (by omega), if_neg (by omega), if_neg (by omega), if_neg (by omega), if_pos rfl]
theorem newRole5 (H : Nat) : newRole H (H + 1 + 1 + 1 + 1 + 1) = 8 := by unfold newRole; rw [if_neg (by omega), if_neg (by omega), if_neg (by omega), if_neg (by omega), if_neg (by omega), if_pos rfl]
set_option maxRecDepth 100000 in
set_option maxHeartbeats 4000000 in
theorem pnewR (w : World) : Calls Tryz.prog 17 #[] w fun e w' => ∃ R : RdB, e = .returned (.pointer (some ⟨R.g, 0, none⟩)) ∧ Below w.heap.size w w' ∧ ∃ ρ, RdW w.heap.size ρ R 0 0 0 rd0 (.slice none 0 0) (.slice none 0 0) w' := by
  have hm1 : ∀ W : World, (Instr.makeMap 54 none).run Tryz.prog W = .ok (.map (some W.heap.size)) (W.alloc (.map #[] 0)) := fun W => run_makeMap _ _
  have hm2 : ∀ W : World, (Instr.makeMap 55 none).run Tryz.prog W = .ok (.map (some W.heap.size)) (W.alloc (.map #[] 0)) := fun W => run_makeMap _ _
  have hm3 : ∀ W : World, (Instr.makeMap 52 none).run Tryz.prog W = .ok (.map (some W.heap.size)) (W.alloc (.map #[] 0)) := fun W => run_makeMap _ _
  go_enter Tryz.func17, Tryz.ntmps17
  go_wp2_with fail
  clear hm1 hm2 hm3
  obtain ⟨H, hH⟩ : ∃ H, w.heap.size = H := ⟨_, rfl⟩
  rw [hH]
  have k1 : ∀ (W : World) (o : Obj), (W.alloc o).heap.size = W.heap.size + 1 := fun W o => Array.size_push _
  obtain ⟨W0, hW0⟩ : ∃ W0, ((((((w.alloc (.map #[] 0)).alloc (.map #[] 0)).alloc (.map #[] 0)).alloc (.map #[] 0)).alloc (.cells #[.map none, .int .i64 0, .slice none 0 0, .slice none 0 0, .map (some H), .map (some (H + 1)), .map (some (H + 1 + 1)), .map (some (H + 1 + 1 + 1))] 57)).alloc (.map #[] 0)) = W0 := ⟨_, rfl⟩
  rw [hW0]
  have hM0 : MapG Tryz.prog 9 (H + 1 + 1 + 1 + 1 + 1) 0 (fun _ => none) W0 := by
    have := MapG.made (((((w.alloc (.map #[] 0)).alloc (.map #[] 0)).alloc (.map #[] 0)).alloc (.map #[] 0)).alloc (.cells #[.map none, .int .i64 0, .slice none 0 0, .slice none 0 0, .map (some H), .map (some (H + 1)), .map (some (H + 1 + 1)), .map (some (H + 1 + 1 + 1))] 57)) Tryz.prog 9
    rw [hW0] at this
    simp only [k1, hH] at this
    exact this
  obtain ⟨w1, hr1, hM1, hK1⟩ := hM0.put (string_keyed Tryz.underlying9) Tryz.underlying52 (by decide) (val := saysV (H + 1 + 1 + 1 + 1) 36) (key := .string ⟨#[99, 108, 97, 115, 115]⟩) (kl := .string [99, 108, 97, 115, 115]) (Go.WideMaps.keyOf_string_mk (P := Tryz.prog) Tryz.underlying9 (s := ⟨#[99, 108, 97, 115, 115]⟩) (by decide))
  unfold saysV at hr1
  rw [hr1]
  clear hr1
  go_wp2_with fail
  obtain ⟨w2, hr2, hM2, hK2⟩ := hM1.put (string_keyed Tryz.underlying9) Tryz.underlying52 (by decide) (val := saysV (H + 1 + 1 + 1 + 1) 37) (key := .string ⟨#[107, 105, 110, 100]⟩) (kl := .string [107, 105, 110, 100]) (Go.WideMaps.keyOf_string_mk (P := Tryz.prog) Tryz.underlying9 (s := ⟨#[107, 105, 110, 100]⟩) (by decide))
  unfold saysV at hr2
  rw [hr2]
  clear hr2
  go_wp2_with fail
  obtain ⟨w3, hr3, hM3, hK3⟩ := hM2.put (string_keyed Tryz.underlying9) Tryz.underlying52 (by decide) (val := saysV (H + 1 + 1 + 1 + 1) 38) (key := .string ⟨#[102, 111, 108, 100]⟩) (kl := .string [102, 111, 108, 100]) (Go.WideMaps.keyOf_string_mk (P := Tryz.prog) Tryz.underlying9 (s := ⟨#[102, 111, 108, 100]⟩) (by decide))
  unfold saysV at hr3
  rw [hr3]
  clear hr3
  go_wp2_with fail
  obtain ⟨w4, hr4, hM4, hK4⟩ := hM3.put (string_keyed Tryz.underlying9) Tryz.underlying52 (by decide) (val := saysV (H + 1 + 1 + 1 + 1) 39) (key := .string ⟨#[100, 101, 99, 111, 109, 112]⟩) (kl := .string [100, 101, 99, 111, 109, 112]) (Go.WideMaps.keyOf_string_mk (P := Tryz.prog) Tryz.underlying9 (s := ⟨#[100, 101, 99, 111, 109, 112]⟩) (by decide))
  unfold saysV at hr4
  rw [hr4]
  clear hr4
  have hcell : W0.heap[H + 1 + 1 + 1 + 1]? = some (.cells #[.map none, .int .i64 0, .slice none 0 0, .slice none 0 0, .map (some H), .map (some (H + 1)), .map (some (H + 1 + 1)), .map (some (H + 1 + 1 + 1))] 57 (0, 0)) := by
    rw [← hW0, heap_alloc_if, if_neg (by simp only [k1, hH]; omega), heap_alloc_if, if_pos (by simp only [k1, hH])]
  have g1 : Hid (MapG Tryz.prog 21 H 0 (fun _ => none) W0) := Lib.hid (by
    have := MapG.made w Tryz.prog 21
    rw [hH] at this
    rw [← hW0]
    exact MapG.alloc (MapG.alloc (MapG.alloc (MapG.alloc (MapG.alloc this _) _) _) _) _)
  have g2 : Hid (MapG Tryz.prog 21 (H + 1) 0 (fun _ => none) W0) := Lib.hid (by
    have := MapG.made (w.alloc (.map #[] 0)) Tryz.prog 21
    simp only [k1, hH] at this
    rw [← hW0]
    exact MapG.alloc (MapG.alloc (MapG.alloc (MapG.alloc this _) _) _) _)
  have g3 : Hid (MapG Tryz.prog 21 (H + 1 + 1) 0 (fun _ => none) W0) := Lib.hid (by
    have := MapG.made ((w.alloc (.map #[] 0)).alloc (.map #[] 0)) Tryz.prog 21
    simp only [k1, hH] at this
    rw [← hW0]
    exact MapG.alloc (MapG.alloc (MapG.alloc this _) _) _)
  have g4 : Hid (MapG Tryz.prog 21 (H + 1 + 1 + 1) 0 (fun _ => none) W0) := Lib.hid (by
    have := MapG.made (((w.alloc (.map #[] 0)).alloc (.map #[] 0)).alloc (.map #[] 0)) Tryz.prog 21
    simp only [k1, hH] at this
    rw [← hW0]
    exact MapG.alloc (MapG.alloc this _) _)
  have hBW : Below H w W0 := by
    rw [← hW0, ← hH]
    exact ((((((Below.refl _ w).alloc (Nat.le_refl _) _).alloc (by simp) _).alloc (by simp; omega) _).alloc (by simp; omega) _).alloc (by simp; omega) _).alloc (by simp; omega) _
  have hKK := ((hK1.trans hK2).trans hK3).trans hK4
  have HKK := Lib.hid hKK
  have HBW := Lib.hid hBW
  have HM4 := Lib.hid (MapG.congr hM4 (says_put _))
  have hz : W0.heap.size = H + 1 + 1 + 1 + 1 + 1 + 1 := by rw [← hW0]; simp only [k1, hH]
  have HZ := Lib.hid hz
  have hcell4 := hKK.heap hcell (by omega)
  have HC4 := Lib.hid hcell4
  have c0 : w4.cell? ⟨H + 1 + 1 + 1 + 1, 0, none⟩ = some (.map none) := by rw [Lib.cell_of_heap hcell4]; rfl
  have f0 : w4.frozen? ⟨H + 1 + 1 + 1 + 1, 0, none⟩ = false := Lib.frozen_of_heap hcell4 _
  clear hM0 hM1 hM2 hM3 hM4 hK1 hK2 hK3 hK4 hKK hBW hcell hcell4 hW0 k1 hz
  go_wp2
  go_ret
  rw [hH]
  have hset := heap_setCell_same w4 (H + 1 + 1 + 1 + 1) 0 _ _ (.map (some (H + 1 + 1 + 1 + 1 + 1))) HC4.out
  obtain ⟨W5, hW5⟩ : ∃ W5, w4.setCell ⟨H + 1 + 1 + 1 + 1, 0, none⟩ (.map (some (H + 1 + 1 + 1 + 1 + 1))) = W5 := ⟨_, rfl⟩
  have hK5 : Keep (fun b => b = H + 1 + 1 + 1 + 1) w4 W5 := by
    rw [← hW5]
    exact Keep.setCell (X := fun b => b = H + 1 + 1 + 1 + 1) (Keep.refl _ w4) (p := ⟨H + 1 + 1 + 1 + 1, 0, none⟩) rfl _
  rw [hW5] at hset ⊢
  have hz4 := HKK.out.size
  rw [HZ.out] at hz4
  have hK : Keep (fun b => b = H + 1 + 1 + 1 + 1 + 1 ∨ b = H + 1 + 1 + 1 + 1) W0 W5 := (HKK.out.weaken (fun _ _ h => Or.inl h)).trans (hK5.weaken (fun _ _ h => Or.inr h))
  refine ⟨⟨H + 1 + 1 + 1 + 1, H + 1 + 1 + 1 + 1 + 1, H, H + 1, H + 1 + 1, H + 1 + 1 + 1⟩, rfl, HBW.out.trans (hK.below (by rw [HZ.out]; omega) (fun b hb => by omega)), newRole H, ?_⟩
  have gm : ∀ (b k : Nat) (f : Lit → Option Value), MapG Tryz.prog k b 0 (fun _ => none) W0 → b < H + 1 + 1 + 1 + 1 → (∀ kl, none = f kl) → MapG Tryz.prog k b 0 f W5 := fun b k f h h2 h3 => MapG.congr (MapG.keep h hK (by omega)) (fun kl _ => h3 kl)
  exact {
    hr := newRole_le H, hB := by have := hK5.size; omega, g := newRole4 H, cell := by simpa [cellsR] using hset
    c := own_nil _ _ _ _
    k := own_nil _ _ _ _
    d := ⟨newRole0 H, fun _ => none, gm (H) _ _ g1.out (by omega) (ptF_none (fun _ => rfl)), fun _ => rfl, fun _ _ _ h => by cases h⟩
    f := ⟨newRole1 H, fun _ => none, gm (H + 1) _ _ g2.out (by omega) (ptF_none (fun _ => rfl)), fun _ => rfl, fun _ _ _ h => by cases h⟩
    l := ⟨newRole2 H, gm (H + 1 + 1) _ _ g3.out (by omega) (ptF_none (fun _ => rfl))⟩
    e := ⟨newRole3 H, gm (H + 1 + 1 + 1) _ _ g4.out (by omega) (ptF_none (fun _ => rfl))⟩
    s := ⟨newRole5 H, MapG.keep HM4.out hK5 (show ¬ H + 1 + 1 + 1 + 1 + 1 = H + 1 + 1 + 1 + 1 by omega)⟩ }
end Go.Proofs.YthhepebkfokddaaGreatDoor
/- props: what a file's lines come to: the mathematics. -/
namespace Go.Proofs.YthhepebkfokddaaGreatDoor
open Go Go.RowKit Go.Kt Go.Kt.Rg Go.Maps

theorem ix_some {l : List UInt8} {i : Nat} (h : Lib.indexByte l 10 = (i : Int)) : l.count 10 = 1 + (l.drop (i + 1)).count 10 ∧ (Lib.hasSuffix l [10] = true ↔ l.drop (i + 1) = [] ∨ Lib.hasSuffix (l.drop (i + 1)) [10] = true) ∧ i < l.length ∧ l.take (i + 1) = l.take i ++ [10] ∧ (l.take i).count 10 = 0 := by
  induction l generalizing i with
  | nil => simp [Lib.indexByte] at h
  | cons b t ih =>
    unfold Lib.indexByte at h
    by_cases hb : b = 10
    · subst hb
      simp at h
      obtain rfl : i = 0 := by omega
      refine ⟨by simp; omega, ?_, by simp, rfl, rfl⟩
      simp only [Lib.hasSuffix, Nat.zero_add, List.drop_succ_cons, List.drop_zero, List.isSuffixOf_iff_suffix]
      cases t with
      | nil => simp
      | cons c u =>
        rw [List.suffix_cons_iff]
        constructor
        · rintro (h | h)
          · cases h
          · exact .inr h
        · rintro (h | h)
          · cases h
          · exact .inr h
    · have hbf : (b == 10) = false := by simpa using hb
      rw [hbf] at h
      simp only [Bool.false_eq_true, if_false] at h
      by_cases hn : Lib.indexByte t 10 = -1
      · rw [if_pos (by simpa using hn)] at h
        omega
      · rw [if_neg (by simpa using hn)] at h
        have hnn : ∀ l : List UInt8, -1 ≤ Lib.indexByte l 10 := by
          intro l
          induction l with
          | nil => simp [Lib.indexByte]
          | cons c u ih2 => unfold Lib.indexByte; split; omega; split <;> omega
        have h0 := hnn t
        obtain ⟨j, hj⟩ : ∃ j : Nat, Lib.indexByte t 10 = (j : Int) := ⟨(Lib.indexByte t 10).toNat, by omega⟩
        obtain ⟨h1, h2, h3, h4, h5⟩ := ih hj
        obtain rfl : i = j + 1 := by omega
        refine ⟨?_, ?_, by simp; omega, ?_, ?_⟩
        · rw [List.count_cons_of_ne hb, List.drop_succ_cons]
          exact h1
        · rw [List.drop_succ_cons, ← h2]
          simp only [Lib.hasSuffix, List.isSuffixOf_iff_suffix]
          rw [List.suffix_cons_iff]
          constructor
          · rintro (h | h)
            · injection h with h _; exact absurd h.symm hb
            · exact h
          · exact .inr
        · rw [List.take_succ_cons, h4]; rfl
        · rw [List.take_succ_cons, List.count_cons_of_ne hb]; exact h5
theorem ix_none {l : List UInt8} (h : Lib.indexByte l 10 = -1) : l.count 10 = 0 := by
  induction l with
  | nil => rfl
  | cons b t ih =>
    unfold Lib.indexByte at h
    by_cases hb : b = 10
    · subst hb; simp at h
    · have hbf : (b == 10) = false := by simpa using hb
      rw [hbf] at h
      simp only [Bool.false_eq_true, if_false] at h
      rw [List.count_cons_of_ne hb]
      by_cases hn : Lib.indexByte t 10 = -1
      · exact ih hn
      · rw [if_neg (by simpa using hn)] at h
        have hnn : ∀ l : List UInt8, -1 ≤ Lib.indexByte l 10 := by
          intro l
          induction l with
          | nil => simp [Lib.indexByte]
          | cons c u ih2 => unfold Lib.indexByte; split; omega; split <;> omega
        have := hnn t
        omega
theorem ix_ge (l : List UInt8) : -1 ≤ Lib.indexByte l 10 := by
  induction l with
  | nil => simp [Lib.indexByte]
  | cons c u ih2 => unfold Lib.indexByte; split; omega; split <;> omega
theorem linesP_len (l : List UInt8) : (linesP l).length = lnC l := by
  obtain ⟨n, hn⟩ : ∃ n, l.length ≤ n := ⟨_, Nat.le_refl _⟩
  induction n generalizing l with
  | zero =>
    have : l = [] := List.length_eq_zero_iff.1 (by omega)
    subst this
    simp [linesP_nil, lnC]
  | succ n ih =>
    by_cases h0 : l = []
    · subst h0
      simp [linesP_nil, lnC]
    · by_cases hi : Lib.indexByte l 10 = -1
      · rw [linesP_none h0 hi]
        have hc := ix_none hi
        unfold lnC
        rw [hc, if_neg]
        · rfl
        · rintro (h | h)
          · exact h0 h
          · have h2 : (10 : UInt8) ∈ l := by
              simp only [Lib.hasSuffix, List.isSuffixOf_iff_suffix] at h
              exact h.subset (by simp)
            have := List.count_pos_iff.2 h2
            omega
      · obtain ⟨i, hi2⟩ : ∃ i : Nat, Lib.indexByte l 10 = (i : Int) := ⟨(Lib.indexByte l 10).toNat, by have := ix_ge l; omega⟩
        obtain ⟨h1, h2, h3, _⟩ := ix_some hi2
        rw [linesP_some h0 hi2, List.length_cons, ih _ (by rw [List.length_drop]; omega)]
        unfold lnC
        rw [h1]
        by_cases hs : Lib.hasSuffix l [10] = true
        · rw [if_pos (h2.1 hs), if_pos (Or.inr hs)]; omega
        · rw [if_neg (fun h => hs (h2.2 h)), if_neg (fun h => by rcases h with h | h; exact h0 h; exact hs h)]; omega
theorem linesP_le (l x : List UInt8) (h : x ∈ linesP l) : x.length ≤ l.length := by
  obtain ⟨n, hn⟩ : ∃ n, l.length ≤ n := ⟨_, Nat.le_refl _⟩
  induction n generalizing l with
  | zero =>
    have : l = [] := List.length_eq_zero_iff.1 (by omega)
    subst this
    cases h
  | succ n ih =>
    by_cases h0 : l = []
    · subst h0; cases h
    · by_cases hi : Lib.indexByte l 10 = -1
      · rw [linesP_none h0 hi] at h
        simp at h
        subst h
        exact Nat.le_refl _
      · obtain ⟨i, hi2⟩ : ∃ i : Nat, Lib.indexByte l 10 = (i : Int) := ⟨(Lib.indexByte l 10).toNat, by have := ix_ge l; omega⟩
        obtain ⟨_, _, h3, _⟩ := ix_some hi2
        rw [linesP_some h0 hi2] at h
        rcases List.mem_cons.1 h with h | h
        · subst h
          rw [List.length_take]; omega
        · have := ih _ h (by rw [List.length_drop]; omega)
          rw [List.length_drop] at this
          omega

structure RdOk (k : Nat) (S : RdS) : Prop where
  cs : S.cs.length ≤ k ∧ ∀ r ∈ S.cs, r.1 ≤ r.2.1 ∧ r.2.1 ≤ 1114111
  ks : S.ks.length ≤ k ∧ ∀ r ∈ S.ks, r.1 ≤ r.2.1 ∧ r.2.1 ≤ 1114111
  ds : ∀ x l, S.ds x = some l → (Lib.validRune (x : Int) = true ∧ hanP (x : Int) = false) ∧ (1 ≤ l.length ∧ l.length ≤ 8) ∧ ∀ z ∈ l, Lib.validRune (z : Int) = true
  fs : ∀ x l, S.fs x = some l → Lib.validRune (x : Int) = true ∧ (1 ≤ l.length ∧ l.length ≤ 8) ∧ ∀ z ∈ l, Lib.validRune (z : Int) = true
  ls : ∀ x, (S.ds x).isSome = true → ∃ m, S.ls x = some (m + 1)
theorem RdOk.mono {k k' : Nat} {S : RdS} (h : RdOk k S) (hk : k ≤ k') : RdOk k' S := ⟨⟨Nat.le_trans h.cs.1 hk, h.cs.2⟩, ⟨Nat.le_trans h.ks.1 hk, h.ks.2⟩, h.ds, h.fs, h.ls⟩
theorem rd0_ok : RdOk 0 rd0 := ⟨⟨Nat.le_refl _, fun _ h => (by cases h)⟩, ⟨Nat.le_refl _, fun _ h => (by cases h)⟩, fun _ _ h => (by cases h), fun _ _ h => (by cases h), fun _ h => (by cases h)⟩
theorem spnP_ok {l : List UInt8} (h : (spnP l).1 = 0) : (spnP l).2.1 ≤ (spnP l).2.2 ∧ (spnP l).2.2 ≤ 1114111 := by
  unfold spnP at h ⊢
  generalize numP (Lib.cut l [46, 46]).1 = o1 at h ⊢
  generalize numP (if (Lib.cut l [46, 46]).2.2 = true then (Lib.cut l [46, 46]).2.1 else (Lib.cut l [46, 46]).1) = o2 at h ⊢
  cases o1 with
  | none => simp [spnO] at h
  | some lo =>
    cases o2 with
    | none => simp [spnO] at h
    | some hi =>
      rw [spnO_some] at h ⊢
      by_cases h1 : Lib.validRune (lo : Int) = false ∨ Lib.validRune (hi : Int) = false
      · rw [if_pos h1] at h; cases h
      · rw [if_neg h1] at h ⊢
        by_cases h2 : hi < lo
        · rw [if_pos h2] at h; cases h
        · rw [if_neg h2]
          refine ⟨by simp only; omega, ?_⟩
          have h3 : Lib.validRune (hi : Int) = true := by
            cases h4 : Lib.validRune (hi : Int) with
            | true => rfl
            | false => exact absurd (.inr h4) h1
          exact valid_le h3
theorem rowP_ok {V : List UInt8 → Nat × Int} {ws : List (List UInt8)} (h : (rowP V ws).1 = 0) : (rowP V ws).2.1 ≤ (rowP V ws).2.2.1 ∧ (rowP V ws).2.2.1 ≤ 1114111 := by
  unfold rowP at h ⊢
  by_cases h1 : 2 < ws.length
  · rw [if_pos h1] at h; cases h
  · rw [if_neg h1] at h ⊢
    by_cases h2 : (spnP (ws.getD 0 [])).1 ≠ 0
    · rw [if_pos h2] at h; exact absurd h h2
    · rw [if_neg h2] at h ⊢
      by_cases h3 : (V (ws.getD 1 [])).1 ≠ 0
      · rw [if_pos h3] at h; exact absurd h h3
      · rw [if_neg h3]
        exact spnP_ok (by simpa using h2)
theorem foldP_ok {k : Nat} {S : RdS} {t : List (List UInt8)} (hS : RdOk k S) (h2 : 2 ≤ t.length) (h : (foldP S t).1 = 0) : RdOk (k + 1) (foldP S t).2 := by
  obtain ⟨o, ho⟩ : ∃ o, ptsP t = o := ⟨_, rfl⟩
  obtain ⟨no, l⟩ := o
  by_cases hno : no = 0
  rotate_left
  · rw [foldP_no ho hno] at h
    exact absurd h hno
  · subst hno
    unfold foldP at h ⊢
    rw [ho] at h ⊢
    obtain ⟨q1, q2, q3⟩ := ptsP_ok ho
    cases l with
    | nil => simp at q1; omega
    | cons x u =>
      simp only at h ⊢
      by_cases h3 : (S.fs x).isSome = true
      · rw [if_pos h3] at h; cases h
      · rw [if_neg h3]
        refine ⟨⟨by have := hS.cs.1; simp only; omega, hS.cs.2⟩, ⟨by have := hS.ks.1; simp only; omega, hS.ks.2⟩, hS.ds, fun y m hy => ?_, hS.ls⟩
        simp only [updN] at hy
        by_cases e : y = x
        · rw [if_pos e] at hy
          cases hy
          subst e
          simp only [List.length_cons] at q1
          exact ⟨q3 y List.mem_cons_self, ⟨by omega, by omega⟩, fun z hz => q3 z (List.mem_cons_of_mem _ hz)⟩
        · rw [if_neg e] at hy
          exact hS.fs y m hy
theorem dcmP_ok {k line : Nat} {S : RdS} {t : List (List UInt8)} (hS : RdOk k S) (h2 : 2 ≤ t.length) (h : (dcmP (line + 1) S t).1 = 0) : RdOk (k + 1) (dcmP (line + 1) S t).2 := by
  obtain ⟨o, ho⟩ : ∃ o, ptsP t = o := ⟨_, rfl⟩
  obtain ⟨no, l⟩ := o
  by_cases hno : no = 0
  rotate_left
  · rw [dcmP_no ho hno] at h
    exact absurd h hno
  · subst hno
    unfold dcmP at h ⊢
    rw [ho] at h ⊢
    obtain ⟨q1, q2, q3⟩ := ptsP_ok ho
    cases l with
    | nil => simp at q1; omega
    | cons x u =>
      simp only at h ⊢
      by_cases h3 : (S.ds x).isSome = true
      · rw [if_pos h3] at h; cases h
      · rw [if_neg h3] at h ⊢
        by_cases h4 : hanP (x : Int) = true
        · rw [if_pos h4] at h; cases h
        · rw [if_neg h4]
          refine ⟨⟨by have := hS.cs.1; simp only; omega, hS.cs.2⟩, ⟨by have := hS.ks.1; simp only; omega, hS.ks.2⟩, fun y m hy => ?_, hS.fs, fun y hy => ?_⟩
          · simp only [updN] at hy
            by_cases e : y = x
            · rw [if_pos e] at hy
              cases hy
              subst e
              simp only [List.length_cons] at q1
              exact ⟨⟨q3 y List.mem_cons_self, by simpa using h4⟩, ⟨by omega, by omega⟩, fun z hz => q3 z (List.mem_cons_of_mem _ hz)⟩
            · rw [if_neg e] at hy
              exact hS.ds y m hy
          · simp only [updN] at hy ⊢
            by_cases e : y = x
            · rw [if_pos e]; exact ⟨line, rfl⟩
            · rw [if_neg e] at hy ⊢
              exact hS.ls y hy
theorem takeP_ok {k line : Nat} {S : RdS} {ws : List (List UInt8)} (hS : RdOk k S) (h : (takeP (line + 1) S ws).1 = 0) : RdOk (k + 1) (takeP (line + 1) S ws).2 := by
  cases ws with
  | nil => exact hS.mono (by omega)
  | cons x t =>
    rw [takeP] at h ⊢
    by_cases h1 : x ≠ [99, 108, 97, 115, 115] ∧ x ≠ [107, 105, 110, 100] ∧ x ≠ [102, 111, 108, 100] ∧ x ≠ [100, 101, 99, 111, 109, 112]
    · rw [if_pos h1] at h; cases h
    rw [if_neg h1] at h ⊢
    by_cases h2 : t.length < 2
    · rw [if_pos h2] at h; cases h
    rw [if_neg h2] at h ⊢
    by_cases h3 : x = [99, 108, 97, 115, 115]
    · rw [if_pos h3] at h ⊢
      have hr := rowP_ok h
      refine ⟨⟨by have := hS.cs.1; simp; omega, fun r hr2 => ?_⟩, ⟨by have := hS.ks.1; simp only; omega, hS.ks.2⟩, hS.ds, hS.fs, hS.ls⟩
      simp only [List.mem_append, List.mem_singleton] at hr2
      rcases hr2 with hr2 | hr2
      · exact hS.cs.2 r hr2
      · subst hr2; exact hr
    rw [if_neg h3] at h ⊢
    by_cases h4 : x = [107, 105, 110, 100]
    · rw [if_pos h4] at h ⊢
      have hr := rowP_ok h
      refine ⟨⟨by have := hS.cs.1; simp only; omega, hS.cs.2⟩, ⟨by have := hS.ks.1; simp; omega, fun r hr2 => ?_⟩, hS.ds, hS.fs, hS.ls⟩
      simp only [List.mem_append, List.mem_singleton] at hr2
      rcases hr2 with hr2 | hr2
      · exact hS.ks.2 r hr2
      · subst hr2; exact hr
    rw [if_neg h4] at h ⊢
    by_cases h5 : x = [102, 111, 108, 100]
    · rw [if_pos h5] at h ⊢
      exact foldP_ok hS (by omega) h
    · rw [if_neg h5] at h ⊢
      exact dcmP_ok hS (by omega) h

def readP (line : Nat) (S : RdS) : List (List UInt8) → Nat × Nat × RdS
  | [] => (0, line, S)
  | l :: t => if (takeP (line + 1) S (wrdP l)).1 ≠ 0 then ((takeP (line + 1) S (wrdP l)).1, line + 1, S) else readP (line + 1) (takeP (line + 1) S (wrdP l)).2 t
theorem readP_append (a b : List (List UInt8)) : ∀ (line : Nat) (S : RdS), readP line S (a ++ b) = if (readP line S a).1 ≠ 0 then readP line S a else readP (readP line S a).2.1 (readP line S a).2.2 b := by
  induction a with
  | nil => intro line S; simp [readP]
  | cons x t ih =>
    intro line S
    rw [List.cons_append, readP, readP]
    by_cases h : (takeP (line + 1) S (wrdP x)).1 ≠ 0
    · rw [if_pos h, if_pos h, if_pos h]
    · rw [if_neg h, if_neg h]; exact ih _ _
theorem readP_ok (a : List (List UInt8)) : ∀ (line k : Nat) (S : RdS), RdOk k S → (readP line S a).1 = 0 → RdOk (k + a.length) (readP line S a).2.2 := by
  induction a with
  | nil => intro line k S hS _; exact hS
  | cons x t ih =>
    intro line k S hS h
    rw [readP] at h ⊢
    by_cases h1 : (takeP (line + 1) S (wrdP x)).1 ≠ 0
    · rw [if_pos h1] at h; exact absurd h h1
    · rw [if_neg h1] at h ⊢
      have := ih (line + 1) (k + 1) _ (takeP_ok hS (by simpa using h1)) h
      rw [List.length_cons, show k + (t.length + 1) = k + 1 + t.length by omega]
      exact this
theorem takeP_le (line : Nat) (S : RdS) (ws : List (List UInt8)) : (takeP line S ws).2.le = S.le := by
  cases ws with
  | nil => rfl
  | cons x t =>
    rw [takeP]
    split
    · rfl
    split
    · rfl
    split
    · rfl
    split
    · rfl
    split
    · unfold foldP
      split
      · split <;> rfl
      · rfl
    · unfold dcmP
      split
      · split
        · rfl
        · split <;> rfl
      · rfl
theorem readP_le (a : List (List UInt8)) : ∀ (line : Nat) (S : RdS), (readP line S a).2.2.le = S.le := by
  induction a with
  | nil => intro line S; rfl
  | cons x t ih =>
    intro line S
    rw [readP]
    split
    · rfl
    · rw [ih, takeP_le]
def ringP (S : RdS) (f : Nat) : List Nat → LeT → Nat × Nat
  | [], _ => (0, 0)
  | x :: t, le => if endN (lenF S.ds f le x).1 ≠ 0 then (endN (lenF S.ds f le x).1, (S.ls x).getD 0) else ringP S f t (lenF S.ds f le x).2
def ringL (S : RdS) (f : Nat) : List Nat → LeT → LeT
  | [], le => le
  | x :: t, le => ringL S f t (lenF S.ds f le x).2
theorem ringP_append (S : RdS) (f : Nat) (a b : List Nat) : ∀ le, ringP S f (a ++ b) le = if (ringP S f a le).1 ≠ 0 then ringP S f a le else ringP S f b (ringL S f a le) := by
  induction a with
  | nil => intro le; simp [ringP, ringL]
  | cons x t ih =>
    intro le
    rw [List.cons_append, ringP, ringP, ringL]
    by_cases h : endN (lenF S.ds f le x).1 ≠ 0
    · rw [if_pos h, if_pos h, if_pos h]
    · rw [if_neg h, if_neg h]; exact ih _
end Go.Proofs.YthhepebkfokddaaGreatDoor
