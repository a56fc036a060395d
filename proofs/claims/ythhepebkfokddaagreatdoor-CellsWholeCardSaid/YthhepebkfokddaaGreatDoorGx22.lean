/- Parts of the proof of what the last text says. -/
import Derived.Test.YthhepebkfokddaaGreatDoorUtx
import Derived.Test.YthhepebkfokddaaGreatDoorGx5
import Derived.Test.YthhepebkfokddaaGreatDoorGx21
import Derived.Test.YthhepebkfokddaaGreatDoorGx8
import Derived.Test.YthhepebkfokddaaGreatDoorGx3
import Derived.Test.YthhepebkfokddaaGreatDoorGx12
import Derived.Test.YthhepebkfokddaaGreatDoorGx17
namespace Go.Proofs.YthhepebkfokddaaGreatDoor
open Go Go.RowKit Go.Kt Go.Kt.Rg Go.Maps
def PrOk (g : Nat) (l : List UInt8) (S : RdS) (L : List Nat) (w : World) : Prop := ParseR l 0 (ringP S (L.length + 1) L fun _ => none).2 S L ∧ PrW g S (mdOf S L) w
def fileW : List UInt8 := [99, 108, 97, 115, 115, 32, 48, 51, 48, 48, 32, 50, 51, 48, 10, 107, 105, 110, 100, 32, 48, 48, 52, 49, 32, 108, 101, 116, 116, 101, 114, 10, 102, 111, 108, 100, 32, 48, 48, 52, 49, 32, 48, 48, 54, 49, 10, 100, 101, 99, 111, 109, 112, 32, 48, 48, 67, 48, 32, 48, 48, 52, 49, 32, 48, 51, 48, 48]
def rdW : RdS := ⟨[(768, 768, 230)], [(65, 65, 1)], updN (fun _ => none) 192 [65, 768], updN (fun _ => none) 65 [97], updN (fun _ => none) 192 4, fun _ => none⟩
end Go.Proofs.YthhepebkfokddaaGreatDoor
namespace Go.Proofs.YthhepebkfokddaaGreatDoor
open Go Go.RowKit Go.Kt Go.Kt.Rg Go.Maps
end Go.Proofs.YthhepebkfokddaaGreatDoor
namespace Go.Proofs.YthhepebkfokddaaGreatDoor
open Go Go.RowKit Go.Kt Go.Kt.Rg Go.Maps
end Go.Proofs.YthhepebkfokddaaGreatDoor
namespace Go.Proofs.YthhepebkfokddaaGreatDoor
open Go Go.RowKit Go.Kt Go.Kt.Rg Go.Maps
/-! ### What is taken holds no CR -/
theorem dropw_nil {p : UInt8 → Bool} : ∀ {l : List UInt8}, l.dropWhile p = [] → ∀ x ∈ l, p x = true
 | [], _, _, h => by cases h
 | b :: t, h, x, hx => by
   rw [List.dropWhile_cons] at h
   by_cases hb : p b = true
   ·rw [if_pos hb] at h
    rcases List.mem_cons.1 hx with rfl | hx
    ·exact hb
    ·exact dropw_nil h x hx
   ·rw [if_neg hb] at h; cases h
theorem dropw_head {p : UInt8 → Bool} {x : UInt8} {t : List UInt8} : ∀ {l : List UInt8}, l.dropWhile p = x :: t → p x = false
 | [], h => by cases h
 | b :: u, h => by
   rw [List.dropWhile_cons] at h
   by_cases hb : p b = true
   ·rw [if_pos hb] at h
    exact dropw_head h
   ·rw [if_neg hb] at h
    injection h with h1 _
    subst h1
    simpa using hb
/-! ### What words come to, whatever the lines' numbers -/
def RdE (S T : RdS) : Prop := S.cs = T.cs ∧ S.ks = T.ks ∧ S.ds = T.ds ∧ S.fs = T.fs
def accW : RdS → List (List (List UInt8)) → Option RdS
 | S, [] => some S
 | S, w :: t => if (takeP 1 S w).1 ≠ 0 then none else accW (takeP 1 S w).2 t
def AlkR (S T : RdS) (L : List Nat) (r : Int) : Prop := clsV S r = clsV T r ∧ kndV S r = kndV T r ∧ dcpV S r = dcpV T r ∧ fldV S r = fldV T r ∧ ∀ b, cmpV (mdOf S L) r b = cmpV (mdOf T L) r b
end Go.Proofs.YthhepebkfokddaaGreatDoor
namespace Go.Proofs.YthhepebkfokddaaGreatDoor
open Go Go.RowKit Go.Kt Go.Kt.Rg Go.Maps

structure XdS where
  cs : List (Nat × Nat × Int)
  ks : List (Nat × Nat × Int)
  fl : List Ln3
  dl : List Ln3
def fdL (l : List Ln3) (x : Nat) : Option Ln3 := l.find? fun y => y.1 == x
theorem fdL_snoc (l : List Ln3) (y : Ln3) (x : Nat) : fdL (l ++ [y]) x = match fdL l x with
    | some z => some z
    | none => if y.1 = x then some y else none := by
  unfold fdL
  rw [List.find?_append]
  cases l.find? fun y => y.1 == x with
  | some z => rfl
  | none =>
    simp only [Option.none_or, List.find?_cons, List.find?_nil]
    by_cases h : y.1 = x
    · rw [if_pos h]; simp [h]
    · rw [if_neg h]
      have : (y.1 == x) = false := by simpa using h
      rw [this]
theorem fdL_put {A : Type} (f : Ln3 → A) (l : List Ln3) (y : Ln3) (h : fdL l y.1 = none) (x : Nat) : (fdL (l ++ [y]) x).map f = updN (fun x => (fdL l x).map f) y.1 (f y) x := by
  rw [fdL_snoc]
  unfold updN
  by_cases e : x = y.1
  · subst e
    rw [h, if_pos rfl]; simp
  · rw [if_neg e]
    cases hl : fdL l x with
    | some z => simp only [hl]
    | none =>
      simp only [hl]
      rw [if_neg (fun h => e h.symm)]
theorem spk_fd (l : List Ln3) (x : Nat) : spkL l (x : Int) = (fdL l x).isSome := by
  induction l with
  | nil => rfl
  | cons y t ih =>
    unfold spkL fdL at ih ⊢
    rw [List.any_cons, List.find?_cons, ih]
    by_cases h : y.1 = x
    · subst h; simp
    · have h1 : ((y.1 : Int) == (x : Int)) = false := by rw [beq_eq_false_iff_ne]; omega
      have h2 : (y.1 == x) = false := by simpa using h
      rw [h1, h2]; rfl
theorem of_fd (l : List Ln3) (r : Int) : ofL l r = atZ (fun x => (fdL l x).map (·.2.1)) r := by
  unfold atZ
  by_cases h0 : 0 ≤ r
  · rw [if_pos h0]
    obtain ⟨n, rfl⟩ : ∃ n : Nat, r = (n : Int) := ⟨r.toNat, by omega⟩
    rw [Int.toNat_natCast]
    induction l with
    | nil => rfl
    | cons y t ih =>
      rw [ofL_cons, ih]
      unfold fdL
      simp only [List.find?_cons]
      by_cases h : y.1 = n
      · subst h; simp
      · have h2 : (y.1 == n) = false := by simpa using h
        rw [if_neg (by omega), h2]
  · rw [if_neg h0]
    induction l with
    | nil => rfl
    | cons y t ih => rw [ofL_cons, ih, if_neg (by omega)]
structure XRel (X : XdS) (S : RdS) : Prop where
  cs : S.cs = X.cs
  ks : S.ks = X.ks
  fs : S.fs = fun x => (fdL X.fl x).map (·.2.1)
  ds : S.ds = fun x => (fdL X.dl x).map (·.2.1)
  ls : S.ls = fun x => (fdL X.dl x).map (·.2.2)
  nd : (X.dl.map (·.1)).Nodup
theorem xrel0 : XRel ⟨[], [], [], []⟩ rd0 := ⟨rfl, rfl, rfl, rfl, rfl, List.nodup_nil⟩
theorem fd_mem {l : List Ln3} (hn : (l.map (·.1)).Nodup) {y : Ln3} (hy : y ∈ l) : fdL l y.1 = some y := by
  induction l with
  | nil => cases hy
  | cons z t ih =>
    unfold fdL at ih ⊢
    rw [List.map_cons, List.nodup_cons] at hn
    rw [List.find?_cons]
    rcases List.mem_cons.1 hy with rfl | hy
    · simp
    · have : (z.1 == y.1) = false := by
        rw [beq_eq_false_iff_ne]
        intro e
        exact hn.1 (by rw [e]; exact List.mem_map_of_mem hy)
      rw [this]
      exact ih hn.2 hy
theorem fd_some {l : List Ln3} {x : Nat} {y : Ln3} (h : fdL l x = some y) : y ∈ l ∧ y.1 = x := by
  unfold fdL at h
  exact ⟨List.mem_of_find?_eq_some h, by simpa using List.find?_some h⟩
variable {X : XdS} {S : RdS}
theorem XRel.dcp (h : XRel X S) (r : Int) : (ofL X.dl r).getD [] = (atZ S.ds r).getD [] := by rw [of_fd, h.ds]
theorem XRel.fspk (h : XRel X S) (x : Nat) : spkL X.fl (x : Int) = (S.fs x).isSome := by
  rw [spk_fd, h.fs]; simp
theorem XRel.dspk (h : XRel X S) (x : Nat) : spkL X.dl (x : Int) = (S.ds x).isSome := by
  rw [spk_fd, h.ds]; simp
theorem XRel.cls (h : XRel X S) (r : Nat × Nat × Int) : XRel { X with cs := X.cs ++ [r] } { S with cs := S.cs ++ [r] } := ⟨by simp only [h.cs], h.ks, h.fs, h.ds, h.ls, h.nd⟩
theorem XRel.knd (h : XRel X S) (r : Nat × Nat × Int) : XRel { X with ks := X.ks ++ [r] } { S with ks := S.ks ++ [r] } := ⟨h.cs, by simp only [h.ks], h.fs, h.ds, h.ls, h.nd⟩
theorem XRel.fold (h : XRel X S) {x : Nat} (hx : (S.fs x).isSome = false) (u : List Nat) (at_ : Nat) : XRel { X with fl := X.fl ++ [(x, u, at_)] } { S with fs := updN S.fs x u } := by
  refine ⟨h.cs, h.ks, ?_, h.ds, h.ls, h.nd⟩
  have h0 : fdL X.fl x = none := by rw [h.fs] at hx; simpa using hx
  funext z
  have := fdL_put (·.2.1) X.fl (x, u, at_) h0 z
  simp only at this ⊢
  rw [this, h.fs]
theorem XRel.dec (h : XRel X S) {x : Nat} (hx : (S.ds x).isSome = false) (u : List Nat) (at_ : Nat) : XRel { X with dl := X.dl ++ [(x, u, at_)] } { S with ds := updN S.ds x u, ls := updN S.ls x at_ } := by
  have h0 : fdL X.dl x = none := by rw [h.ds] at hx; simpa using hx
  refine ⟨h.cs, h.ks, h.fs, ?_, ?_, ?_⟩
  · funext z
    have := fdL_put (·.2.1) X.dl (x, u, at_) h0 z
    simp only at this ⊢
    rw [this, h.ds]
  · funext z
    have := fdL_put (·.2.2) X.dl (x, u, at_) h0 z
    simp only at this ⊢
    rw [this, h.ls]
  · simp only [List.map_append, List.map_cons, List.map_nil]
    refine List.nodup_append.2 ⟨h.nd, (by simp), ?_⟩
    intro a ha b hb
    rw [List.mem_singleton] at hb
    subst hb
    rintro rfl
    obtain ⟨y, hy, e⟩ := List.mem_map.1 ha
    rw [← e, fd_mem h.nd hy] at h0
    cases h0
theorem XRel.mem (h : XRel X S) (x : Nat) : (S.ds x).isSome = true ↔ ∃ y ∈ X.dl, y.1 = x := by
  rw [h.ds]
  constructor
  · intro h1
    cases hf : fdL X.dl x with
    | none => simp only [hf] at h1; cases h1
    | some y => exact ⟨y, fd_some hf⟩
  · rintro ⟨y, hy, rfl⟩
    simp only [fd_mem h.nd hy]; rfl
theorem XRel.at (h : XRel X S) {y : Ln3} (hy : y ∈ X.dl) : S.ds y.1 = some y.2.1 ∧ S.ls y.1 = some y.2.2 := by
  rw [h.ds, h.ls]
  simp only
  rw [fd_mem h.nd hy]
  exact ⟨rfl, rfl⟩
def LstB (ds : DsT) (l : List Ln3) (least : Int) (no line : Nat) : Prop :=
  (least = -1 ∧ no = 0 ∧ line = 0 ∧ ∀ y ∈ l, FineD ds y.1) ∨ ∃ y ∈ l, least = (y.1 : Nat) ∧ BadN ds y.1 no ∧ line = y.2.2 ∧ ∀ z ∈ l, (FineD ds z.1 ∨ y.1 ≤ z.1)
theorem lstB_nil (ds : DsT) : LstB ds [] (-1) 0 0 := .inl ⟨rfl, rfl, rfl, fun y h => by cases h⟩
theorem LstB.fine {ds : DsT} {l : List Ln3} {least : Int} {no line : Nat} {x : Ln3} (h : LstB ds l least no line) (hx : FineD ds x.1) : LstB ds (l ++ [x]) least no line := by
  rcases h with ⟨h1, h2, h3, h4⟩ | ⟨y, h1, h2, h3, h4, h5⟩
  · refine .inl ⟨h1, h2, h3, fun y hy => ?_⟩
    rcases List.mem_append.1 hy with hy | hy
    · exact h4 y hy
    · rw [List.mem_singleton.1 hy]; exact hx
  · refine .inr ⟨y, List.mem_append_left _ h1, h2, h3, h4, fun z hz => ?_⟩
    rcases List.mem_append.1 hz with hz | hz
    · exact h5 z hz
    · rw [List.mem_singleton.1 hz]; exact .inl hx
theorem LstB.far {ds : DsT} {l : List Ln3} {least : Int} {no line : Nat} {x : Ln3} (h : LstB ds l least no line) (h0 : 0 ≤ least) (hx : least < (x.1 : Int)) : LstB ds (l ++ [x]) least no line := by
  rcases h with ⟨h1, _⟩ | ⟨y, h1, h2, h3, h4, h5⟩
  · omega
  · refine .inr ⟨y, List.mem_append_left _ h1, h2, h3, h4, fun z hz => ?_⟩
    rcases List.mem_append.1 hz with hz | hz
    · exact h5 z hz
    · rw [List.mem_singleton.1 hz]; exact .inr (by omega)
theorem LstB.new {ds : DsT} {l : List Ln3} {least : Int} {no line no' : Nat} {x : Ln3} (h : LstB ds l least no line) (h0 : ¬ (0 ≤ least ∧ least < (x.1 : Int))) (hx : BadN ds x.1 no') : LstB ds (l ++ [x]) (x.1 : Nat) no' x.2.2 := by
  refine .inr ⟨x, List.mem_append_right _ (List.mem_singleton_self _), rfl, hx, rfl, fun z hz => ?_⟩
  rcases List.mem_append.1 hz with hz | hz
  · rcases h with ⟨_, _, _, h4⟩ | ⟨y, h1, h2, h3, h4, h5⟩
    · exact .inl (h4 z hz)
    · rcases h5 z hz with h | h
      · exact .inl h
      · exact .inr (by omega)
  · rw [List.mem_singleton.1 hz]; exact .inr (Nat.le_refl _)
theorem lst_ring (h : XRel X S) {L : List Nat} (hp : L.Pairwise (· < ·)) (hm : ∀ x, x ∈ L ↔ (S.ds x).isSome = true) {least : Int} {no line : Nat} (hl : LstB S.ds X.dl least no line) :
    ringP S (L.length + 1) L (fun _ => none) = (no, line) ∧ (least = -1 ↔ no = 0) ∧ -1 ≤ least := by
  rcases ringP_spec S L (L.length + 1) (fun y hy => (hm y).2 hy) (Nat.lt_succ_self _) L _ (leInv_none _) leOk_none with ⟨q1, q2⟩ | ⟨a, x, b, k, rfl, q2, q3, q4⟩
  · rcases hl with ⟨h1, h2, h3, _⟩ | ⟨y, h1, h2, h3, _⟩
    · rw [q1, h1, h2, h3]; exact ⟨rfl, by simp, by omega⟩
    · exact absurd (q2 _ ((hm _).2 ((h.mem _).2 ⟨y, h1, rfl⟩))) h3.not
  · obtain ⟨y, hy, rfl⟩ := (h.mem _).1 ((hm x).1 (by simp))
    rcases hl with ⟨_, _, _, h4⟩ | ⟨z, h1, h2, h3, h4, h5⟩
    · exact absurd (h4 y hy) q3.not
    · have hz : z.1 = y.1 := by
        have hzL := (hm z.1).2 ((h.mem _).2 ⟨z, h1, rfl⟩)
        rcases List.mem_append.1 hzL with hza | hza
        · exact absurd (q2 _ hza) h3.not
        · rcases List.mem_cons.1 hza with e | hzb
          · exact e
          · have := (List.pairwise_append.1 hp).2.1
            have h6 := (List.pairwise_cons.1 this).1 _ hzb
            rcases h5 y hy with h7 | h7
            · exact absurd h7 q3.not
            · omega
      have e1 := (h.at h1).2
      rw [hz] at h3 e1
      rw [q4, e1, h4, q3.uniq h3]
      exact ⟨rfl, by have := h3.ne; omega, by omega⟩
def allD (S : RdS) : List Nat := (List.range 1114112).filter fun x => (S.ds x).isSome
theorem allD_rise (S : RdS) : (allD S).Pairwise (· < ·) := List.Pairwise.filter _ List.pairwise_lt_range
theorem allD_mem {k : Nat} (hS : RdOk k S) (x : Nat) : x ∈ allD S ↔ (S.ds x).isSome = true := by
  unfold allD
  rw [List.mem_filter, List.mem_range]
  refine ⟨fun h => h.2, fun h => ⟨?_, h⟩⟩
  cases hd : S.ds x with
  | none => rw [hd] at h; cases h
  | some l =>
    have := (hS.ds x l hd).1.1
    have := valid_le this
    omega
theorem ParseR.uniq {l : List UInt8} {a b la lb : Nat} {S T : RdS} {L M : List Nat} (h : ParseR l a la S L) (h2 : ParseR l b lb T M) : a = b ∧ la = lb ∧ (a = 0 → S = T ∧ L = M) := by
  rcases h with ⟨h0, h1, h3⟩ | ⟨h0, h1, h3, h4⟩ | ⟨h0, h1, h3, h4, h5, h6, h7⟩ <;> rcases h2 with ⟨k0, k1, k3⟩ | ⟨k0, k1, k3, k4⟩ | ⟨k0, k1, k3, k4, k5, k6, k7⟩
  · exact ⟨by omega, by omega, fun e => by omega⟩
  · exact absurd h0 k0
  · exact absurd h0 k0
  · exact absurd k0 h0
  · exact ⟨by omega, by omega, fun e => absurd (h3.symm.trans e) h1⟩
  · exact absurd k1 h1
  · exact absurd k0 h0
  · exact absurd h1 k1
  · have hS : S = T := h3.trans k3.symm
    subst hS
    have hL : L = M := rise_eq h4 k4 (fun x => (h5 x).trans (k5 x).symm)
    subst hL
    exact ⟨h6.trans k6.symm, h7.trans k7.symm, fun _ => ⟨rfl, rfl⟩⟩
end Go.Proofs.YthhepebkfokddaaGreatDoor
namespace Go.Proofs.YthhepebkfokddaaGreatDoor
open Go Go.RowKit Go.Kt Go.Kt.Rg Go.Maps
def rfE (l : List (Nat × Nat × Int)) : List Value := l.flatMap fun r => [.int .i64 r.1, .int .i64 r.2.1, .int .i64 r.2.2]
theorem rfE_snoc (l : List (Nat × Nat × Int)) (r : Nat × Nat × Int) : rfE (l ++ [r]) = rfE l ++ [.int .i64 r.1, .int .i64 r.2.1, .int .i64 r.2.2] := by simp [rfE]
def lnE (l : List (Ln3 × Value)) : List Value := l.flatMap fun r => [.int .i64 (r.1.1 : Nat), r.2, .int .i64 (r.1.2.2 : Nat)]
theorem lnE_snoc (l : List (Ln3 × Value)) (r : Ln3 × Value) : lnE (l ++ [r]) = lnE l ++ [.int .i64 (r.1.1 : Nat), r.2, .int .i64 (r.1.2.2 : Nat)] := by simp [lnE]
theorem rfE_at {l : List (Nat × Nat × Int)} {i : Nat} {r : Nat × Nat × Int} (h : l[i]? = some r) : (rfE l)[i * 3]? = some (.int .i64 r.1) ∧ (rfE l)[i * 3 + 1]? = some (.int .i64 r.2.1) ∧ (rfE l)[i * 3 + 2]? = some (.int .i64 r.2.2) := by
 induction l generalizing i with
 | nil => simp at h
 | cons x t ih =>
   unfold rfE
   rw [List.flatMap_cons]
   cases i with
   | zero => simp at h; subst h; exact ⟨rfl, rfl, rfl⟩
   | succ i =>
     have := ih (i := i) (by simpa using h)
     rw [show (i + 1) * 3 = i * 3 + 3 by omega]
     exact this
theorem lnE_at {l : List (Ln3 × Value)} {i : Nat} {r : Ln3 × Value} (h : l[i]? = some r) : (lnE l)[i * 3]? = some (.int .i64 (r.1.1 : Nat)) ∧ (lnE l)[i * 3 + 1]? = some r.2 ∧ (lnE l)[i * 3 + 2]? = some (.int .i64 (r.1.2.2 : Nat)) := by
 induction l generalizing i with
 | nil => simp at h
 | cons x t ih =>
   unfold lnE
   rw [List.flatMap_cons]
   cases i with
   | zero => simp at h; subst h; exact ⟨rfl, rfl, rfl⟩
   | succ i =>
     have := ih (i := i) (by simpa using h)
     rw [show (i + 1) * 3 = i * 3 + 3 by omega]
     exact this
def ToV (ρ : Nat → Nat) (v : Value) (l : List Nat) (w : World) : Prop :=
 ∃ ao cap, v = .slice ao l.length cap ∧ (l = [] ∨ ∃ b, ao = some ⟨b, 0, none⟩ ∧ ρ b = 0 ∧ b < w.heap.size ∧ ∀ (i : Nat) (x : Nat), l[i]? = some x → w.cell? ⟨b, i, none⟩ = some (.int .i32 (x : Nat)))
theorem ToV.keep {ρ : Nat → Nat} {v : Value} {l : List Nat} {X : Nat → Prop} {A B : World} (h : ToV ρ v l A) (hk : Keep X A B) (hX : ∀ b, X b → ρ b ≠ 0) : ToV ρ v l B := by
 obtain ⟨ao, cap, rfl, h⟩ := h
 refine ⟨ao, cap, rfl, ?_⟩
 rcases h with h | ⟨b, h1, h2, h3, h4⟩
 ·exact .inl h
 ·exact .inr ⟨b, h1, h2, Nat.lt_of_lt_of_le h3 hk.size, fun i x hx => hk.cell (h4 i x hx) (fun e => hX _ e h2)⟩
theorem ToV.role {ρ ρ' : Nat → Nat} {v : Value} {l : List Nat} {w : World} (h : ToV ρ v l w) (e : ∀ b, b < w.heap.size → ρ' b = ρ b) : ToV ρ' v l w := by
 obtain ⟨ao, cap, rfl, h⟩ := h
 refine ⟨ao, cap, rfl, ?_⟩
 rcases h with h | ⟨b, h1, h2, h3, h4⟩
 ·exact .inl h
 ·exact .inr ⟨b, h1, (e b h3).trans h2, h3, h4⟩
theorem ToV.sl {ρ : Nat → Nat} {v : Value} {l : List Nat} {w : World} (h : ToV ρ v l w) : Sl .i32 w v (toZ l) := by
 obtain ⟨ao, cap, rfl, h⟩ := h
 rw [← toZ_len l]
 refine ⟨ao, cap, rfl, ?_⟩
 rcases h with h | ⟨b, h1, h2, h3, h4⟩
 ·exact .inl (by rw [h]; rfl)
 ·refine .inr ⟨b, 0, h1, fun i x hx => ?_⟩
  rw [Nat.zero_add]
  unfold toZ at hx
  rw [List.getElem?_map] at hx
  cases hl : l[i]? with
  | none => rw [hl] at hx; cases hx
  | some y =>
    rw [hl] at hx
    have := h4 i y hl
    rw [this]
    exact congrArg some (by rw [← Option.some.inj hx])
def LnO (ρ : Nat → Nat) (k : Nat) (v : Value) (l : List Ln3) (w : World) : Prop :=
 ∃ z : List (Ln3 × Value), z.map (·.1) = l ∧ OwnS (fun b => ρ b = k) 120 3 v l.length (lnE z) w ∧ ∀ p ∈ z, ToV ρ p.2 p.1.2.1 w
theorem LnO.keep {ρ : Nat → Nat} {k : Nat} {v : Value} {l : List Ln3} {X : Nat → Prop} {A B : World} (h : LnO ρ k v l A) (hk : Keep X A B) (hX : ∀ b, X b → ρ b ≠ k ∧ ρ b ≠ 0) : LnO ρ k v l B := by
 obtain ⟨z, h1, h2, h3⟩ := h
 exact ⟨z, h1, h2.keep hk (fun b hb => (hX b hb).1), fun p hp => (h3 p hp).keep hk (fun b hb => (hX b hb).2)⟩
theorem LnO.role {ρ ρ' : Nat → Nat} {k : Nat} {v : Value} {l : List Ln3} {w : World} (h : LnO ρ k v l w) (e : ∀ b, b < w.heap.size → ρ' b = ρ b) : LnO ρ' k v l w := by
 obtain ⟨z, h1, h2, h3⟩ := h
 exact ⟨z, h1, own_role h2 e, fun p hp => (h3 p hp).role e⟩
theorem rf_of {Y : Nat → Prop} {v : Value} {l : List (Nat × Nat × Int)} {w : World} (h : OwnS Y 154 3 v l.length (rfE l) w) : RfW w v l := by
 rcases h.shape with ⟨h1, h0⟩ | ⟨g, cap, h1, _⟩
 ·exact ⟨none, 0, by rw [h1, h0], .inl (List.length_eq_zero_iff.1 h0)⟩
 ·subst h1
  exact ⟨_, cap, rfl, .inr ⟨g, rfl, fun i r hr => ⟨h.atN (rfE_at hr).1, h.atN (rfE_at hr).2.1, h.atN (rfE_at hr).2.2⟩⟩⟩
theorem LnO.lf {ρ : Nat → Nat} {k : Nat} {v : Value} {l : List Ln3} {w : World} (h : LnO ρ k v l w) : LfW w v l := by
 obtain ⟨z, h1, h2, h3⟩ := h
 rcases h2.shape with ⟨e, h0⟩ | ⟨g, cap, e, _⟩
 ·exact ⟨none, 0, by rw [e, h0], .inl (List.length_eq_zero_iff.1 h0)⟩
 ·subst e
  refine ⟨_, cap, rfl, .inr ⟨g, rfl, fun i r hr => ?_⟩⟩
  obtain ⟨p, hp, rfl⟩ : ∃ p, z[i]? = some p ∧ p.1 = r := by
   rw [← h1, List.getElem?_map] at hr
   cases hz : z[i]? with
   | none => rw [hz] at hr; cases hr
   | some p => rw [hz] at hr; exact ⟨p, rfl, Option.some.inj hr⟩
  obtain ⟨q1, q2, q3⟩ := lnE_at hp
  exact ⟨h2.atN q1, ⟨p.2, h2.atN q2, (h3 p (List.mem_of_getElem? hp)).sl⟩, h2.atN q3⟩
structure PxW (B0 : Nat) (ρ : Nat → Nat) (g : Nat) (X : XdS) (cv kv fv dv : Value) (w : World) : Prop where
 hr : ∀ b, ρ b ≠ 0 → B0 ≤ b
 hB : B0 ≤ w.heap.size
 rg : ρ g = 1
 cell : w.heap[g]? = some (.cells #[cv, kv, fv, dv] 115 (0, 0))
 c : OwnS (fun b => ρ b = 2) 154 3 cv X.cs.length (rfE X.cs) w
 k : OwnS (fun b => ρ b = 3) 154 3 kv X.ks.length (rfE X.ks) w
 f : LnO ρ 4 fv X.fl w
 d : LnO ρ 5 dv X.dl w
variable {B0 g : Nat} {ρ : Nat → Nat} {X : XdS} {cv kv fv dv : Value} {w w' : World}
theorem PxW.gl (h : PxW B0 ρ g X cv kv fv dv w) : g < w.heap.size := (Array.getElem?_eq_some_iff.1 h.cell).1
theorem PxW.role {ρ' : Nat → Nat} (h : PxW B0 ρ g X cv kv fv dv w) (e : ∀ b, b < w.heap.size → ρ' b = ρ b) (h0 : ∀ b, w.heap.size ≤ b → ρ' b ≠ 0 → B0 ≤ b) : PxW B0 ρ' g X cv kv fv dv w where
 hr b hb := by
  by_cases h1 : b < w.heap.size
  ·exact h.hr b (by rw [← e b h1]; exact hb)
  ·exact h0 b (by omega) hb
 hB := h.hB
 rg := (e _ h.gl).trans h.rg
 cell := h.cell
 c := own_role h.c e
 k := own_role h.k e
 f := h.f.role e
 d := h.d.role e
theorem PxW.role_more (h : PxW B0 ρ g X cv kv fv dv w) (k : Nat) : PxW B0 (moreR w ρ k) g X cv kv fv dv w :=
 h.role (fun b hb => moreR_old b hb) (fun _ hb _ => Nat.le_trans h.hB hb)
theorem PxW.below (h : PxW B0 ρ g X cv kv fv dv w) (hb : Below w.heap.size w w') : PxW B0 ρ g X cv kv fv dv w' where
 hr := h.hr
 hB := Nat.le_trans h.hB hb.size
 rg := h.rg
 cell := (hb.block g h.gl).trans h.cell
 c := h.c.keep (X := fun _ => False) (Keep.of_all hb) (fun _ h => h.elim)
 k := h.k.keep (X := fun _ => False) (Keep.of_all hb) (fun _ h => h.elim)
 f := h.f.keep (X := fun _ => False) (Keep.of_all hb) (fun _ h => h.elim)
 d := h.d.keep (X := fun _ => False) (Keep.of_all hb) (fun _ h => h.elim)
theorem PxW.rp (h : PxW B0 ρ g X cv kv fv dv w) : RpW g X.cs X.ks fv dv w := ⟨cv, kv, h.cell, rf_of h.c, rf_of h.k⟩
theorem PxW.newc (h : PxW B0 ρ g X cv kv fv dv w) {v' : Value} {l' : List (Nat × Nat × Int)} (hk : Keep (fun b => b = g ∨ cv.ownBlock = some b) w w') (hc : w'.heap[g]? = some (.cells #[v', kv, fv, dv] 115 (0, 0)))
 (ho : OwnS (fun b => (cv.ownBlock = some b ∨ w.heap.size ≤ b) ∧ b ≠ g) 154 3 v' l'.length (rfE l') w') : PxW B0 (moreR w ρ 2) g { X with cs := l' } v' kv fv dv w' := by
 have H := h.role_more 2
 have hX : ∀ b, (b = g ∨ cv.ownBlock = some b) → moreR w ρ 2 b = 1 ∨ moreR w ρ 2 b = 2 := fun b hb => by
  rcases hb with rfl | hb
  ·exact .inl H.rg
  ·exact .inr (H.c.2 b hb)
 exact {
  hr := H.hr, hB := Nat.le_trans h.hB hk.size, rg := H.rg, cell := hc
  c := ho.weaken (fun b hb => by
   rcases hb.1 with h1 | h1
   ·exact H.c.2 b h1
   ·exact moreR_new b h1)
  k := H.k.keep hk (fun b hb h3 => by have := hX b hb; omega)
  f := H.f.keep hk (fun b hb => by have := hX b hb; omega)
  d := H.d.keep hk (fun b hb => by have := hX b hb; omega) }
theorem PxW.newk (h : PxW B0 ρ g X cv kv fv dv w) {v' : Value} {l' : List (Nat × Nat × Int)} (hk : Keep (fun b => b = g ∨ kv.ownBlock = some b) w w') (hc : w'.heap[g]? = some (.cells #[cv, v', fv, dv] 115 (0, 0)))
 (ho : OwnS (fun b => (kv.ownBlock = some b ∨ w.heap.size ≤ b) ∧ b ≠ g) 154 3 v' l'.length (rfE l') w') : PxW B0 (moreR w ρ 3) g { X with ks := l' } cv v' fv dv w' := by
 have H := h.role_more 3
 have hX : ∀ b, (b = g ∨ kv.ownBlock = some b) → moreR w ρ 3 b = 1 ∨ moreR w ρ 3 b = 3 := fun b hb => by
  rcases hb with rfl | hb
  ·exact .inl H.rg
  ·exact .inr (H.k.2 b hb)
 exact {
  hr := H.hr, hB := Nat.le_trans h.hB hk.size, rg := H.rg, cell := hc
  k := ho.weaken (fun b hb => by
   rcases hb.1 with h1 | h1
   ·exact H.k.2 b h1
   ·exact moreR_new b h1)
  c := H.c.keep hk (fun b hb h3 => by have := hX b hb; omega)
  f := H.f.keep hk (fun b hb => by have := hX b hb; omega)
  d := H.d.keep hk (fun b hb => by have := hX b hb; omega) }
theorem PxW.newf (h : PxW B0 ρ g X cv kv fv dv w) {v' u : Value} {x : Ln3} (z : List (Ln3 × Value)) (hz : z.map (·.1) = X.fl) (hto : ∀ p ∈ z, ToV ρ p.2 p.1.2.1 w) (hu : ToV ρ u x.2.1 w) (hk : Keep (fun b => b = g ∨ fv.ownBlock = some b) w w') (hc : w'.heap[g]? = some (.cells #[cv, kv, v', dv] 115 (0, 0)))
 (ho : OwnS (fun b => (fv.ownBlock = some b ∨ w.heap.size ≤ b) ∧ b ≠ g) 120 3 v' (z.length + 1) (lnE (z ++ [(x, u)])) w') : PxW B0 (moreR w ρ 4) g { X with fl := X.fl ++ [x] } cv kv v' dv w' := by
 have H := h.role_more 4
 have hf : ∀ b, fv.ownBlock = some b → moreR w ρ 4 b = 4 := fun b hb => by
  obtain ⟨_, _, h2, _⟩ := H.f
  exact h2.2 b hb
 have hX : ∀ b, (b = g ∨ fv.ownBlock = some b) → moreR w ρ 4 b = 1 ∨ moreR w ρ 4 b = 4 := fun b hb => by
  rcases hb with rfl | hb
  ·exact .inl H.rg
  ·exact .inr (hf b hb)
 have hto' : ∀ {v : Value} {l : List Nat}, ToV ρ v l w → ToV (moreR w ρ 4) v l w' := fun h1 => (h1.role (fun b hb => moreR_old b hb)).keep hk (fun b hb => by have := hX b hb; omega)
 exact {
  hr := H.hr, hB := Nat.le_trans h.hB hk.size, rg := H.rg, cell := hc
  c := H.c.keep hk (fun b hb h3 => by have := hX b hb; omega)
  k := H.k.keep hk (fun b hb h3 => by have := hX b hb; omega)
  f := ⟨z ++ [(x, u)], by simp [hz], by
   have hl : (X.fl ++ [x]).length = z.length + 1 := by simp [← hz]
   simp only [hl]
   exact ho.weaken (fun b hb => by
    rcases hb.1 with h1 | h1
    ·exact hf b h1
    ·exact moreR_new b h1), fun p hp => by
    rcases List.mem_append.1 hp with hp | hp
    ·exact hto' (hto p hp)
    ·rw [List.mem_singleton] at hp
     subst hp
     exact hto' hu⟩
  d := H.d.keep hk (fun b hb => by have := hX b hb; omega) }
theorem PxW.newd (h : PxW B0 ρ g X cv kv fv dv w) {v' u : Value} {x : Ln3} (z : List (Ln3 × Value)) (hz : z.map (·.1) = X.dl) (hto : ∀ p ∈ z, ToV ρ p.2 p.1.2.1 w) (hu : ToV ρ u x.2.1 w) (hk : Keep (fun b => b = g ∨ dv.ownBlock = some b) w w') (hc : w'.heap[g]? = some (.cells #[cv, kv, fv, v'] 115 (0, 0)))
 (ho : OwnS (fun b => (dv.ownBlock = some b ∨ w.heap.size ≤ b) ∧ b ≠ g) 120 3 v' (z.length + 1) (lnE (z ++ [(x, u)])) w') : PxW B0 (moreR w ρ 5) g { X with dl := X.dl ++ [x] } cv kv fv v' w' := by
 have H := h.role_more 5
 have hf : ∀ b, dv.ownBlock = some b → moreR w ρ 5 b = 5 := fun b hb => by
  obtain ⟨_, _, h2, _⟩ := H.d
  exact h2.2 b hb
 have hX : ∀ b, (b = g ∨ dv.ownBlock = some b) → moreR w ρ 5 b = 1 ∨ moreR w ρ 5 b = 5 := fun b hb => by
  rcases hb with rfl | hb
  ·exact .inl H.rg
  ·exact .inr (hf b hb)
 have hto' : ∀ {v : Value} {l : List Nat}, ToV ρ v l w → ToV (moreR w ρ 5) v l w' := fun h1 => (h1.role (fun b hb => moreR_old b hb)).keep hk (fun b hb => by have := hX b hb; omega)
 exact {
  hr := H.hr, hB := Nat.le_trans h.hB hk.size, rg := H.rg, cell := hc
  c := H.c.keep hk (fun b hb h3 => by have := hX b hb; omega)
  k := H.k.keep hk (fun b hb h3 => by have := hX b hb; omega)
  f := H.f.keep hk (fun b hb => by have := hX b hb; omega)
  d := ⟨z ++ [(x, u)], by simp [hz], by
   have hl : (X.dl ++ [x]).length = z.length + 1 := by simp [← hz]
   simp only [hl]
   exact ho.weaken (fun b hb => by
    rcases hb.1 with h1 | h1
    ·exact hf b h1
    ·exact moreR_new b h1), fun p hp => by
    rcases List.mem_append.1 hp with hp | hp
    ·exact hto' (hto p hp)
    ·rw [List.mem_singleton] at hp
     subst hp
     exact hto' hu⟩ }
def PxOut (B0 g N no : Nat) (E : RdS) (w : World) (e : Ending) (w' : World) : Prop :=
 e = .returned (.int .i64 (no : Nat)) ∧ Below B0 w w' ∧ ∃ ρ X cv kv fv dv, PxW B0 ρ g X cv kv fv dv w' ∧ (no = 0 → XRel X E) ∧ X.fl.length ≤ N ∧ X.dl.length ≤ N
end Go.Proofs.YthhepebkfokddaaGreatDoor
namespace Go.Proofs.YthhepebkfokddaaGreatDoor
open Go Go.RowKit Go.Kt Go.Kt.Rg Go.Maps
def xdcpV (l : List Ln3) (r : Int) : List Nat := if sylP r then partsP (r - 44032).toNat else (ofL l r).getD []
def fullD (dl : List Ln3) : Nat → Nat → Option Nat
 | 0, _ => none
 | f + 1, r => if xdcpV dl (r : Int) = [] then some 1 else sumO (fullD dl f) (xdcpV dl (r : Int))
variable {X : XdS} {S : RdS} {k : Nat}
theorem sumO_ones {g : Nat → Option Nat} : ∀ {l : List Nat}, (∀ y ∈ l, g y = some 1) → sumO g l = some l.length
 | [], _ => rfl
 | y :: t, h => by
   rw [sumO, h y List.mem_cons_self, sumO_ones (fun z hz => h z (List.mem_cons_of_mem _ hz)), List.length_cons, Nat.add_comm]
theorem parts_jam {n : Nat} (hn : n < 11172) : ∀ y ∈ partsP n, hanP (y : Int) = true ∧ sylP (y : Int) = false := by
 intro y hy
 have h : jamP (y : Int) = true := by
  rw [jam_iff]
  unfold partsP at hy
  simp only [List.mem_append, List.mem_cons, List.not_mem_nil, or_false] at hy
  rcases hy with (rfl | rfl) | hy
  ·simp; omega
  ·simp; omega
  ·split at hy
   ·cases hy
   ·rename_i h0
    rw [List.mem_singleton] at hy
    subst hy
    simp; omega
 refine ⟨by rw [han_two, h, Bool.or_true], ?_⟩
 rw [jam_iff] at h
 rw [syl_iff]
 simp at h ⊢
 omega
theorem syl_rng {x : Nat} (h : sylP (x : Int) = true) : 44032 ≤ x ∧ x - 44032 < 11172 := by
 rw [syl_iff] at h
 simp at h
 omega
theorem XRel.of_none (h : XRel X S) (hS : RdOk k S) {x : Nat} (hx : hanP (x : Int) = true) : (ofL X.dl (x : Int)).getD [] = [] := by
 rw [h.dcp, atZ_nat]
 cases hd : S.ds x with
 | none => rfl
 | some l =>
   have := (hS.ds x l hd).1.2
   rw [hx] at this; cases this
theorem XRel.full (h : XRel X S) (hS : RdOk k S) : ∀ (f x n : Nat), fullN S.ds f x = some n → fullD X.dl (f + 1) x = some n
 | 0, x, n, e => by cases e
 | f + 1, x, n, e => by
   rw [fullN] at e
   rw [fullD]
   cases hs : sylP (x : Int) with
   | true =>
     rw [if_pos hs] at e
     obtain ⟨h1, h2⟩ := syl_rng hs
     have hx : xdcpV X.dl (x : Int) = partsP (x - 44032) := by
      unfold xdcpV
      rw [if_pos hs, show ((x : Int) - 44032).toNat = x - 44032 by omega]
     rw [hx, if_neg (by unfold partsP; simp), sumO_ones (fun y hy => ?_)]
     ·exact e
     ·rw [fullD, if_pos]
      unfold xdcpV
      obtain ⟨q1, q2⟩ := parts_jam h2 y hy
      rw [if_neg (by rw [q2]; decide)]
      exact h.of_none hS q1
   | false =>
     rw [if_neg (by rw [hs]; decide)] at e
     have hx : xdcpV X.dl (x : Int) = (S.ds x).getD [] := by
      unfold xdcpV
      rw [if_neg (by rw [hs]; decide), h.dcp, atZ_nat]
     rw [hx]
     cases hd : S.ds x with
     | none => rw [hd] at e; rw [if_pos (by rfl)]; exact e
     | some l =>
       rw [hd] at e
       have hl := (hS.ds x l hd).2.1.1
       simp only [Option.getD_some]
       rw [if_neg (fun e2 => by rw [e2] at hl; simp at hl)]
       exact sumO_mono (fun y a ha => h.full hS f y a ha) e
/-! ### Flags of what ends -/
def OkZ (dl : List Ln3) (kn : List Bool) (z : Nat) : Prop := ∀ (m : Nat) (x : Ln3), dl[m]? = some x → x.1 = z → kn[m]? = some true
def SoundK (ds : DsT) (dl : List Ln3) (kn : List Bool) : Prop := kn.length = dl.length ∧ ∀ (i : Nat) (y : Ln3), dl[i]? = some y → kn[i]? = some true → ∃ n, EndA ds y.1 n
theorem soundK0 (ds : DsT) (dl : List Ln3) : SoundK ds dl (List.replicate dl.length false) := ⟨by simp, fun i y hy h => by
 rw [List.getElem?_replicate] at h
 split at h <;> cases h⟩
theorem XRel.ends (h : XRel X S) (hS : RdOk k S) {kn : List Bool} (hk : SoundK S.ds X.dl kn) {i : Nat} {y : Ln3} (hy : X.dl[i]? = some y) (ha : ∀ z ∈ y.2.1, OkZ X.dl kn z) : ∃ n, EndA S.ds y.1 n := by
 have hd := (h.at (List.mem_of_getElem? hy)).1
 have key : ∀ (l : List Nat), (∀ z ∈ l, OkZ X.dl kn z) → ∃ n, EndS S.ds l n := by
  intro l
  induction l with
  | nil => intro _; exact ⟨0, ends_nil _⟩
  | cons z t ih =>
    intro hz
    obtain ⟨b, hb⟩ := ih (fun u hu => hz u (List.mem_cons_of_mem _ hu))
    obtain ⟨a, ha⟩ : ∃ a, EndA S.ds z a := by
     cases hs : sylP (z : Int) with
     | true => exact ⟨_, EndA.syl hs⟩
     | false =>
       cases hdz : S.ds z with
       | none => exact ⟨1, EndA.ofN hs hdz⟩
       | some l =>
         obtain ⟨u, hu, rfl⟩ := (h.mem z).1 (by rw [hdz]; rfl)
         obtain ⟨m, hm⟩ := List.getElem?_of_mem hu
         exact hk.2 m u hm (hz u.1 List.mem_cons_self m u hm rfl)
    exact ⟨a + b, EndS.cons ha hb⟩
 obtain ⟨n, hn⟩ := key y.2.1 ha
 have hs : sylP (y.1 : Int) = false := by
  have := (hS.ds _ _ hd).1.2
  rw [han_two, Bool.or_eq_false_iff] at this
  exact this.1
 exact ⟨n, EndA.ofL hs hd hn⟩
theorem XRel.known (h : XRel X S) (hS : RdOk k S) {kn : List Bool} (hk : SoundK S.ds X.dl kn) (hc : ∀ (i : Nat) (y : Ln3), X.dl[i]? = some y → (∀ z ∈ y.2.1, OkZ X.dl kn z) → kn[i]? = some true) {i : Nat} {y : Ln3} (hy : X.dl[i]? = some y) :
 (kn[i]? = some true ∧ ∃ n, EndA S.ds y.1 n) ∨ (kn[i]? = some false ∧ NoEnd S.ds y.1) := by
 have key : ∀ (f : Nat) (i : Nat) (y : Ln3) (n : Nat), X.dl[i]? = some y → fullN S.ds f y.1 = some n → kn[i]? = some true := by
  intro f
  induction f with
  | zero => intro i y n _ e; cases e
  | succ f ih =>
    intro i y n hy e
    have hd := (h.at (List.mem_of_getElem? hy)).1
    have hs : sylP (y.1 : Int) = false := by
     have := (hS.ds _ _ hd).1.2
     rw [han_two, Bool.or_eq_false_iff] at this
     exact this.1
    rw [fullN, if_neg (by rw [hs]; decide), hd] at e
    refine hc i y hy fun z hz m x hx ex => ?_
    obtain ⟨a, ha⟩ := sumO_some e z hz
    exact ih m x a hx (by rw [ex]; exact ha)
 have hl : i < kn.length := by rw [hk.1]; exact (List.getElem?_eq_some_iff.1 hy).1
 cases hb : kn[i]'hl with
 | true =>
   have hb' : kn[i]? = some true := by rw [List.getElem?_eq_getElem hl, hb]
   exact .inl ⟨hb', hk.2 i y hy hb'⟩
 | false =>
   have hb' : kn[i]? = some false := by rw [List.getElem?_eq_getElem hl, hb]
   refine .inr ⟨hb', ?_⟩
   rcases end_or S.ds y.1 with h1 | ⟨n, f, h1⟩
   ·exact h1
   ·have := key f i y n hy h1
    rw [hb'] at this; cases this
/-! ### The least pair -/
def LeastI (l : List Ln3) (a b : Int) : Option Nat → Prop
 | none => ∀ y ∈ l, toZ y.2.1 ≠ [a, b]
 | some x => (∃ y ∈ l, y.1 = x ∧ toZ y.2.1 = [a, b]) ∧ ∀ z ∈ l, toZ z.2.1 = [a, b] → x ≤ z.1
end Go.Proofs.YthhepebkfokddaaGreatDoor
namespace Go.Proofs.YthhepebkfokddaaGreatDoor
open Go Go.RowKit Go.Kt Go.Kt.Rg Go.Maps
set_option maxRecDepth 100000 in
set_option maxHeartbeats 4000000 in
theorem ydecomp {g : Nat} {cs ks : List (Nat × Nat × Int)} {fv dv : Value} (l : List Ln3) (r : Int) (w : World) (hR : RpW g cs ks fv dv w) (hF : LfW w dv l) (hr : I32 r) (hn : l.length ≤ 1000000) (hz : ∀ x ∈ l, x.2.1.length ≤ 1048576) :
 Calls Tryz.prog 102 #[.pointer (some ⟨g, 0, none⟩), .int .i32 r] w fun e w' => ∃ v, e = .returned v ∧ Sl .i32 w' v (toZ (xdcpV l r)) ∧ Below w.heap.size w w' := by
 have hcv : IntKind.i64.wrap r = r := IntWalk.i64_in _ (by have := hr.1; have := hr.2; omega)
 have CS := Lib.hid (ysyl r w)
 cases hs : sylP r with
 | true =>
   rw [hs] at CS
   have h2 := hs
   rw [syl_iff] at h2
   have h2 := of_decide_eq_true h2
   obtain ⟨n, rfl⟩ : ∃ n : Nat, r = 44032 + (n : Int) := ⟨(r - 44032).toNat, by omega⟩
   have hn : n < 11172 := by omega
   have e1 : IntKind.i32.wrap ((44032 + (n : Int)) - 44032) = n := by rw [IntWalk.i32_in _ (by omega)]; omega
   have HV : Hid (xdcpV l (44032 + (n : Int)) = partsP n) := Lib.hid (by unfold xdcpV; rw [if_pos hs, show (44032 + (n : Int) - 44032).toNat = n by omega])
   clear hR hF hr hz hs h2
   go_enter Tryz.func102, Tryz.ntmps102
   go_wp2_with fail
   refine CS.out.mono ?_
   rintro e w1 ⟨rfl, hb1⟩
   obtain ⟨W1, hW1⟩ : ∃ W1, w1.alloc (.cells #[.int .i32 (4352 + (n : Int) / 588), .int .i32 (4449 + (n : Int) % 588 / 28)] 21) = W1 := ⟨_, rfl⟩
   have ho := own_full w1 [.int .i32 (4352 + (n : Int) / 588), .int .i32 (4449 + (n : Int) % 588 / 28)] 21 (by show 2 ≤ maxLen; decide)
   have hz1 : ZnO w.heap.size (.slice (some ⟨w1.heap.size, 0, none⟩) 2 2) [4352 + (n : Int) / 588, 4449 + (n : Int) % 588 / 28] W1 := by
    rw [← hW1]
    exact OwnS.weaken ho (fun b hb => by subst hb; exact hb1.size)
   have hbW : Below w.heap.size w W1 := by rw [← hW1]; exact hb1.alloc hb1.size _
   by_cases hc : n % 28 = 0
   ·have HP : Hid (toZ (partsP n) = [4352 + (n : Int) / 588, 4449 + (n : Int) % 588 / 28]) := Lib.hid (by
    unfold partsP
    rw [if_pos hc]
    simp [toZ]
    omega)
    have q0 : ((n : Int) % 28 != 0) = false := by
     have : (n : Int) % 28 = 0 := by omega
     rw [this]; rfl
    have HW := Lib.hid (And.intro hz1 (And.intro hbW hW1))
    clear hz1 hbW hW1 ho hb1 hc
    go_wp2
    go_ret
    exact ⟨_, rfl, by rw [HV.out, HP.out, HW.out.2.2]; exact HW.out.1.sl, by rw [HW.out.2.2]; exact HW.out.2.1⟩
   ·have HP : Hid (toZ (partsP n) = [4352 + (n : Int) / 588, 4449 + (n : Int) % 588 / 28] ++ [4519 + (n : Int) % 28]) := Lib.hid (by
    unfold partsP
    rw [if_neg hc]
    simp [toZ]
    omega)
    have q0 : ((n : Int) % 28 != 0) = true := by
     simp only [bne_iff_ne, ne_eq]
     omega
    obtain ⟨v', W', hrun, hz', hb'⟩ := hz1.app hbW.size (by simp) (4519 + (n : Int) % 28)
    have HRun := Lib.hid hrun
    have HW := Lib.hid (And.intro hz' (hbW.trans hb'))
    clear hz1 hbW ho hb1 hc hrun hz' hb'
    go_wp2_with (first | (at_builtin; refine wpList_append_eq rfl rfl rfl rfl HRun.out ?_; clear HRun) | fail)
    go_ret
    exact ⟨_, rfl, by rw [HV.out, HP.out]; exact HW.out.1.sl, HW.out.2⟩
 | false =>
   rw [hs] at CS
   have HS0 := Lib.hid hs
   obtain ⟨cv, kv, hg, _, _⟩ := hR
   obtain ⟨ao, cp, rfl, _⟩ := id hF
   obtain ⟨m, hln⟩ : ∃ m, l.length = m := ⟨_, rfl⟩
   rw [hln] at hn hF hg
   have HG : Hid (∀ W, Below w.heap.size w W → W.cell? ⟨g, 3, none⟩ = some (.slice ao m cp)) := Lib.hid fun W h => by
    rw [Lib.cell_of_heap ((h.block g (Array.getElem?_eq_some_iff.1 hg).1).trans hg)]; rfl
   have HC := Lib.hid (And.intro hF (And.intro hln hz))
   have HV : Hid (xdcpV l r = (ofL l r).getD []) := Lib.hid (by unfold xdcpV; rw [if_neg (by rw [hs]; decide)])
   clear hF hg hln hr hz hs
   go_enter Tryz.func102, Tryz.ntmps102
   go_wp2_with fail
   refine CS.out.mono ?_
   rintro e w1 ⟨rfl, hb1⟩
   have HB1 := Lib.hid hb1
   clear hb1
   go_wp2_with fail
   go_loopw [7] (fun x wr => ∃ k : Nat, x = .int .i64 (k : Nat) ∧ k ≤ m ∧ Hid (ofL l r = ofL (l.drop k) r ∧ Below w.heap.size w wr)) (fun x _ => m - (RowKit.intOf x).toNat)
   case atStart => exact ⟨0, rfl, Nat.zero_le _, Lib.hid ⟨by rw [List.drop_zero], HB1.out⟩⟩
   case round =>
    obtain ⟨k, rfl, hk, H⟩ := hrel
    have f0 := HG.out wr H.out.2
    by_cases hlt : k < m
    ·have e1 : (k : Int) < m := by omega
     have hk0 : (0 : Int) ≤ (k : Int) := by omega
     have hk1 : IntKind.i64.wrap ((k : Int) + 1) = ((k + 1 : Nat) : Int) := by rw [IntWalk.i64_in _ (by omega)]; omega
     obtain ⟨x, hx⟩ : ∃ x, l[k]? = some x := ⟨_, List.getElem?_eq_getElem (by rw [HC.out.2.1]; omega)⟩
     have hLW := HC.out.1.below H.out.2
     obtain ⟨b, sv, rfl, d0, d1, hs⟩ := hLW.at hx
     have hst := H.out.1
     have hdr : l.drop k = x :: l.drop (k + 1) := by
      obtain ⟨h1, h2⟩ := List.getElem?_eq_some_iff.1 hx
      rw [List.drop_eq_getElem_cons h1, h2]
     rw [hdr, ofL_cons] at hst
     obtain ⟨y, hy⟩ : ∃ y : Int, (x.1 : Int) = y := ⟨_, rfl⟩
     rw [hy] at d0 hst
     have HB := Lib.hid H.out.2
     have CP := Lib.hid (ycopy (toZ x.2.1) sv wr hs (by rw [toZ_len]; exact HC.out.2.2 x (List.mem_of_getElem? hx)))
     clear hdr hx hy H hLW hs
     by_cases h1 : y = r
     ·subst h1
      rw [if_pos rfl] at hst
      have HST : Hid (xdcpV l y = x.2.1) := Lib.hid (by rw [HV.out, hst]; rfl)
      clear hst hlt
      go_wp2_with fail
      refine CP.out.mono ?_
      rintro e w2 ⟨v, rfl, hz2, hb2⟩
      have H2 := Lib.hid (And.intro hz2 (HB.out.trans (hb2.mono HB.out.size)))
      clear hz2 hb2
      go_wp2
      go_ret
      exact ⟨_, rfl, by rw [HST.out]; exact H2.out.1.sl, H2.out.2⟩
     ·have q1 : (y == r) = false := beq_eq_false_iff_ne.2 h1
      rw [if_neg h1] at hst
      have HST := Lib.hid hst
      clear hst hlt
      go_wp2
      go_roundw
      case rel => exact ⟨k + 1, by go_num, by omega, Lib.hid ⟨HST.out, HB.out⟩⟩
      case measure => simp [RowKit.intOf]; omega
    ·have e1 : ¬ (k : Int) < m := by omega
     have HST : Hid (xdcpV l r = []) := Lib.hid (by rw [HV.out, H.out.1, List.drop_eq_nil_of_le (by rw [HC.out.2.1]; omega)]; rfl)
     clear hlt
     go_wp2
     go_ret
     exact ⟨_, rfl, by rw [HST.out]; exact ⟨none, 0, rfl, .inl rfl⟩, H.out.2⟩
end Go.Proofs.YthhepebkfokddaaGreatDoor
namespace Go.Proofs.YthhepebkfokddaaGreatDoor
open Go Go.RowKit Go.Kt Go.Kt.Rg Go.Maps
theorem LfW.at3 {w : World} {ao : Option Addr} {n cp : Nat} {l : List Ln3} (h : LfW w (.slice ao n cp) l) {k : Nat} {x : Ln3} (hx : l[k]? = some x) :
 ∃ g v, ao = some ⟨g, 0, none⟩ ∧ w.cell? ⟨g, k * 3, none⟩ = some (.int .i64 (x.1 : Nat)) ∧ w.cell? ⟨g, k * 3 + 1, none⟩ = some v ∧ Sl .i32 w v (toZ x.2.1) ∧ w.cell? ⟨g, k * 3 + 2, none⟩ = some (.int .i64 (x.2.2 : Nat)) := by
 obtain ⟨ao', cp', e, hc⟩ := h
 cases e
 rcases hc with h | ⟨g, e, h⟩
 ·rw [h] at hx; cases hx
 ·obtain ⟨h1, ⟨v, h2, h3⟩, h4⟩ := h k x hx
  exact ⟨g, v, e, h1, h2, h3, h4⟩
end Go.Proofs.YthhepebkfokddaaGreatDoor
namespace Go.Proofs.YthhepebkfokddaaGreatDoor
open Go Go.RowKit Go.Kt Go.Kt.Rg Go.Maps
def encBo (kn : List Bool) : List Value := kn.map .bool
theorem encBo_at {kn : List Bool} {i : Nat} {b : Bool} (h : kn[i]? = some b) : (encBo kn)[i]? = some (.bool b) := by simp [encBo, h]
theorem encBo_set (kn : List Bool) (i : Nat) (b : Bool) : (encBo kn).set i (.bool b) = encBo (kn.set i b) := by simp [encBo]
def BoO (gb n : Nat) (kn : List Bool) (W : World) : Prop := kn.length = n ∧ OwnS (fun b => b = gb) 4 1 (.slice (some ⟨gb, 0, none⟩) n n) n (encBo kn) W
theorem BoO.cell {gb n : Nat} {kn : List Bool} {W : World} (h : BoO gb n kn W) {i : Nat} {b : Bool} (hb : kn[i]? = some b) : W.cell? ⟨gb, i, none⟩ = some (.bool b) := OwnS.at0 h.2 (encBo_at hb)
theorem BoO.drewN {gb n : Nat} {kn : List Bool} {W : World} (h : BoO gb n kn W) (q : Nat) : BoO gb n kn (W.drewN q) := ⟨h.1, h.2.keep (X := fun _ => False) (Keep.of_all (below_drewN (Below.refl _ W) q)) (fun _ h => h.elim)⟩
theorem BoO.set {gb n : Nat} {kn : List Bool} {W : World} (h : BoO gb n kn W) (i : Nat) (b : Bool) : BoO gb n (kn.set i b) (W.setCell ⟨gb, i, none⟩ (.bool b)) := by
 refine ⟨by rw [List.length_set]; exact h.1, ?_⟩
 rw [← encBo_set]
 exact ⟨(h.2.1.stored i (.bool b)).1, h.2.2⟩
theorem BoO.fz {gb n : Nat} {kn : List Bool} {W : World} (h : BoO gb n kn W) (i : Nat) : W.frozen? ⟨gb, i, none⟩ = false := h.2.1.frozenAt i
def fF : Option Value → Bool
 | some (.bool false) => true
 | _ => false
def cntF (gb n : Nat) (W : World) : Nat := (List.range n).countP fun i => fF (W.cell? ⟨gb, i, none⟩)
def cntL (kn : List Bool) : Nat := (List.range kn.length).countP fun i => kn[i]? == some false
theorem BoO.cnt {gb n : Nat} {kn : List Bool} {W : World} (h : BoO gb n kn W) : cntF gb n W = cntL kn := by
 unfold cntF cntL
 rw [h.1]
 refine List.countP_congr fun i hi => ?_
 have hi2 : i < kn.length := by rw [h.1]; exact List.mem_range.1 hi
 have hb := List.getElem?_eq_getElem hi2
 rw [h.cell hb, hb]
 cases kn[i] <;> simp [fF]
theorem cntL_set {kn : List Bool} {i : Nat} (h : kn[i]? = some false) : cntL (kn.set i true) + 1 ≤ cntL kn := by
 unfold cntL
 rw [List.length_set]
 obtain ⟨hi, hv⟩ := List.getElem?_eq_some_iff.1 h
 have h1 : ∀ j, j ≠ i → (kn.set i true)[j]? = kn[j]? := fun j hj => List.getElem?_set_ne (fun e => hj e.symm)
 have h2 : (kn.set i true)[i]? = some true := by rw [List.getElem?_set_self hi]
 have e1 : (List.range kn.length).countP (fun j => kn[j]? == some false) = ((List.range kn.length).countP fun j => (kn.set i true)[j]? == some false) + (List.range kn.length).countP fun j => j == i := by
  have : ∀ l : List Nat, l.countP (fun j => kn[j]? == some false) = (l.countP fun j => (kn.set i true)[j]? == some false) + l.countP fun j => j == i := by
   intro l
   induction l with
   | nil => rfl
   | cons a t ih =>
     rw [List.countP_cons, List.countP_cons, List.countP_cons, ih]
     by_cases e : a = i
     ·subst e
      rw [h2, h]
      simp; omega
     ·rw [h1 a e]
      have : (a == i) = false := by simpa using e
      rw [this]
      simp; omega
  exact this _
 have e2 : (List.range kn.length).countP (fun j => j == i) = 1 := by
  rw [← List.count_eq_countP, List.count_range]
  simp [hi]
 omega
theorem cntL_same {kn : List Bool} {i : Nat} {b : Bool} (h : kn[i]? = some b) : kn.set i b = kn := by
 apply List.ext_getElem?
 intro j
 by_cases e : j = i
 ·subst e
  obtain ⟨hi, _⟩ := List.getElem?_eq_some_iff.1 h
  rw [List.getElem?_set_self hi, h]
 ·rw [List.getElem?_set_ne (fun x => e x.symm)]
def EndI (ds : DsT) (dl : List Ln3) (kn0 : List Bool) (i : Nat) (more : Bool) (kn : List Bool) : Prop :=
 SoundK ds dl kn ∧ cntL kn ≤ cntL kn0 ∧ (more = true → cntL kn < cntL kn0) ∧ (more = false → kn = kn0 ∧ ∀ (j : Nat) (y : Ln3), j < i → dl[j]? = some y → (∀ z ∈ y.2.1, OkZ dl kn z) → kn[j]? = some true)
theorem EndI.start {ds : DsT} {dl : List Ln3} {kn0 : List Bool} (h : SoundK ds dl kn0) : EndI ds dl kn0 0 false kn0 := ⟨h, Nat.le_refl _, (fun h => by cases h), fun _ => ⟨rfl, fun j y hj => by omega⟩⟩
theorem EndI.yes {X : XdS} {S : RdS} {k i : Nat} {more : Bool} {kn0 kn : List Bool} {y : Ln3} {b : Bool} (hX : XRel X S) (hS : RdOk k S) (h : EndI S.ds X.dl kn0 i more kn) (hy : X.dl[i]? = some y) (hb : kn[i]? = some b) (ha : ∀ z ∈ y.2.1, OkZ X.dl kn z) :
 EndI S.ds X.dl kn0 (i + 1) (more || !b) (kn.set i true) := by
 obtain ⟨h1, h2, h3, h4⟩ := h
 cases b with
 | true =>
   rw [cntL_same hb]
   refine ⟨h1, h2, fun e => h3 (by simpa using e), fun e => ?_⟩
   obtain ⟨q1, q2⟩ := h4 (by simpa using e)
   refine ⟨q1, fun j u hj hu hz => ?_⟩
   by_cases e2 : j = i
   ·subst e2; exact hb
   ·exact q2 j u (by omega) hu hz
 | false =>
   have hc := cntL_set hb
   refine ⟨⟨by rw [List.length_set]; exact h1.1, fun j u hu hk => ?_⟩, by omega, fun _ => by omega, fun e => by simp at e⟩
   by_cases e2 : j = i
   ·subst e2
    rw [hy] at hu
    cases hu
    exact hX.ends hS h1 hy ha
   ·rw [List.getElem?_set_ne (fun x => e2 x.symm)] at hk
    exact h1.2 j u hu hk
theorem EndI.no {ds : DsT} {dl : List Ln3} {i : Nat} {more b : Bool} {kn0 kn : List Bool} {y : Ln3} (h : EndI ds dl kn0 i more kn) (hy : dl[i]? = some y) (hb : kn[i]? = some b) (ha : ¬ ∀ z ∈ y.2.1, OkZ dl kn z) :
 EndI ds dl kn0 (i + 1) more (kn.set i b) := by
 rw [cntL_same hb]
 obtain ⟨h1, h2, h3, h4⟩ := h
 refine ⟨h1, h2, h3, fun e => ?_⟩
 obtain ⟨q1, q2⟩ := h4 e
 refine ⟨q1, fun j u hj hu hz => ?_⟩
 by_cases e2 : j = i
 ·subst e2
  rw [hy] at hu
  cases hu
  exact absurd hz ha
 ·exact q2 j u (by omega) hu hz
def AllI (dl : List Ln3) (kn : List Bool) (l : List Nat) (k : Nat) (A : Bool) : Prop := A = true ↔ ∀ z ∈ l.take k, OkZ dl kn z
def AllM (dl : List Ln3) (kn : List Bool) (l : List Nat) (k m z : Nat) (A : Bool) : Prop := A = true ↔ (∀ z ∈ l.take k, OkZ dl kn z) ∧ ∀ (j : Nat) (x : Ln3), j < m → dl[j]? = some x → x.1 = z → kn[j]? = some true
theorem AllI.enter {dl : List Ln3} {kn : List Bool} {l : List Nat} {k : Nat} {A : Bool} (h : AllI dl kn l k A) (z : Nat) : AllM dl kn l k 0 z A := by
 unfold AllM
 unfold AllI at h
 rw [h]
 exact ⟨fun h => ⟨h, fun j x hj => by omega⟩, fun h => h.1⟩
theorem AllM.leave {dl : List Ln3} {kn : List Bool} {l : List Nat} {k z : Nat} {A : Bool} (h : AllM dl kn l k dl.length z A) (hz : l[k]? = some z) : AllI dl kn l (k + 1) A := by
 unfold AllI
 unfold AllM at h
 rw [h, List.take_add_one, hz]
 constructor
 ·rintro ⟨h1, h2⟩ u hu
  rcases List.mem_append.1 hu with hu | hu
  ·exact h1 u hu
  ·have : u = z := by simpa using hu
   subst this
   exact fun m x hx e => h2 m x (List.getElem?_eq_some_iff.1 hx).1 hx e
 ·intro h1
  refine ⟨fun u hu => h1 u (List.mem_append_left _ hu), fun j x _ hx e => h1 z (List.mem_append_right _ (by simp)) j x hx e⟩
theorem AllM.off {dl : List Ln3} {kn : List Bool} {l : List Nat} {k m z : Nat} (h : AllM dl kn l k m z false) : AllM dl kn l k (m + 1) z false := by
 unfold AllM at h ⊢
 constructor
 ·intro e; cases e
 ·rintro ⟨h1, h2⟩
  exact h.2 ⟨h1, fun j x hj => h2 j x (by omega)⟩
theorem AllM.other {dl : List Ln3} {kn : List Bool} {l : List Nat} {k m z : Nat} {x : Ln3} (h : AllM dl kn l k m z true) (hx : dl[m]? = some x) (hne : x.1 ≠ z) : AllM dl kn l k (m + 1) z true := by
 unfold AllM at h ⊢
 obtain ⟨h1, h2⟩ := h.1 rfl
 refine ⟨fun _ => ⟨h1, fun j u hj hu e => ?_⟩, fun _ => rfl⟩
 by_cases ej : j = m
 ·subst ej
  rw [hx] at hu; cases hu
  exact absurd e hne
 ·exact h2 j u (by omega) hu e
theorem AllM.same {dl : List Ln3} {kn : List Bool} {l : List Nat} {k m z : Nat} {x : Ln3} {b : Bool} (h : AllM dl kn l k m z true) (hx : dl[m]? = some x) (he : x.1 = z) (hb : kn[m]? = some b) : AllM dl kn l k (m + 1) z b := by
 unfold AllM at h ⊢
 obtain ⟨h1, h2⟩ := h.1 rfl
 constructor
 ·intro e
  subst e
  refine ⟨h1, fun j u hj hu e => ?_⟩
  by_cases ej : j = m
  ·subst ej; exact hb
  ·exact h2 j u (by omega) hu e
 ·rintro ⟨_, h4⟩
  have := h4 m x (by omega) hx he
  rw [hb] at this
  exact Option.some.inj this
end Go.Proofs.YthhepebkfokddaaGreatDoor
