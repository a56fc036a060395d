/- props: a class by the document's answer is the program's: mathematics. -/
import Derived.Test.YthhepebkfokddaaGreatDoorGy22
import Derived.Test.YthhepebkfokddaaGreatDoorGy21
namespace Go.Proofs.YthhepebkfokddaaGreatDoor
open Go Go.RowKit Go.Kt Go.Kt.Rg Go.Maps

def dgB (b : UInt8) : Bool := decide (48 ≤ b.toNat ∧ b.toNat ≤ 57)
def dgN (b : UInt8) : Nat := b.toNat - 48
def dcV (n : Nat) (l : List UInt8) : Nat := l.foldl (fun a b => 10 * a + dgN b) n
theorem dcV_nil (n : Nat) : dcV n [] = n := rfl
theorem dcV_cons (n : Nat) (b : UInt8) (t : List UInt8) : dcV n (b :: t) = dcV (10 * n + dgN b) t := by unfold dcV; rw [List.foldl_cons]
theorem dig10_all : ((List.range 256).all fun n => decide (digB 10 (UInt8.ofNat n) = if 48 ≤ n ∧ n ≤ 57 then some (n - 48) else none)) = true := by kernel_rfl
theorem digB10 (b : UInt8) : digB 10 b = if dgB b = true then some (dgN b) else none := by
  have := List.all_eq_true.1 dig10_all b.toNat (List.mem_range.2 b.toNat_lt)
  have := of_decide_eq_true this
  rw [UInt8.ofNat_toNat] at this
  rw [this]
  unfold dgB dgN
  by_cases h : 48 ≤ b.toNat ∧ b.toNat ≤ 57
  · rw [if_pos h, if_pos (by simpa using h)]
  · rw [if_neg h, if_neg (by simpa using h)]
def dgA (l : List UInt8) : Bool := l.all dgB
theorem numF10 : ∀ (l : List UInt8) (n : Nat), numF 10 n l = if dgA l = true then some (dcV n l) else none
  | [], n => rfl
  | b :: t, n => by
    rw [numF, digB10]
    unfold dgA
    rw [List.all_cons]
    cases hb : dgB b with
    | false => simp
    | true =>
      simp only [if_true, Bool.true_and]
      exact numF10 t _
theorem dcV_ge : ∀ (l : List UInt8) (n : Nat), n * 10 ^ l.length ≤ dcV n l
  | [], n => by simp [dcV_nil]
  | b :: t, n => by
    rw [dcV_cons, List.length_cons, Nat.pow_succ]
    have h := dcV_ge t (10 * n + dgN b)
    have h2 : 10 * n * 10 ^ t.length ≤ (10 * n + dgN b) * 10 ^ t.length := Nat.mul_le_mul_right _ (by omega)
    have h3 : n * (10 ^ t.length * 10) = 10 * n * 10 ^ t.length := by rw [Nat.mul_comm (10 ^ t.length) 10, ← Nat.mul_assoc, Nat.mul_comm n 10]
    omega
theorem dcV_le_of (l : List UInt8) (n : Nat) : n ≤ dcV n l := by
  have h := dcV_ge l n
  have h2 : n * 1 ≤ n * 10 ^ l.length := Nat.mul_le_mul_left _ (Nat.pow_pos (by decide))
  omega
theorem dgB_iff {b : UInt8} : dgB b = true ↔ 48 ≤ b.toNat ∧ b.toNat ≤ 57 := by simp [dgB]
theorem digs_has : ∀ n : Fin 256, digs.contains (UInt8.ofNat n.1) = decide (48 ≤ n.1 ∧ n.1 ≤ 57) := of_decide_eq_true (by kernel_rfl)
theorem digs_dgB (b : UInt8) : digs.contains b = dgB b := by
  have := digs_has ⟨b.toNat, b.toNat_lt⟩
  simp only [UInt8.ofNat_toNat] at this
  exact this
theorem dropw_all {p : UInt8 → Bool} : ∀ {l : List UInt8}, (∀ x ∈ l, p x = true) → l.dropWhile p = []
  | [], _ => rfl
  | b :: t, h => by
    rw [List.dropWhile_cons, if_pos (h b List.mem_cons_self)]
    exact dropw_all (fun x hx => h x (List.mem_cons_of_mem _ hx))
theorem trim_dg (l : List UInt8) : Lib.trimS l digs = [] ↔ dgA l = true := by
  unfold dgA
  rw [List.all_eq_true]
  constructor
  · intro ht x hx
    unfold Lib.trimS Lib.trimLeftS at ht
    have h1 := dropw_nil ht
    have hR : Lib.trimRightS l digs = [] := by
      unfold Lib.trimRightS at h1 ⊢
      cases e : l.reverse.dropWhile (digs.contains ·) with
      | nil => rfl
      | cons x t =>
        have h2 := dropw_head e
        have h3 := h1 x (by rw [e]; simp)
        rw [h2] at h3; cases h3
    unfold Lib.trimRightS at hR
    have h4 := dropw_nil (List.reverse_eq_nil_iff.1 hR) x (List.mem_reverse.2 hx)
    rw [← digs_dgB]; exact h4
  · intro h
    unfold Lib.trimS Lib.trimLeftS Lib.trimRightS
    have h2 : l.reverse.dropWhile (digs.contains ·) = [] := dropw_all (fun x hx => (digs_dgB x).trans (h x (List.mem_reverse.1 hx)))
    rw [h2]
    rfl
theorem parse_dg : ∀ (l : List UInt8) (n : Nat), dgA l = true → (Lib.parseUint10 n l = .ok (dcV n l)) ∨ (Lib.parseUint10 n l = .range ∧ 254 < dcV n l)
  | [], n, _ => .inl rfl
  | b :: t, n, h => by
    unfold dgA at h
    rw [List.all_cons, Bool.and_eq_true] at h
    have hb := dgB_iff.1 h.1
    rw [Lib.parseUint10, if_pos hb, dcV_cons]
    by_cases h1 : 1844674407370955162 ≤ n
    · rw [if_pos h1]
      exact .inr ⟨rfl, by have := dcV_le_of t (10 * n + dgN b); unfold dgN at *; omega⟩
    · rw [if_neg h1]
      by_cases h2 : 18446744073709551616 ≤ n * 10 + (b.toNat - 48)
      · rw [if_pos h2]
        exact .inr ⟨rfl, by have := dcV_le_of t (10 * n + dgN b); unfold dgN at *; omega⟩
      · rw [if_neg h2, Nat.mul_comm n 10]
        exact parse_dg t _ h.2
def docC (l : List UInt8) : Nat × Int := if dgA l = false ∨ (1 < l.length ∧ l.head? = some 48) then (11, 0) else if 254 < dcV 0 l then (1, 0) else (0, (dcV 0 l : Nat))
theorem docC_cls {l : List UInt8} (hl : l ≠ []) : clsP l = docC l := by
  have h48 : (l ≠ [48] ∧ l.head? = some 48) ↔ (1 < l.length ∧ l.head? = some 48) := by
    cases l with
    | nil => exact absurd rfl hl
    | cons b t =>
      cases t with
      | nil => simp
      | cons c u => simp
  unfold clsP docC
  cases hd : dgA l with
  | false =>
    have : Lib.trimS l digs ≠ [] := fun e => by rw [trim_dg, hd] at e; cases e
    rw [if_pos (.inl this), if_pos (.inl rfl)]
  | true =>
    have ht := (trim_dg l).2 hd
    by_cases h1 : 1 < l.length ∧ l.head? = some 48
    · rw [if_pos (.inr (h48.2 h1)), if_pos (.inr h1)]
    · rw [if_neg (fun h => by rcases h with h | h; exact h ht; exact h1 (h48.1 h)), if_neg (fun h => by rcases h with h | h; cases h; exact h1 h)]
      cases l with
      | nil => exact absurd rfl hl
      | cons b t =>
        have hb : 48 ≤ b.toNat ∧ b.toNat ≤ 57 := by
          unfold dgA at hd
          rw [List.all_cons, Bool.and_eq_true] at hd
          exact dgB_iff.1 hd.1
        unfold Lib.atoiAll
        simp only
        rw [if_neg (show ¬ (b.toNat = 43 ∨ b.toNat = 45) by omega)]
        unfold Lib.parseMag
        rw [if_neg (by simp)]
        have h45 : ¬ b.toNat = 45 := by omega
        rcases parse_dg (b :: t) 0 hd with h | ⟨h, hv⟩
        · rw [h]
          simp only [h45, not_false_eq_true, true_and, false_and, if_false]
          by_cases hg : 9223372036854775808 ≤ dcV 0 (b :: t)
          · rw [if_pos hg, if_pos (by omega)]
          · rw [if_neg hg]
            simp only
            by_cases hv : 254 < dcV 0 (b :: t)
            · rw [if_pos hv, if_pos (by omega)]
            · rw [if_neg hv, if_neg (by omega)]
        · rw [h, if_pos hv]
theorem docC_long {l : List UInt8} (hd : dgA l = true) (h18 : 18 < l.length) (h0 : l.head? ≠ some 48) : 254 < dcV 0 l := by
  cases l with
  | nil => simp at h18
  | cons b t =>
    have hb : 48 ≤ b.toNat ∧ b.toNat ≤ 57 := by
      unfold dgA at hd
      rw [List.all_cons, Bool.and_eq_true] at hd
      exact dgB_iff.1 hd.1
    have hb2 : b.toNat ≠ 48 := fun e => h0 (by
      have : b = 48 := UInt8.toNat_inj.1 (by rw [e]; rfl)
      rw [this]; rfl)
    rw [dcV_cons]
    have h1 := dcV_ge t (10 * 0 + dgN b)
    have h2 : 10 ^ 18 ≤ 10 ^ t.length := Nat.pow_le_pow_right (by decide) (by simp at h18; omega)
    have h3 : 1 * 10 ^ t.length ≤ (10 * 0 + dgN b) * 10 ^ t.length := Nat.mul_le_mul_right _ (by unfold dgN; omega)
    have h4 : (10 : Nat) ^ 18 = 1000000000000000000 := by decide
    omega
theorem numG10 (l : List UInt8) (hl : l ≠ []) : numG 10 1 18 l = if l.length ≤ 18 ∧ dgA l = true then ((dcV 0 l : Nat) : Int) else -1 := by
  have := List.length_pos_iff.2 hl
  unfold numG
  by_cases h : 18 < l.length
  · rw [if_pos (.inr h), if_neg (by omega)]
  · rw [if_neg (by omega), numF10]
    cases dgA l with
    | false => simp
    | true => rw [if_pos rfl, if_pos ⟨by omega, rfl⟩]
end Go.Proofs.YthhepebkfokddaaGreatDoor
