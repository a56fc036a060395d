/- Parts of the proof of what the last text says. -/
import Derived.Test.YtfpfpaaojdodnaaGreatDoorGz19
import Derived.Test.YtfpfpaaojdodnaaGreatDoorGz9
import Derived.Test.YtfpfpaaojdodnaaGreatDoorGz4
/- props: a class by the document's answer is the program's: mathematics. -/
namespace Go.Proofs.YtfpfpaaojdodnaaGreatDoor
open Go Go.RowKit Go.Kt Go.Kt.Rg Go.Maps

def dgB (b : UInt8) : Bool := decide (48 ≤ b.toNat ∧ b.toNat ≤ 57)
def dgN (b : UInt8) : Nat := b.toNat - 48
def dcV (n : Nat) (l : List UInt8) : Nat := l.foldl (fun a b => 10 * a + dgN b) n
theorem dcV_nil (n : Nat) : dcV n [] = n := rfl
theorem dcV_cons (n : Nat) (b : UInt8) (t : List UInt8) : dcV n (b :: t) = dcV (10 * n + dgN b) t := by unfold dcV; rw [List.foldl_cons]
theorem dig10_all : ((List.range 256).all fun n => decide (digB 10 (UInt8.ofNat n) = if 48 ≤ n ∧ n ≤ 57 then some (n - 48) else none)) = true := by kernel_rfl
theorem digB10 (b : UInt8) : digB 10 b = if dgB b = true then some (dgN b) else none := by
  have := List.all_eq_true.1 dig10_all b.toNat (List.mem_range.2 b.toNat_lt)
  have := of_decide_eq_true this
  rw [UInt8.ofNat_toNat] at this
  rw [this]
  unfold dgB dgN
  by_cases h : 48 ≤ b.toNat ∧ b.toNat ≤ 57
  · rw [if_pos h, if_pos (by simpa using h)]
  · rw [if_neg h, if_neg (by simpa using h)]
def dgA (l : List UInt8) : Bool := l.all dgB
theorem numF10 : ∀ (l : List UInt8) (n : Nat), numF 10 n l = if dgA l = true then some (dcV n l) else none
  | [], n => rfl
  | b :: t, n => by
    rw [numF, digB10]
    unfold dgA
    rw [List.all_cons]
    cases hb : dgB b with
    | false => simp
    | true =>
      simp only [if_true, Bool.true_and]
      exact numF10 t _
theorem dcV_ge : ∀ (l : List UInt8) (n : Nat), n * 10 ^ l.length ≤ dcV n l
  | [], n => by simp [dcV_nil]
  | b :: t, n => by
    rw [dcV_cons, List.length_cons, Nat.pow_succ]
    have h := dcV_ge t (10 * n + dgN b)
    have h2 : 10 * n * 10 ^ t.length ≤ (10 * n + dgN b) * 10 ^ t.length := Nat.mul_le_mul_right _ (by omega)
    have h3 : n * (10 ^ t.length * 10) = 10 * n * 10 ^ t.length := by rw [Nat.mul_comm (10 ^ t.length) 10, ← Nat.mul_assoc, Nat.mul_comm n 10]
    omega
theorem dcV_le_of (l : List UInt8) (n : Nat) : n ≤ dcV n l := by
  have h := dcV_ge l n
  have h2 : n * 1 ≤ n * 10 ^ l.length := Nat.mul_le_mul_left _ (Nat.pow_pos (by decide))
  omega
theorem dgB_iff {b : UInt8} : dgB b = true ↔ 48 ≤ b.toNat ∧ b.toNat ≤ 57 := by simp [dgB]
theorem digs_has : ∀ n : Fin 256, digs.contains (UInt8.ofNat n.1) = decide (48 ≤ n.1 ∧ n.1 ≤ 57) := of_decide_eq_true (by kernel_rfl)
theorem digs_dgB (b : UInt8) : digs.contains b = dgB b := by
  have := digs_has ⟨b.toNat, b.toNat_lt⟩
  simp only [UInt8.ofNat_toNat] at this
  exact this
theorem dropw_all {p : UInt8 → Bool} : ∀ {l : List UInt8}, (∀ x ∈ l, p x = true) → l.dropWhile p = []
  | [], _ => rfl
  | b :: t, h => by
    rw [List.dropWhile_cons, if_pos (h b List.mem_cons_self)]
    exact dropw_all (fun x hx => h x (List.mem_cons_of_mem _ hx))
theorem trim_dg (l : List UInt8) : Lib.trimS l digs = [] ↔ dgA l = true := by
  unfold dgA
  rw [List.all_eq_true]
  constructor
  · intro ht x hx
    unfold Lib.trimS Lib.trimLeftS at ht
    have h1 := dropw_nil ht
    have hR : Lib.trimRightS l digs = [] := by
      unfold Lib.trimRightS at h1 ⊢
      cases e : l.reverse.dropWhile (digs.contains ·) with
      | nil => rfl
      | cons x t =>
        have h2 := dropw_head e
        have h3 := h1 x (by rw [e]; simp)
        rw [h2] at h3; cases h3
    unfold Lib.trimRightS at hR
    have h4 := dropw_nil (List.reverse_eq_nil_iff.1 hR) x (List.mem_reverse.2 hx)
    rw [← digs_dgB]; exact h4
  · intro h
    unfold Lib.trimS Lib.trimLeftS Lib.trimRightS
    have h2 : l.reverse.dropWhile (digs.contains ·) = [] := dropw_all (fun x hx => (digs_dgB x).trans (h x (List.mem_reverse.1 hx)))
    rw [h2]
    rfl
theorem parse_dg : ∀ (l : List UInt8) (n : Nat), dgA l = true → (Lib.parseUint10 n l = .ok (dcV n l)) ∨ (Lib.parseUint10 n l = .range ∧ 254 < dcV n l)
  | [], n, _ => .inl rfl
  | b :: t, n, h => by
    unfold dgA at h
    rw [List.all_cons, Bool.and_eq_true] at h
    have hb := dgB_iff.1 h.1
    rw [Lib.parseUint10, if_pos hb, dcV_cons]
    by_cases h1 : 1844674407370955162 ≤ n
    · rw [if_pos h1]
      exact .inr ⟨rfl, by have := dcV_le_of t (10 * n + dgN b); unfold dgN at *; omega⟩
    · rw [if_neg h1]
      by_cases h2 : 18446744073709551616 ≤ n * 10 + (b.toNat - 48)
      · rw [if_pos h2]
        exact .inr ⟨rfl, by have := dcV_le_of t (10 * n + dgN b); unfold dgN at *; omega⟩
      · rw [if_neg h2, Nat.mul_comm n 10]
        exact parse_dg t _ h.2
def docC (l : List UInt8) : Nat × Int := if dgA l = false ∨ (1 < l.length ∧ l.head? = some 48) then (11, 0) else if 254 < dcV 0 l then (1, 0) else (0, (dcV 0 l : Nat))
theorem docC_cls {l : List UInt8} (hl : l ≠ []) : clsP l = docC l := by
  have h48 : (l ≠ [48] ∧ l.head? = some 48) ↔ (1 < l.length ∧ l.head? = some 48) := by
    cases l with
    | nil => exact absurd rfl hl
    | cons b t =>
      cases t with
      | nil => simp
      | cons c u => simp
  unfold clsP docC
  cases hd : dgA l with
  | false =>
    have : Lib.trimS l digs ≠ [] := fun e => by rw [trim_dg, hd] at e; cases e
    rw [if_pos (.inl this), if_pos (.inl rfl)]
  | true =>
    have ht := (trim_dg l).2 hd
    by_cases h1 : 1 < l.length ∧ l.head? = some 48
    · rw [if_pos (.inr (h48.2 h1)), if_pos (.inr h1)]
    · rw [if_neg (fun h => by rcases h with h | h; exact h ht; exact h1 (h48.1 h)), if_neg (fun h => by rcases h with h | h; cases h; exact h1 h)]
      cases l with
      | nil => exact absurd rfl hl
      | cons b t =>
        have hb : 48 ≤ b.toNat ∧ b.toNat ≤ 57 := by
          unfold dgA at hd
          rw [List.all_cons, Bool.and_eq_true] at hd
          exact dgB_iff.1 hd.1
        unfold Lib.atoiAll
        simp only
        rw [if_neg (show ¬ (b.toNat = 43 ∨ b.toNat = 45) by omega)]
        unfold Lib.parseMag
        rw [if_neg (by simp)]
        have h45 : ¬ b.toNat = 45 := by omega
        rcases parse_dg (b :: t) 0 hd with h | ⟨h, hv⟩
        · rw [h]
          simp only [h45, not_false_eq_true, true_and, false_and, if_false]
          by_cases hg : 9223372036854775808 ≤ dcV 0 (b :: t)
          · rw [if_pos hg, if_pos (by omega)]
          · rw [if_neg hg]
            simp only
            by_cases hv : 254 < dcV 0 (b :: t)
            · rw [if_pos hv, if_pos (by omega)]
            · rw [if_neg hv, if_neg (by omega)]
        · rw [h, if_pos hv]
theorem docC_long {l : List UInt8} (hd : dgA l = true) (h18 : 18 < l.length) (h0 : l.head? ≠ some 48) : 254 < dcV 0 l := by
  cases l with
  | nil => simp at h18
  | cons b t =>
    have hb : 48 ≤ b.toNat ∧ b.toNat ≤ 57 := by
      unfold dgA at hd
      rw [List.all_cons, Bool.and_eq_true] at hd
      exact dgB_iff.1 hd.1
    have hb2 : b.toNat ≠ 48 := fun e => h0 (by
      have : b = 48 := UInt8.toNat_inj.1 (by rw [e]; rfl)
      rw [this]; rfl)
    rw [dcV_cons]
    have h1 := dcV_ge t (10 * 0 + dgN b)
    have h2 : 10 ^ 18 ≤ 10 ^ t.length := Nat.pow_le_pow_right (by decide) (by simp at h18; omega)
    have h3 : 1 * 10 ^ t.length ≤ (10 * 0 + dgN b) * 10 ^ t.length := Nat.mul_le_mul_right _ (by unfold dgN; omega)
    have h4 : (10 : Nat) ^ 18 = 1000000000000000000 := by decide
    omega
theorem numG10 (l : List UInt8) (hl : l ≠ []) : numG 10 1 18 l = if l.length ≤ 18 ∧ dgA l = true then ((dcV 0 l : Nat) : Int) else -1 := by
  have := List.length_pos_iff.2 hl
  unfold numG
  by_cases h : 18 < l.length
  · rw [if_pos (.inr h), if_neg (by omega)]
  · rw [if_neg (by omega), numF10]
    cases dgA l with
    | false => simp
    | true => rw [if_pos rfl, if_pos ⟨by omega, rfl⟩]
end Go.Proofs.YtfpfpaaojdodnaaGreatDoor
/- The document's answer for props: words. -/
namespace Go.Proofs.YtfpfpaaojdodnaaGreatDoor
open Go Go.RowKit Go.Kt Go.Kt.Rg Go.Maps

theorem tinfoStr : (Tryz.prog.info? 9).map (fun i => (i.zero, i.size, i.bytes)) = some (some (.string ⟨#[]⟩), 1, 16) := by kernel_rfl
def encS (ws : List (List UInt8)) : List Value := ws.map fun x => .string ⟨x.toArray⟩
def TxO (H : Nat) (v : Value) (ws : List (List UInt8)) (W : World) : Prop := OwnS (fun b => H ≤ b) 9 1 v ws.length (encS ws) W
theorem txo_nil (H : Nat) (W : World) : TxO H (.slice none 0 0) [] W := own_nil _ _ _ _
theorem TxO.app {H : Nat} {v : Value} {ws : List (List UInt8)} {W : World} (h : TxO H v ws W) (hz : H ≤ W.heap.size) (hn : ws.length ≤ 1048576) (x : ByteArray) :
    ∃ v' W', (∀ ty, (Builtin.append_ #[73, 73] ty #[v, .slice (some ⟨W.heap.size, 0, none⟩) 1 1]).run Tryz.prog (W.alloc (.cells #[.string x] 9)) = .ok v' W') ∧ TxO H v' (ws ++ [x.data.toList]) W' ∧ Below H W W' := by
  obtain ⟨g, cap, w3, hrun, hown3, hk3, hg3, hz3⟩ := append_x (P := Tryz.prog) W 73 9 Tryz.underlying73 tinfoStr rfl (by omega) h [.string x] rfl
    (by intro u hu; simp at hu; subst hu; rfl) (by unfold maxLen; omega) (by omega)
  have hgg : H ≤ g := by
    rcases hg3 with hx | hx
    · exact h.2 _ hx
    · omega
  refine ⟨_, w3, hrun, ?_, hk3.below hz (fun b hb => h.2 b hb)⟩
  have e : encS (ws ++ [x.data.toList]) = encS ws ++ [.string x] := by simp [encS]
  unfold TxO
  rw [e, List.length_append]
  exact hown3.weaken (fun b hb => by subst hb; exact hgg)
theorem yAt_one (s : ByteArray) (i : Nat) (h : i < s.size) : (s.extract i (i + 1)).data.toList = [yAt s i] := by
  have := Lib.extract_toList s i (i + 1)
  rw [ByteArray.toList_eq] at this
  rw [this, yAt_drop s i h, Nat.add_sub_cancel_left]
  rfl
theorem ycat (a b : ByteArray) : (a ++ b).data.toList = a.data.toList ++ b.data.toList := by rw [ByteArray.data_append, Array.toList_append]
theorem byt_is {b : UInt8} {k : Nat} (hk : k < 256) (h : (b.toNat : Int) = (k : Nat)) : b = UInt8.ofNat k := by
  apply UInt8.toNat_inj.1
  rw [UInt8.toNat_ofNat_of_lt' hk]
  omega
def WdI (s : ByteArray) (ws : List (List UInt8)) (c : ByteArray) (i : Nat) : Prop :=
  (i ≤ s.size ∧ wordsH [] s.data.toList = ws ++ wordsH c.data.toList (s.data.toList.drop i) ∧ ws.length ≤ i ∧ c.size ≤ i) ∨ (i = s.size + 1 ∧ wordsH [] s.data.toList = ws ∧ ws.length ≤ i ∧ c.size = 0)
def flW (ws : List (List UInt8)) (c : ByteArray) : List (List UInt8) := if c.data.toList = [] then ws else ws ++ [c.data.toList]
theorem fl_fire {ws : List (List UInt8)} {c : ByteArray} : flW ws c = ws ++ if c.data.toList = [] then [] else [c.data.toList] := by
  unfold flW
  split
  · rw [List.append_nil]
  · rfl
theorem WdI.end_ {s c : ByteArray} {ws : List (List UInt8)} (h : WdI s ws c s.size) : wordsH [] s.data.toList = flW ws c ∧ (flW ws c).length ≤ s.size + 1 := by
  rcases h with ⟨_, h1, h2, _⟩ | ⟨h, _⟩
  · rw [List.drop_eq_nil_of_le (by rw [← Lib.size_eq]; exact Nat.le_refl _), wordsH] at h1
    refine ⟨by rw [h1, fl_fire], ?_⟩
    unfold flW
    split
    · omega
    · simp; omega
  · omega
theorem WdI.rem {s c : ByteArray} {ws : List (List UInt8)} {i : Nat} (h : WdI s ws c i) (hi : i < s.size) (hb : yAt s i = 35) : wordsH [] s.data.toList = flW ws c := by
  rcases h with ⟨_, h1, _⟩ | ⟨h, _⟩
  · rw [yAt_drop s i hi, wordsH, if_pos hb] at h1
    rw [h1, fl_fire]
  · omega
theorem WdI.blk {s c : ByteArray} {ws : List (List UInt8)} {i : Nat} (h : WdI s ws c i) (hi : i < s.size) (hb : yAt s i = 32 ∨ yAt s i = 9) : WdI s (flW ws c) ⟨#[]⟩ (i + 1) := by
  rcases h with ⟨_, h1, h2, _⟩ | ⟨h, _⟩
  · refine .inl ⟨by omega, ?_, ?_, Nat.zero_le _⟩
    · rw [yAt_drop s i hi, wordsH, if_neg (by rcases hb with h | h <;> (rw [h]; decide)), if_pos (by rcases hb with h | h <;> (rw [h]; decide))] at h1
      rw [h1, fl_fire]
      split
      · simp
      · simp
    · unfold flW
      split
      · omega
      · simp; omega
  · omega
theorem WdI.byte {s c : ByteArray} {ws : List (List UInt8)} {i : Nat} (h : WdI s ws c i) (hi : i < s.size) (h35 : yAt s i ≠ 35) (h32 : yAt s i ≠ 32) (h9 : yAt s i ≠ 9) : WdI s ws (c ++ s.extract i (i + 1)) (i + 1) := by
  rcases h with ⟨_, h1, h2, h3⟩ | ⟨h, _⟩
  · have hz : (s.extract i (i + 1)).size = 1 := by rw [ByteArray.size_extract]; omega
    refine .inl ⟨by omega, ?_, by omega, by rw [ByteArray.size_append, hz]; omega⟩
    have hbf : blkP (yAt s i).toNat = false := blk_no ⟨fun e => h32 (byt_is (k := 32) (by decide) (by rw [e])), fun e => h9 (byt_is (k := 9) (by decide) (by rw [e]))⟩
    rw [yAt_drop s i hi, wordsH, if_neg h35, hbf] at h1
    rw [h1, ycat, yAt_one s i hi]
    rfl
  · omega
theorem byt_nil {c : ByteArray} (h : c.data.toList = []) : c = ⟨#[]⟩ := by
  obtain ⟨⟨l⟩⟩ := c
  simp at h
  subst h
  rfl

set_option maxRecDepth 100000 in
set_option maxHeartbeats 4000000 in
theorem ywords (s : ByteArray) (w : World) (hs : s.size ≤ 1048000) :
    Calls Tryz.prog 37 #[.string s] w fun e w' => ∃ v, e = .returned v ∧ TxO w.heap.size v (wordsH [] s.data.toList) w' ∧ Below w.heap.size w w' := by
  go_enter Tryz.func37, Tryz.ntmps37
  go_wp2_with fail
  go_loopw [3, 4, 5] (fun u v x wr => ∃ (i : Nat) (ws : List (List UInt8)) (c : ByteArray), v = .string c ∧ x = .int .i64 (i : Nat) ∧ i ≤ s.size + 1 ∧ Hid (WdI s ws c i ∧ TxO w.heap.size u ws wr ∧ Below w.heap.size w wr)) (fun _ _ x _ => s.size + 1 - (RowKit.intOf x).toNat)
  case atStart => exact ⟨0, [], ⟨#[]⟩, rfl, rfl, Nat.zero_le _, Lib.hid ⟨.inl ⟨Nat.zero_le _, by rw [List.drop_zero]; rfl, Nat.le_refl _, Nat.le_refl _⟩, txo_nil _ _, Below.refl _ _⟩⟩
  case round =>
    obtain ⟨i, ws, c, rfl, rfl, hi, H⟩ := hrel
    by_cases hlt : i ≤ s.size
    · have e1 : (i : Int) ≤ s.size := by omega
      have hk1 : IntKind.i64.wrap ((i : Int) + 1) = ((i + 1 : Nat) : Int) := by rw [IntWalk.i64_in _ (by omega)]; omega
      have hwl : ws.length ≤ 1048576 := by rcases H.out.1 with ⟨_, _, h, _⟩ | ⟨_, _, h, _⟩ <;> omega
      obtain ⟨v', W', hrun, ht', hb'⟩ := H.out.2.1.app H.out.2.2.size hwl c
      have HRun := Lib.hid hrun
      have HB' := Lib.hid (And.intro ht' (H.out.2.2.trans hb'))
      clear hrun ht' hb' hwl
      by_cases hend : i = s.size
      · have q1 : ((i : Int) == (s.size : Int)) = true := by simp; omega
        have q2 : ¬ (i : Int) < s.size := by omega
        have HE := Lib.hid (WdI.end_ (hend ▸ H.out.1))
        have HEN := Lib.hid hend
        clear hend
        by_cases hc : c.data.toList = []
        · obtain rfl := byt_nil hc
          have HF : Hid (flW ws ⟨#[]⟩ = ws) := Lib.hid (by unfold flW; rw [if_pos hc])
          clear hc hlt
          go_wp2
          go_roundw
          case rel => exact ⟨i + 1, ws, ⟨#[]⟩, rfl, by go_num, by omega, Lib.hid ⟨.inr ⟨by have := HEN.out; omega, by rw [HE.out.1, HF.out], by have := HE.out.2; have := HEN.out; rw [HF.out] at *; omega, rfl⟩, H.out.2.1, H.out.2.2⟩⟩
          case measure => simp [RowKit.intOf]; omega
        · have HF : Hid (flW ws c = ws ++ [c.data.toList]) := Lib.hid (by unfold flW; rw [if_neg hc])
          have hcn : c.toList.isEmpty = false := by
            rw [ByteArray.toList_eq]
            cases h9 : c.data.toList with
            | nil => exact absurd h9 hc
            | cons _ _ => rfl
          clear hc hlt
          go_wp2_with (first | (at_builtin; refine wpList_append_eq rfl rfl rfl rfl HRun.out ?_; clear HRun) | fail)
          go_roundw
          case rel => exact ⟨i + 1, _, ⟨#[]⟩, rfl, by go_num, by omega, Lib.hid ⟨.inr ⟨by have := HEN.out; omega, by rw [HE.out.1, HF.out], by have := HE.out.2; have := HEN.out; rw [HF.out] at *; omega, rfl⟩, HB'.out.1, HB'.out.2⟩⟩
          case measure => simp [RowKit.intOf]; omega
      · have hlt2 : i < s.size := by omega
        have q1 : ((i : Int) == (s.size : Int)) = false := by rw [beq_eq_false_iff_ne]; omega
        have q2 : (i : Int) < s.size := by omega
        have HI := fun W => yAt_run s i hlt2 W
        obtain ⟨b, hb⟩ : ∃ b : Int, ((yAt s i).toNat : Int) = b := ⟨_, rfl⟩
        rw [hb] at HI
        have HLT := Lib.hid hlt2
        clear hend hlt hlt2
        by_cases h35 : b = 35
        · subst h35
          have HE := Lib.hid (H.out.1.rem HLT.out (byt_is (k := 35) (by decide) hb))
          by_cases hc : c.data.toList = []
          · obtain rfl := byt_nil hc
            have HF : Hid (flW ws ⟨#[]⟩ = ws) := Lib.hid (by unfold flW; rw [if_pos hc])
            clear hc hb
            go_wp2
            go_ret
            exact ⟨_, rfl, by rw [HE.out, HF.out]; exact H.out.2.1, H.out.2.2⟩
          · have HF : Hid (flW ws c = ws ++ [c.data.toList]) := Lib.hid (by unfold flW; rw [if_neg hc])
            have hcn : c.toList.isEmpty = false := by
              rw [ByteArray.toList_eq]
              cases h9 : c.data.toList with
              | nil => exact absurd h9 hc
              | cons _ _ => rfl
            clear hc hb
            go_wp2_with (first | (at_builtin; refine wpList_append_eq rfl rfl rfl rfl HRun.out ?_; clear HRun) | fail)
            go_ret
            exact ⟨_, rfl, by rw [HE.out, HF.out]; exact HB'.out.1, HB'.out.2⟩
        · have r35 : (b == 35) = false := beq_eq_false_iff_ne.2 h35
          by_cases hbl : b = 32 ∨ b = 9
          · have HE := Lib.hid (H.out.1.blk HLT.out (by rcases hbl with h | h; exact .inl (byt_is (k := 32) (by decide) (hb.trans h)); exact .inr (byt_is (k := 9) (by decide) (hb.trans h))))
            by_cases hc : c.data.toList = []
            · obtain rfl := byt_nil hc
              have HF : Hid (flW ws ⟨#[]⟩ = ws) := Lib.hid (by unfold flW; rw [if_pos hc])
              clear hc hb
              rcases hbl with rfl | rfl
              all_goals
                go_wp2
                go_roundw
                case rel => exact ⟨i + 1, ws, ⟨#[]⟩, rfl, by go_num, by have := HLT.out; omega, Lib.hid ⟨by have := HE.out; rwa [HF.out] at this, H.out.2.1, H.out.2.2⟩⟩
                case measure => have := HLT.out; simp [RowKit.intOf]; omega
            · have HF : Hid (flW ws c = ws ++ [c.data.toList]) := Lib.hid (by unfold flW; rw [if_neg hc])
              have hcn : c.toList.isEmpty = false := by
                rw [ByteArray.toList_eq]
                cases h9 : c.data.toList with
                | nil => exact absurd h9 hc
                | cons _ _ => rfl
              clear hc hb
              rcases hbl with rfl | rfl
              all_goals
                go_wp2_with (first | (at_builtin; refine wpList_append_eq rfl rfl rfl rfl HRun.out ?_; clear HRun) | fail)
                go_roundw
                case rel => exact ⟨i + 1, _, ⟨#[]⟩, rfl, by go_num, by have := HLT.out; omega, Lib.hid ⟨by have := HE.out; rwa [HF.out] at this, HB'.out.1, HB'.out.2⟩⟩
                case measure => have := HLT.out; simp [RowKit.intOf]; omega
          · have r32 : (b == 32) = false := beq_eq_false_iff_ne.2 (fun h => hbl (.inl h))
            have r9 : (b == 9) = false := beq_eq_false_iff_ne.2 (fun h => hbl (.inr h))
            have HE := Lib.hid (H.out.1.byte HLT.out (fun e => h35 (by rw [← hb, e]; rfl)) (fun e => hbl (.inl (by rw [← hb, e]; rfl))) (fun e => hbl (.inr (by rw [← hb, e]; rfl))))
            have s1 : (0 : Int) ≤ i := by omega
            have s2 : (i : Int) ≤ ((i + 1 : Nat) : Int) := by omega
            have s3 : ((i + 1 : Nat) : Int) ≤ s.size := by omega
            have hz : ¬ c.size + (s.extract i (i + 1)).size > 9223372036854775807 := by
              rw [ByteArray.size_extract]
              rcases H.out.1 with ⟨_, _, _, h⟩ | ⟨_, _, _, h⟩ <;> omega
            clear hb hbl
            go_wp2
            go_roundw
            case rel => exact ⟨i + 1, ws, _, rfl, by go_num, by have := HLT.out; omega, Lib.hid ⟨HE.out, H.out.2.1, H.out.2.2⟩⟩
            case measure => have := HLT.out; simp [RowKit.intOf]; omega
    · have e1 : ¬ (i : Int) ≤ s.size := by omega
      have HE : Hid (wordsH [] s.data.toList = ws) := Lib.hid (by rcases H.out.1 with ⟨h, _⟩ | ⟨_, h, _⟩; omega; exact h)
      clear hlt
      go_wp2
      go_ret
      exact ⟨_, rfl, by rw [HE.out]; exact H.out.2.1, H.out.2.2⟩
end Go.Proofs.YtfpfpaaojdodnaaGreatDoor
/- The document's answer for props: lines. -/
namespace Go.Proofs.YtfpfpaaojdodnaaGreatDoor
open Go Go.RowKit Go.Kt Go.Kt.Rg Go.Maps

def lnT (l : List UInt8) : List UInt8 := Lib.trimSuffix (Lib.trimSuffix l [10]) [13]
theorem words_lnT (l : List UInt8) : wordsH [] (lnT l) = wrdP l := (wrdP_H l).symm
def lnsP (l : List UInt8) : List (List UInt8) := (linesP l).map lnT
def LnI (s : ByteArray) (ws : List (List UInt8)) (f i : Nat) : Prop :=
  (f ≤ i ∧ i ≤ s.size ∧ lnsP s.data.toList = ws ++ lnsP (s.data.toList.drop f) ∧ (∀ j, f ≤ j → j < i → yAt s j ≠ 10) ∧ ws.length ≤ f) ∨ (i = s.size + 1 ∧ f ≤ i ∧ lnsP s.data.toList = ws ∧ ws.length ≤ i)
def lnC' (s : ByteArray) (f i : Nat) : List UInt8 := (s.data.toList.drop f).take (i - f)
theorem lnC_no {s : ByteArray} {f i : Nat} (h : ∀ j, f ≤ j → j < i → yAt s j ≠ 10) : ∀ x ∈ lnC' s f i, x ≠ 10 := by
  intro x hx
  obtain ⟨k, hk⟩ := List.getElem?_of_mem hx
  unfold lnC' at hk
  rw [List.getElem?_take] at hk
  split at hk
  · rename_i hlt
    rw [List.getElem?_drop] at hk
    have := h (f + k) (by omega) (by omega)
    unfold yAt at this
    rw [List.getD_eq_getElem?_getD, hk] at this
    exact this
  · cases hk
theorem lnC_drop {s : ByteArray} {f i : Nat} (h : f ≤ i) : s.data.toList.drop f = lnC' s f i ++ s.data.toList.drop i := by
  unfold lnC'
  conv => lhs; rw [← List.take_append_drop (i - f) (s.data.toList.drop f)]
  rw [List.drop_drop, show f + (i - f) = i by omega]
theorem LnI.skip {s : ByteArray} {ws : List (List UInt8)} {f i : Nat} (h : LnI s ws f i) (hi : i < s.size) (hb : yAt s i ≠ 10) : LnI s ws f (i + 1) := by
  rcases h with ⟨h1, h2, h3, h4, h5⟩ | ⟨h, _⟩
  · refine .inl ⟨by omega, by omega, h3, fun j hj hj2 => ?_, h5⟩
    by_cases e : j = i
    · subst e; exact hb
    · exact h4 j hj (by omega)
  · omega
theorem LnI.none {s : ByteArray} {ws : List (List UInt8)} (h : LnI s ws s.size s.size) : LnI s ws s.size (s.size + 1) := by
  rcases h with ⟨h1, h2, h3, h4, h5⟩ | ⟨h, _⟩
  · rw [List.drop_eq_nil_of_le (by rw [← Lib.size_eq]; exact Nat.le_refl _)] at h3
    exact .inr ⟨rfl, by omega, by rw [h3]; simp [lnsP, linesP_nil], by omega⟩
  · omega
theorem LnI.cut {s : ByteArray} {ws : List (List UInt8)} {f i : Nat} (h : LnI s ws f i) (hi : i < s.size) (hb : yAt s i = 10) : LnI s (ws ++ [Lib.trimSuffix (lnC' s f i) [13]]) (i + 1) (i + 1) := by
  rcases h with ⟨h1, h2, h3, h4, h5⟩ | ⟨h, _⟩
  · refine .inl ⟨Nat.le_refl _, by omega, ?_, fun j hj hj2 => by omega, by simp; omega⟩
    rw [h3, lnC_drop h1, yAt_drop s i hi, hb]
    unfold lnsP
    rw [lines_cons _ _ (lnC_no h4), List.map_cons, lnT, trims_end, List.append_assoc]
    rfl
  · omega
theorem LnI.last {s : ByteArray} {ws : List (List UInt8)} {f : Nat} (h : LnI s ws f s.size) (hf : f < s.size) : LnI s (ws ++ [Lib.trimSuffix (lnC' s f s.size) [13]]) (s.size + 1) (s.size + 1) := by
  rcases h with ⟨h1, h2, h3, h4, h5⟩ | ⟨h, _⟩
  · refine .inr ⟨rfl, Nat.le_refl _, ?_, by simp; omega⟩
    rw [h3, lnC_drop h1, List.drop_eq_nil_of_le (by rw [← Lib.size_eq]; exact Nat.le_refl _), List.append_nil]
    have hne : lnC' s f s.size ≠ [] := fun e => by
      have := congrArg List.length e
      have hln : s.data.toList.length = s.size := (Lib.size_eq s).symm
      simp only [lnC', List.length_take, List.length_drop, List.length_nil] at this
      omega
    unfold lnsP
    rw [lines_one _ (lnC_no h4), if_neg hne, List.map_singleton, lnT, trims10 _ (lnC_no h4)]
  · omega
theorem lnC_ext (s : ByteArray) (f i : Nat) : (s.extract f i).data.toList = lnC' s f i := by
  have := Lib.extract_toList s f i
  rw [ByteArray.toList_eq] at this
  exact this
theorem trim_yes {t : ByteArray} {n : Nat} (hn : t.size = n + 1) (hb : yAt t n = 13) : (t.extract 0 n).data.toList = Lib.trimSuffix t.data.toList [13] := by
  have h1 : t.data.toList = t.data.toList.take n ++ [13] := by
    have h := List.take_append_drop n t.data.toList
    rw [yAt_drop t n (by omega), hb, List.drop_eq_nil_of_le (by rw [← Lib.size_eq]; omega)] at h
    exact h.symm
  have h2 := Lib.extract_toList t 0 n
  rw [ByteArray.toList_eq] at h2
  rw [h2, List.drop_zero, Nat.sub_zero]
  conv => rhs; rw [h1]
  rw [trims_end]
theorem trim_no {t : ByteArray} {n : Nat} (hn : t.size = n + 1) (hb : yAt t n ≠ 13) : t.data.toList = Lib.trimSuffix t.data.toList [13] := by
  refine (trims_not 13 _ fun e => hb ?_).symm
  rw [List.getLast?_eq_getElem?, ← Lib.size_eq, hn, Nat.add_sub_cancel] at e
  unfold yAt
  rw [List.getD_eq_getElem?_getD, e]; rfl

theorem slFT (s : ByteArray) (f i : Nat) (h1 : f ≤ i) (h2 : i ≤ s.size) (X : World) : (Instr.sliceAt 9 (.string s) (some (.int .i64 (f : Nat))) (some (.int .i64 (i : Nat))) none).run Tryz.prog X = .ok (.string (s.extract f i)) X := by
  have q0 : (0 : Int) ≤ f := by omega
  have q1 : (f : Int) ≤ i := by omega
  have q2 : (i : Int) ≤ s.size := by omega
  go_simp
theorem slT0 (T : ByteArray) (i : Nat) (hT : i ≤ T.size) (X : World) : (Instr.sliceAt 9 (.string T) none (some (.int .i64 (i : Nat))) none).run Tryz.prog X = .ok (.string (T.extract 0 i)) X := by
  have q : (i : Int) ≤ T.size := by omega
  go_simp
set_option maxRecDepth 100000 in
set_option maxHeartbeats 4000000 in
theorem ylines (s : ByteArray) (w : World) (hs : s.size ≤ 1048000) :
    Calls Tryz.prog 36 #[.string s] w fun e w' => ∃ v, e = .returned v ∧ TxO w.heap.size v (lnsP s.data.toList) w' ∧ Below w.heap.size w w' := by
  go_enter Tryz.func36, Tryz.ntmps36
  go_wp2_with fail
  go_loopw [3, 4, 5] (fun u v x wr => ∃ (f i : Nat) (ws : List (List UInt8)), v = .int .i64 (f : Nat) ∧ x = .int .i64 (i : Nat) ∧ i ≤ s.size + 1 ∧ Hid (LnI s ws f i ∧ TxO w.heap.size u ws wr ∧ Below w.heap.size w wr)) (fun _ _ x _ => s.size + 1 - (RowKit.intOf x).toNat)
  case atStart => exact ⟨0, 0, [], rfl, rfl, Nat.zero_le _, Lib.hid ⟨.inl ⟨Nat.le_refl _, Nat.zero_le _, by rw [List.drop_zero]; rfl, fun j h1 h2 => by omega, Nat.le_refl _⟩, txo_nil _ _, Below.refl _ _⟩⟩
  case round =>
    obtain ⟨f, i, ws, rfl, rfl, hi, H⟩ := hrel
    by_cases hlt : i ≤ s.size
    · have e1 : (i : Int) ≤ s.size := by omega
      have hk1 : IntKind.i64.wrap ((i : Int) + 1) = ((i + 1 : Nat) : Int) := by rw [IntWalk.i64_in _ (by omega)]; omega
      have hfi : f ≤ i := by rcases H.out.1 with ⟨h, _⟩ | ⟨h, _⟩ <;> omega
      have hwl : ws.length ≤ 1048576 := by rcases H.out.1 with ⟨_, _, _, _, h⟩ | ⟨_, _, _, h⟩ <;> omega
      have APP := Lib.hid (fun c => H.out.2.1.app H.out.2.2.size hwl c)
      clear hwl
      by_cases hend : i = s.size
      · by_cases hf : f = i
        · subst hf
          have q1 : ((f : Int) == (s.size : Int)) = true := by simp; omega
          have q2 : ¬ (f : Int) < s.size := by omega
          have HE := Lib.hid (show LnI s ws f (f + 1) by rw [hend] at H ⊢; exact H.out.1.none)
          clear hend hlt hfi
          go_wp2
          go_roundw
          case rel => exact ⟨f, f + 1, ws, rfl, by go_num, by omega, Lib.hid ⟨HE.out, H.out.2.1, H.out.2.2⟩⟩
          case measure => simp [RowKit.intOf]; omega
        · have q1 : ((i : Int) == (s.size : Int)) = true := by simp; omega
          have q2 : ¬ (i : Int) < s.size := by omega
          have q3 : ((f : Int) == (i : Int)) = false := by rw [beq_eq_false_iff_ne]; omega
          have HE := Lib.hid (show LnI s (ws ++ [Lib.trimSuffix (lnC' s f i) [13]]) (i + 1) (i + 1) by rw [hend] at H ⊢; exact H.out.1.last (by omega))
          have HS := fun W => slFT s f i hfi hlt W
          obtain ⟨T, hT⟩ : ∃ T, s.extract f i = T := ⟨_, rfl⟩
          have hTl : T.data.toList = lnC' s f i := by rw [← hT]; exact lnC_ext s f i
          have hTz : T.size ≤ s.size := by rw [← hT, ByteArray.size_extract]; omega
          rw [hT] at HS
          have HTL := Lib.hid hTl
          clear hT hTl hlt hfi hend hf
          rcases Nat.eq_zero_or_pos T.size with hz | hz
          · have hT0 : T.data.toList = [] := List.length_eq_zero_iff.1 (by rw [← Lib.size_eq]; exact hz)
            obtain rfl := byt_nil hT0
            obtain ⟨v', W', hrun, ht', hb'⟩ := APP.out ⟨#[]⟩
            have HRun := Lib.hid hrun
            have HN : Hid (Lib.trimSuffix (lnC' s f i) [13] = []) := Lib.hid (by rw [← HTL.out]; rfl)
            have HB' := Lib.hid (And.intro ht' (H.out.2.2.trans hb'))
            clear hrun ht' hb' hz hT0 hTz
            go_wp2_with (first | (at_builtin; refine wpList_append_eq rfl rfl rfl rfl HRun.out ?_; clear HRun) | fail)
            go_roundw
            case rel => exact ⟨i + 1, i + 1, _, by go_num, by go_num, by omega, Lib.hid ⟨by have := HE.out; rwa [HN.out] at this, HB'.out.1, HB'.out.2⟩⟩
            case measure => simp [RowKit.intOf]; omega
          · obtain ⟨n, hn⟩ : ∃ n, T.size = n + 1 := ⟨T.size - 1, by omega⟩
            have hie : T.toList.isEmpty = false := by
              rw [ByteArray.toList_eq]
              cases h9 : T.data.toList with
              | nil => exact absurd ((Lib.size_eq T).trans (congrArg List.length h9)) (by rw [hn]; simp)
              | cons _ _ => rfl
            have hw2 : IntKind.i64.wrap ((T.size : Int) - 1) = (n : Nat) := by rw [IntWalk.i64_in _ (by omega)]; omega
            have HI2 := fun W => yAt_run T n (by omega) W
            obtain ⟨c, hc⟩ : ∃ c : Int, ((yAt T n).toNat : Int) = c := ⟨_, rfl⟩
            rw [hc] at HI2
            by_cases h13 : c = 13
            · subst h13
              have HS2 := fun W => slT0 T n (by omega) W
              have hT2 := trim_yes hn (byt_is (k := 13) (by decide) hc)
              obtain ⟨T2, hTT⟩ : ∃ T2, T.extract 0 n = T2 := ⟨_, rfl⟩
              rw [hTT] at HS2 hT2
              obtain ⟨v', W', hrun, ht', hb'⟩ := APP.out T2
              have HRun := Lib.hid hrun
              have HN : Hid (Lib.trimSuffix (lnC' s f i) [13] = T2.data.toList) := Lib.hid (by rw [← HTL.out, hT2])
              have HB' := Lib.hid (And.intro ht' (H.out.2.2.trans hb'))
              clear hrun ht' hb' hz hc hTT hT2 hn hTz
              go_wp2_with (first | (at_builtin; refine wpList_append_eq rfl rfl rfl rfl HRun.out ?_; clear HRun) | fail)
              go_roundw
              case rel => exact ⟨i + 1, i + 1, _, by go_num, by go_num, by omega, Lib.hid ⟨by have := HE.out; rwa [HN.out] at this, HB'.out.1, HB'.out.2⟩⟩
              case measure => simp [RowKit.intOf]; omega
            · have r13 : (c == 13) = false := beq_eq_false_iff_ne.2 h13
              have hT2 := trim_no hn (fun e => h13 (by rw [← hc, e]; rfl))
              obtain ⟨v', W', hrun, ht', hb'⟩ := APP.out T
              have HRun := Lib.hid hrun
              have HN : Hid (Lib.trimSuffix (lnC' s f i) [13] = T.data.toList) := Lib.hid (by rw [← HTL.out]; exact hT2.symm)
              have HB' := Lib.hid (And.intro ht' (H.out.2.2.trans hb'))
              clear hrun ht' hb' hz hc hT2 hn hTz
              go_wp2_with (first | (at_builtin; refine wpList_append_eq rfl rfl rfl rfl HRun.out ?_; clear HRun) | fail)
              go_roundw
              case rel => exact ⟨i + 1, i + 1, _, by go_num, by go_num, by omega, Lib.hid ⟨by have := HE.out; rwa [HN.out] at this, HB'.out.1, HB'.out.2⟩⟩
              case measure => simp [RowKit.intOf]; omega
      · have hlt2 : i < s.size := by omega
        have q1 : ((i : Int) == (s.size : Int)) = false := by rw [beq_eq_false_iff_ne]; omega
        have q2 : (i : Int) < s.size := by omega
        have HI := fun W => yAt_run s i hlt2 W
        obtain ⟨b, hb⟩ : ∃ b : Int, ((yAt s i).toNat : Int) = b := ⟨_, rfl⟩
        rw [hb] at HI
        by_cases h10 : b = 10
        · subst h10
          have HE := Lib.hid (H.out.1.cut hlt2 (byt_is (k := 10) (by decide) hb))
          clear hb
          have HS := fun W => slFT s f i hfi hlt W
          obtain ⟨T, hT⟩ : ∃ T, s.extract f i = T := ⟨_, rfl⟩
          have hTl : T.data.toList = lnC' s f i := by rw [← hT]; exact lnC_ext s f i
          have hTz : T.size ≤ s.size := by rw [← hT, ByteArray.size_extract]; omega
          rw [hT] at HS
          have HTL := Lib.hid hTl
          clear hT hTl hlt hfi hend
          rcases Nat.eq_zero_or_pos T.size with hz | hz
          · have hT0 : T.data.toList = [] := List.length_eq_zero_iff.1 (by rw [← Lib.size_eq]; exact hz)
            obtain rfl := byt_nil hT0
            obtain ⟨v', W', hrun, ht', hb'⟩ := APP.out ⟨#[]⟩
            have HRun := Lib.hid hrun
            have HN : Hid (Lib.trimSuffix (lnC' s f i) [13] = []) := Lib.hid (by rw [← HTL.out]; rfl)
            have HB' := Lib.hid (And.intro ht' (H.out.2.2.trans hb'))
            clear hrun ht' hb' hz hT0 hTz
            go_wp2_with (first | (at_builtin; refine wpList_append_eq rfl rfl rfl rfl HRun.out ?_; clear HRun) | fail)
            go_roundw
            case rel => exact ⟨i + 1, i + 1, _, by go_num, by go_num, by omega, Lib.hid ⟨by have := HE.out; rwa [HN.out] at this, HB'.out.1, HB'.out.2⟩⟩
            case measure => simp [RowKit.intOf]; omega
          · obtain ⟨n, hn⟩ : ∃ n, T.size = n + 1 := ⟨T.size - 1, by omega⟩
            have hie : T.toList.isEmpty = false := by
              rw [ByteArray.toList_eq]
              cases h9 : T.data.toList with
              | nil => exact absurd ((Lib.size_eq T).trans (congrArg List.length h9)) (by rw [hn]; simp)
              | cons _ _ => rfl
            have hw2 : IntKind.i64.wrap ((T.size : Int) - 1) = (n : Nat) := by rw [IntWalk.i64_in _ (by omega)]; omega
            have HI2 := fun W => yAt_run T n (by omega) W
            obtain ⟨c, hc⟩ : ∃ c : Int, ((yAt T n).toNat : Int) = c := ⟨_, rfl⟩
            rw [hc] at HI2
            by_cases h13 : c = 13
            · subst h13
              have HS2 := fun W => slT0 T n (by omega) W
              have hT2 := trim_yes hn (byt_is (k := 13) (by decide) hc)
              obtain ⟨T2, hTT⟩ : ∃ T2, T.extract 0 n = T2 := ⟨_, rfl⟩
              rw [hTT] at HS2 hT2
              obtain ⟨v', W', hrun, ht', hb'⟩ := APP.out T2
              have HRun := Lib.hid hrun
              have HN : Hid (Lib.trimSuffix (lnC' s f i) [13] = T2.data.toList) := Lib.hid (by rw [← HTL.out, hT2])
              have HB' := Lib.hid (And.intro ht' (H.out.2.2.trans hb'))
              clear hrun ht' hb' hz hc hTT hT2 hn hTz
              go_wp2_with (first | (at_builtin; refine wpList_append_eq rfl rfl rfl rfl HRun.out ?_; clear HRun) | fail)
              go_roundw
              case rel => exact ⟨i + 1, i + 1, _, by go_num, by go_num, by omega, Lib.hid ⟨by have := HE.out; rwa [HN.out] at this, HB'.out.1, HB'.out.2⟩⟩
              case measure => simp [RowKit.intOf]; omega
            · have r13 : (c == 13) = false := beq_eq_false_iff_ne.2 h13
              have hT2 := trim_no hn (fun e => h13 (by rw [← hc, e]; rfl))
              obtain ⟨v', W', hrun, ht', hb'⟩ := APP.out T
              have HRun := Lib.hid hrun
              have HN : Hid (Lib.trimSuffix (lnC' s f i) [13] = T.data.toList) := Lib.hid (by rw [← HTL.out]; exact hT2.symm)
              have HB' := Lib.hid (And.intro ht' (H.out.2.2.trans hb'))
              clear hrun ht' hb' hz hc hT2 hn hTz
              go_wp2_with (first | (at_builtin; refine wpList_append_eq rfl rfl rfl rfl HRun.out ?_; clear HRun) | fail)
              go_roundw
              case rel => exact ⟨i + 1, i + 1, _, by go_num, by go_num, by omega, Lib.hid ⟨by have := HE.out; rwa [HN.out] at this, HB'.out.1, HB'.out.2⟩⟩
              case measure => simp [RowKit.intOf]; omega
        · have r10 : (b == 10) = false := beq_eq_false_iff_ne.2 h10
          have HE := Lib.hid (H.out.1.skip hlt2 (fun e => h10 (by rw [← hb, e]; rfl)))
          clear hb hend hlt hfi
          go_wp2
          go_roundw
          case rel => exact ⟨f, i + 1, ws, rfl, by go_num, by omega, Lib.hid ⟨HE.out, H.out.2.1, H.out.2.2⟩⟩
          case measure => simp [RowKit.intOf]; omega
    · have e1 : ¬ (i : Int) ≤ s.size := by omega
      have HE : Hid (lnsP s.data.toList = ws) := Lib.hid (by rcases H.out.1 with ⟨_, h, _⟩ | ⟨_, _, h, _⟩; omega; exact h)
      clear hlt
      go_wp2
      go_ret
      exact ⟨_, rfl, by rw [HE.out]; exact H.out.2.1, H.out.2.2⟩
end Go.Proofs.YtfpfpaaojdodnaaGreatDoor
/- What is the same of any program: a drawn region operation by operation, as in K6; an operation that its guard does not want leaves nothing in its slot. -/
namespace Go.Kt
open Go

section
variable {P : Program} {ops : Array Oper} {Q : Exit → Act → World → Prop} {md : Region.Mode}

def GStep (P : Program) (md : Region.Mode) (ops : Array Oper) (Q : Exit → Act → World → Prop) (S : World → Prop) (R : World → World → Prop) (p : Nat → Value → World → Prop) (a0 : Act) (i : Nat) (o : Oper) : Prop :=
  ∀ a w, S w → Like ops a0 a → (∀ j k, waitsB md o j = true → slotB ops j k = true → p j (a.tmps.getD k undef) w) →
    (Region.wanted o (yielded ops a.tmps) = true ∧ o.wp P a w (fun a' w' => ∃ v, a' = a.put o.dst v ∧ S w' ∧ R w w' ∧ p i v w') Q) ∨ (Region.wanted o (yielded ops a.tmps) = false ∧ R w w ∧ p i undef w)
def GSteps (P : Program) (md : Region.Mode) (ops : Array Oper) (Q : Exit → Act → World → Prop) (S : World → Prop) (R : World → World → Prop) (p : Nat → Value → World → Prop) (a0 : Act) : Nat → List Oper → Prop
  | _, [] => True
  | i, o :: r => GStep P md ops Q S R p a0 i o ∧ GSteps P md ops Q S R p a0 (i + 1) r
theorem GSteps.get {S : World → Prop} {R : World → World → Prop} {p : Nat → Value → World → Prop} {a0 : Act} : ∀ (l : List Oper) (i : Nat), GSteps P md ops Q S R p a0 i l → ∀ j o, l[j]? = some o → GStep P md ops Q S R p a0 (i + j) o
  | [], _, _, j, o, h => by simp at h
  | x :: r, i, hs, 0, o, h => by simp at h; subst h; exact hs.1
  | x :: r, i, hs, j + 1, o, h => by
    have := GSteps.get r (i + 1) hs.2 j o (by simpa using h)
    rw [show i + (j + 1) = i + 1 + j by omega]; exact this

theorem wp_region_guarded {id : Nat} {a0 : Act} {w0 : World} (S : World → Prop) (R : World → World → Prop) (p : Nat → Value → World → Prop) (hm : P.follows .mixedOrders = true) (hap : apartB ops a0.tmps.size = true) (hfw : forwardB .any ops = true)
    (hS : S w0.drew) (hp : ∀ i v w w', S w → S w' → R w w' → p i v w → p i v w') (hs : GSteps P .any ops Q S R p a0 0 ops.toList)
    (hd : ∀ a w, S w → Like ops a0 a → (∀ j k, slotB ops j k = true → p j (a.tmps.getD k undef) w) → (∀ j, j < ops.size → ∃ v, p j v w) → Q .normal a w) : (Code.region id ops true).wp P Q a0 w0 := by
  have hdst : ∀ (i : Nat) (o : Oper) (k : Nat), ops[i]? = some o → o.dst = some k → k < a0.tmps.size ∧ ∀ (j : Nat) (oj : Oper), ops[j]? = some oj → oj.dst = some k → i = j := by
    intro i o k ho hk
    have hi := (Array.getElem?_eq_some_iff.1 ho).1
    have h1 := List.all_eq_true.1 hap i (List.mem_range.2 hi)
    have h2 : ops.getD i default = o := by simp [Array.getD_eq_getD_getElem?, ho]
    rw [h2, hk] at h1
    simp only [Bool.and_eq_true, decide_eq_true_eq] at h1
    refine ⟨h1.1, fun j oj hj hjk => ?_⟩
    have hj' := (Array.getElem?_eq_some_iff.1 hj).1
    have h3 := List.all_eq_true.1 h1.2 j (List.mem_range.2 hj')
    have h4 : ops.getD j default = oj := by simp [Array.getD_eq_getD_getElem?, hj]
    rw [h4, hjk] at h3
    simpa using h3
  refine wp_region_any hm ?_
  refine wpAny_inv (fun listed a w => listed.size = ops.size ∧ S w ∧ Like ops a0 a ∧ (∀ j, listed.getD j false = true → ∃ v, p j v w) ∧ ∀ j k, listed.getD j false = true → slotB ops j k = true → p j (a.tmps.getD k undef) w) ?_ ?_ _ _ _ _ ?_ ⟨by simp, hS, ⟨rfl, rfl, fun _ _ => rfl⟩, ?_, ?_⟩
  · rintro listed a w i ⟨hz, hSw, hL, hE, hP⟩ hi
    obtain ⟨hjun, o, ho, hall⟩ := mem_ready.1 hi
    have hilt := (Array.getElem?_eq_some_iff.1 ho).1
    have hst := GSteps.get ops.toList 0 hs i o (by simpa using ho)
    rw [Nat.zero_add] at hst
    have hst2 := hst a w hSw hL (fun j k hj hk => hP j k (by
      unfold waitsB at hj
      obtain ⟨e, he, h2⟩ := Array.any_eq_true'.1 hj
      simp only [Bool.and_eq_true, beq_iff_eq] at h2
      have := hall e he h2.2
      rw [h2.1] at this
      exact this) hk)
    suffices key : ∀ (v : Value) (w' : World), S w' → R w w' → p i v w' → (listed.setIfInBounds i true).size = ops.size ∧ S w' ∧ Like ops a0 (a.put o.dst v) ∧ (∀ j, (listed.setIfInBounds i true).getD j false = true → ∃ v, p j v w') ∧ ∀ j k, (listed.setIfInBounds i true).getD j false = true → slotB ops j k = true → p j ((a.put o.dst v).tmps.getD k undef) w' by
      rcases hst2 with ⟨hw, hx⟩ | ⟨hw, hR0, hp0⟩
      · unfold wpOp
        simp only [ho, hw, if_true]
        refine .inl (Oper.wp_mono ?_ hx)
        rintro a' w' ⟨v, rfl, hS', hR', hpv⟩
        exact key v w' hS' hR' hpv
      · unfold wpOp
        simp only [ho, hw, Bool.false_eq_true, if_false]
        exact key undef w hSw hR0 hp0
    intro v w' hS' hR' hpv
    refine ⟨by simpa using hz, hS', ⟨?_, ?_, fun k hk => ?_⟩, fun j hj => ?_, fun j k hj hk => ?_⟩
    · cases h : o.dst <;> exact hL.defers
    · cases h : o.dst
      · exact hL.size
      · simp only [Act.put, Array.size_setIfInBounds]; exact hL.size
    · cases h : o.dst with
      | none => exact hL.far k hk
      | some d =>
        have hne : d ≠ k := fun e => by
          subst e
          unfold outside at hk
          have := Array.all_eq_true.1 hk i hilt
          rw [(Array.getElem?_eq_some_iff.1 ho).2, h] at this
          simp at this
        simp only [Act.put, Array.getD_eq_getD_getElem?, Array.getElem?_setIfInBounds, if_neg hne]
        have := hL.far k hk
        simpa only [Array.getD_eq_getD_getElem?] using this
    · by_cases hji : j = i
      · subst hji; exact ⟨v, hpv⟩
      · have hjl : listed.getD j false = true := by
          simp only [Array.getD_eq_getD_getElem?, Array.getElem?_setIfInBounds, if_neg (Ne.symm hji)] at hj ⊢
          exact hj
        obtain ⟨u, hu⟩ := hE j hjl
        exact ⟨u, hp j _ w w' hSw hS' hR' hu⟩
    · obtain ⟨oj, hoj, hjk⟩ : ∃ oj, ops[j]? = some oj ∧ oj.dst = some k := by
        unfold slotB at hk
        cases h : ops[j]? with
        | none => rw [h] at hk; cases hk
        | some oj => rw [h] at hk; exact ⟨oj, rfl, by simpa using hk⟩
      by_cases hji : j = i
      · subst hji
        rw [hoj] at ho
        cases ho
        have hkz := (hdst j _ k hoj hjk).1
        rw [hjk]
        have : (a.put (some k) v).tmps.getD k undef = v := by
          have : k < a.tmps.size := by rw [hL.size]; exact hkz
          simp [Act.put, Array.getD_eq_getD_getElem?, this]
        rw [this]
        exact hpv
      · have hjl : listed.getD j false = true := by
          simp only [Array.getD_eq_getD_getElem?, Array.getElem?_setIfInBounds, if_neg (Ne.symm hji)] at hj ⊢
          exact hj
        have h1 := hp j _ w w' hSw hS' hR' (hP j k hjl hk)
        cases h : o.dst with
        | none => exact h1
        | some d =>
          have hne : d ≠ k := fun e => by
            subst e
            exact hji ((hdst i o d ho h).2 j oj hoj hjk).symm
          simp only [Act.put, Array.getD_eq_getD_getElem?, Array.getElem?_setIfInBounds, if_neg hne] at h1 ⊢
          exact h1
  · rintro listed a w ⟨hz, hSw, hL, hE, hP⟩ hr
    have hall : ∀ n j, j < n → j < ops.size → listed.getD j false = true := by
      intro n
      induction n with
      | zero => intro j h; omega
      | succ n ih =>
        intro j hjn hj
        cases hl : listed.getD j true with
        | true =>
          have : j < listed.size := by omega
          simpa [Array.getD_eq_getD_getElem?, this] using hl
        | false =>
          exfalso
          have hmem : j ∈ Region.ready .any ops listed := mem_ready.2 ⟨hl, ops[j], by simp [hj], fun e he hb => by
            have h1 := List.all_eq_true.1 hfw j (List.mem_range.2 hj)
            have h2 : ops.getD j default = ops[j] := by simp [Array.getD_eq_getD_getElem?, hj]
            rw [h2] at h1
            have h3 := Array.all_eq_true_iff_forall_mem.1 h1 e he
            rw [hb] at h3
            simp at h3
            exact ih e.on (by omega) (by omega)⟩
          rw [hr] at hmem
          cases hmem
    refine hd a w hSw hL (fun j k hk => hP j k (hall (j + 1) j (by omega) ?_) hk) (fun j hj => hE j (hall (j + 1) j (by omega) hj))
    unfold slotB at hk
    cases h : ops[j]? with
    | none => rw [h] at hk; cases hk
    | some oj => exact (Array.getElem?_eq_some_iff.1 h).1
  · unfold unlisted
    exact Nat.le_trans (List.length_filter_le _ _) (by simp)
  · intro j hj
    simp only [Array.getD_eq_getD_getElem?, Array.getElem?_replicate] at hj
    split at hj <;> simp at hj
  · intro j k hj
    simp only [Array.getD_eq_getD_getElem?, Array.getElem?_replicate] at hj
    split at hj <;> simp at hj
end
section
variable {P : Program} {ops : Array Oper} {Q : Exit → Act → World → Prop}
theorem GSteps.cons {S : World → Prop} {R : World → World → Prop} {p : Nat → Value → World → Prop} {a0 : Act} {md : Region.Mode} {i : Nat} {o : Oper} {r : List Oper}
    (h : GStep P md ops Q S R p a0 i o) (hr : GSteps P md ops Q S R p a0 (i + 1) r) : GSteps P md ops Q S R p a0 i (o :: r) := ⟨h, hr⟩
theorem GSteps.nil {S : World → Prop} {R : World → World → Prop} {p : Nat → Value → World → Prop} {a0 : Act} {md : Region.Mode} {i : Nat} : GSteps P md ops Q S R p a0 i [] := trivial
end
end Go.Kt
