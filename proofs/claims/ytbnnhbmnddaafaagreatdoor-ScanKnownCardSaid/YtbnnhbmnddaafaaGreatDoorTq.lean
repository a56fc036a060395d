/- ScanScan: two lists of tokens that are the same; an error's look; the law's own: small. -/
import Derived.Test.YtbnnhbmnddaafaaGreatDoorTn
import Derived.Test.YtbnnhbmnddaafaaGreatDoorTp
import Derived.Test.YtbnnhbmnddaafaaGreatDoorAr
namespace Go.Proofs.YtbnnhbmnddaafaaGreatDoor
open Go Go.RowKit Go.Kt Go.Shelf Go.Lib
attribute [local go_sem] Oper.semAt_some

def TkG (W : World) (v : Value) (L : List Tk) : Prop :=
  ∃ ao cap, v = .slice ao L.length cap ∧ (L = [] ∨ ∃ g, ao = some ⟨g, 0, none⟩ ∧ ∀ (i : Nat) (t : Tk), L[i]? = some t → W.cell? ⟨g, i * 5, none⟩ = some (.int .i64 (t.kind : Nat)) ∧ W.cell? ⟨g, i * 5 + 1, none⟩ = some (.string ⟨t.text.toArray⟩) ∧ W.cell? ⟨g, i * 5 + 2, none⟩ = some (.int .i64 (t.pl.1 : Nat)) ∧ W.cell? ⟨g, i * 5 + 3, none⟩ = some (.int .i64 (t.pl.2.1 : Nat)) ∧ W.cell? ⟨g, i * 5 + 4, none⟩ = some (.int .i64 (t.pl.2.2 : Nat)))
theorem tkG_of {Y : Nat → Prop} {v : Value} {L : List Tk} {W : World} (h : OwnS Y 30 5 v L.length (tksC L) W) : TkG W v L := by
  rcases h.shape with ⟨rfl, h0⟩ | ⟨g, cap, rfl, _, _⟩
  · exact ⟨none, 0, by rw [h0], .inl (List.eq_nil_of_length_eq_zero h0)⟩
  · exact ⟨_, cap, rfl, .inr ⟨g, rfl, fun i t ht => toks_cells h (Below.refl _ _) ht⟩⟩
theorem TkG.below {A B : World} {v : Value} {L : List Tk} (h : TkG A v L) (hb : Below A.heap.size A B) : TkG B v L := by
  obtain ⟨ao, cap, rfl, h⟩ := h
  refine ⟨ao, cap, rfl, ?_⟩
  have far : ∀ {a : Addr} {u : Value}, A.cell? a = some u → B.cell? a = some u := fun hu => (hb.cell (Kt.lt_of_cell hu)).trans hu
  rcases h with h | ⟨g, rfl, h⟩
  · exact .inl h
  · exact .inr ⟨g, rfl, fun i x hx => by
      obtain ⟨c0, c1, c2, c3, c4⟩ := h i x hx
      exact ⟨far c0, far c1, far c2, far c3, far c4⟩⟩
set_option maxRecDepth 100000 in
set_option maxHeartbeats 2000000 in
theorem sameTokens_yes (v1 v2 : Value) (L : List Tk) (w : World) (h1 : TkG w v1 L) (h2 : TkG w v2 L) (m1 : L.length ≤ 4611686018427387904) :
    Calls Tryz.prog 30 #[v1, v2] w fun e w' => e = .returned (.bool true) ∧ Drawn w w' := by
  obtain ⟨a1, c1, rfl, h1⟩ := h1
  obtain ⟨a2, c2, rfl, h2⟩ := h2
  obtain ⟨n, hn⟩ : ∃ n, L.length = n := ⟨_, rfl⟩
  rw [hn] at m1
  have HN := Lib.hid hn
  have H1 := Lib.hid h1
  have H2 := Lib.hid h2
  have hne : ((n : Int) != n) = false := by simp
  rw [hn]
  clear h1 h2 hn
  go_enter Tryz.func30, Tryz.ntmps30
  go_wp2
  go_loopw [5] (fun v wr => ∃ k : Nat, k ≤ n ∧ v = .int .i64 k ∧ Drawn w wr) (fun v _ => n - (RowKit.intOf v).toNat)
  case atStart => exact ⟨0, by omega, rfl, Drawn.refl _⟩
  case round =>
    obtain ⟨k, hk, rfl, hb⟩ := hrel
    by_cases hlt : k < n
    · obtain ⟨x, e1⟩ : ∃ x, L[k]? = some x := ⟨_, List.getElem?_eq_getElem (by rw [HN.out]; exact hlt)⟩
      obtain ⟨g1, rfl, p0, p1, p2, p3, p4⟩ : ∃ g, a1 = some ⟨g, 0, none⟩ ∧ w.cell? ⟨g, k * 5, none⟩ = some (.int .i64 (x.kind : Nat)) ∧ w.cell? ⟨g, k * 5 + 1, none⟩ = some (.string ⟨x.text.toArray⟩) ∧ w.cell? ⟨g, k * 5 + 2, none⟩ = some (.int .i64 (x.pl.1 : Nat)) ∧ w.cell? ⟨g, k * 5 + 3, none⟩ = some (.int .i64 (x.pl.2.1 : Nat)) ∧ w.cell? ⟨g, k * 5 + 4, none⟩ = some (.int .i64 (x.pl.2.2 : Nat)) := by
        rcases H1.out with h | ⟨g, h, hc⟩
        · subst h; simp at e1
        · exact ⟨g, h, hc k x e1⟩
      obtain ⟨g2, rfl, r0, r1, r2, r3, r4⟩ : ∃ g, a2 = some ⟨g, 0, none⟩ ∧ w.cell? ⟨g, k * 5, none⟩ = some (.int .i64 (x.kind : Nat)) ∧ w.cell? ⟨g, k * 5 + 1, none⟩ = some (.string ⟨x.text.toArray⟩) ∧ w.cell? ⟨g, k * 5 + 2, none⟩ = some (.int .i64 (x.pl.1 : Nat)) ∧ w.cell? ⟨g, k * 5 + 3, none⟩ = some (.int .i64 (x.pl.2.1 : Nat)) ∧ w.cell? ⟨g, k * 5 + 4, none⟩ = some (.int .i64 (x.pl.2.2 : Nat)) := by
        rcases H2.out with h | ⟨g, h, hc⟩
        · subst h; simp at e1
        · exact ⟨g, h, hc k x e1⟩
      have hlt' : (k : Int) < n := by omega
      replace p0 := (hb.cell _).trans p0
      replace p1 := (hb.cell _).trans p1
      replace p2 := (hb.cell _).trans p2
      replace p3 := (hb.cell _).trans p3
      replace p4 := (hb.cell _).trans p4
      replace r0 := (hb.cell _).trans r0
      replace r1 := (hb.cell _).trans r1
      replace r2 := (hb.cell _).trans r2
      replace r3 := (hb.cell _).trans r3
      replace r4 := (hb.cell _).trans r4
      obtain ⟨kd, tx, ln, cl, at_⟩ := x
      simp only at p0 p1 p2 p3 p4 r0 r1 r2 r3 r4
      have HB := Lib.hid hb
      clear e1 hb
      go_wp2
      go_quiet (fail)
      go_wp2
      go_roundw
      case rel => exact ⟨k + 1, by omega, by go_num, HB.out.more _⟩
      case measure => simp [RowKit.intOf]; omega
    · have hge : ¬ (k : Int) < n := by omega
      go_wp2
      go_ret
      exact ⟨rfl, hb⟩

def tokR : SR → List Tk
  | .ok L => L
  | .bad _ _ _ => []
def errV : SR → Value
  | .ok _ => .nilIface
  | .bad no l c => fltV no (l : Nat) (c : Nat)
def noR : SR → Nat
  | .ok _ => 0
  | .bad no _ _ => no
def liR : SR → Nat
  | .ok _ => 0
  | .bad _ l _ => l
def coR : SR → Nat
  | .ok _ => 0
  | .bad _ _ c => c
theorem scan_out {D : Nat} {R : SR} {e : Ending} {w' : World} (h : ScanOut D R e w') : ∃ ao cap, e = .returned (.tuple #[.slice ao (tokR R).length cap, errV R]) ∧ OwnS (fun b => D ≤ b) 30 5 (.slice ao (tokR R).length cap) (tokR R).length (tksC (tokR R)) w' := by
  cases R with
  | bad no l c => exact ⟨none, 0, h, own_nil _ _ _ _⟩
  | ok L => obtain ⟨g, cap, e1, ho⟩ := h; exact ⟨_, cap, e1, ho⟩
theorem xscan_out {D : Nat} {R : SR} {e : Ending} {w' : World} (h : xscanO D R e w') : ∃ ao cap, e = .returned (.tuple #[.slice ao (tokR R).length cap, .int .i64 (noR R : Nat), .int .i64 (liR R : Nat), .int .i64 (coR R : Nat)]) ∧ OwnS (fun b => D ≤ b) 30 5 (.slice ao (tokR R).length cap) (tokR R).length (tksC (tokR R)) w' := by
  cases R with
  | bad no l c => exact ⟨none, 0, h, own_nil _ _ _ _⟩
  | ok L => obtain ⟨g, cap, e1, ho⟩ := h; exact ⟨_, cap, e1, ho⟩
theorem at_nil (w : World) : Calls Tryz.prog 10 #[.nilIface, .int .i64 0, .int .i64 0, .int .i64 0] w fun e w' => e = .returned (.bool true) ∧ Below w.heap.size w w' := by
  go_enter Tryz.func10, Tryz.ntmps10
  go_wp2
  go_ret
  exact ⟨rfl, Below.refl _ _⟩
theorem num_nil (w : World) : Calls Tryz.prog 26 #[.nilIface] w fun e w' => e = .returned (.int .i64 0) ∧ Below w.heap.size w w' := by
  go_enter Tryz.func26, Tryz.ntmps26
  go_wp2
  go_ret
  exact ⟨rfl, Below.refl _ _⟩
theorem plain_no {s : ByteArray} {c : Sc} {r : Int} {no : Nat} {p : Pl} (h : plainS s c r = .bad no p) : no = 9 := by
  unfold plainS at h
  split at h
  · cases h
  · split at h
    · split at h
      · cases h; rfl
      · cases h
    · split at h
      · cases h
      · split at h <;> cases h
theorem between_no {s : ByteArray} {c : Sc} {r : Int} {no : Nat} {p : Pl} (h : betweenS s c r = .bad no p) : no = 9 ∨ no = 25 ∨ no = 4 := by
  unfold betweenS at h
  repeat' split at h
  all_goals first | (cases h; done) | (cases h; exact .inr (.inl rfl)) | (cases h; exact .inr (.inr rfl)) | skip
  cases hpl : plainS s { c with st := 4, «from» := c.here, text := [] } r with
  | took d => rw [hpl] at h; cases h
  | left d => rw [hpl] at h; cases h
  | bad n2 z => rw [hpl] at h; cases h; exact .inl (plain_no hpl)
theorem token_no2 {s : ByteArray} {c : Sc} {r : Int} {no : Nat} {p : Pl} (h : tokenS s c r = .bad no p) : no = 9 ∨ no = 25 ∨ no = 4 := by
  unfold tokenS at h
  split at h
  · exact between_no h
  split at h
  · unfold remarkS at h
    split at h
    · exact between_no h
    · cases h
  split at h
  · unfold signS at h
    split at h
    · cases h
    · exact between_no h
  split at h
  · unfold optionS at h
    split at h <;> cases h
  · unfold textS at h
    cases hp : pieceS s c r with
    | took d => rw [hp] at h; cases h
    | left d => rw [hp] at h; exact between_no h
    | bad n2 z =>
      rw [hp] at h
      cases h
      unfold pieceS at hp
      split at hp
      · unfold quotedS at hp
        split at hp <;> cases hp
      split at hp
      · unfold closingS at hp
        split at hp
        · cases hp
        · exact .inl (plain_no hp)
      split at hp
      · unfold escapeS at hp
        split at hp
        · exact .inl (plain_no hp)
        · cases hp
      · exact .inl (plain_no hp)
theorem run_no2 {s : ByteArray} : ∀ (f i : Nat) (c : Sc) (no : Nat) (p : Pl), runS s f i c = .bad no p → no = 9 ∨ no = 25 ∨ no = 4
  | 0, i, c, no, p, h => by cases h
  | f + 1, i, c, no, p, h => by
    rw [runS] at h
    split at h
    · split at h
      · exact run_no2 f _ _ no p h
      · rename_i hh
        cases h
        exact token_no2 hh
    · cases h
theorem scan_no {s : ByteArray} {no l c : Nat} (h : scanS s = .bad no l c) : 1 ≤ no ∧ no ≤ 25 := by
  unfold scanS at h
  split at h
  · cases h; decide
  split at h
  · cases h; decide
  cases hr : runS s (s.size + 1) 0 c0S with
  | bad n2 p =>
    rw [hr] at h
    cases h
    rcases run_no2 _ _ _ _ _ hr with h | h | h <;> omega
  | ok c2 =>
    rw [hr] at h
    simp only at h
    unfold endS at h
    split at h
    · cases h; decide
    · split at h
      · cases h; decide
      · cases h
theorem at_scan {s : ByteArray} (w : World) (hE : ErrT w) : Calls Tryz.prog 10 #[errV (scanS s), .int .i64 (noR (scanS s) : Nat), .int .i64 (liR (scanS s) : Nat), .int .i64 (coR (scanS s) : Nat)] w fun e w' => e = .returned (.bool true) ∧ Below w.heap.size w w' := by
  cases h : scanS s with
  | ok L => exact at_nil w
  | bad no l c =>
    obtain ⟨h1, h2⟩ := scan_no h
    exact at_fault (no : Nat) (l : Nat) (c : Nat) w (by omega) (by omega) hE
theorem num_scan {s : ByteArray} (w : World) : Calls Tryz.prog 26 #[errV (scanS s)] w fun e w' => e = .returned (.int .i64 (noR (scanS s) : Nat)) ∧ Below w.heap.size w w' := by
  cases h : scanS s with
  | ok L => exact num_nil w
  | bad no l c =>
    obtain ⟨h1, h2⟩ := scan_no h
    exact num_fault (no : Nat) (l : Nat) (c : Nat) w (by omega) (by omega)
def smallB (s : ByteArray) : Bool := decide (s.size ≤ 20000 ∨ 1048576 < s.size)
theorem small_any (s : ByteArray) (w : World) (hs : s.size ≤ 140737488351232) : Calls Tryz.prog 27 #[.string s] w fun e w' => e = .returned (.bool (smallB s)) ∧ w = w' := by
  by_cases h1 : s.size ≤ 20000
  · have hR : smallB s = true := by unfold smallB; exact decide_eq_true (.inl h1)
    have h1' : (s.size : Int) ≤ 20000 := by omega
    rw [hR]
    clear hR h1
    go_enter Tryz.func27, Tryz.ntmps27
    go_wp2
    go_ret
    exact ⟨rfl, rfl⟩
  · have h1' : ¬ (s.size : Int) ≤ 20000 := by omega
    by_cases h2 : 1048576 < s.size
    · have hR : smallB s = true := by unfold smallB; exact decide_eq_true (.inr h2)
      have h2' : decide ((1048576 : Int) < (s.size : Int)) = true := by simp; omega
      rw [hR]
      clear hR h1 h2
      go_enter Tryz.func27, Tryz.ntmps27
      go_wp2
      go_ret
      exact ⟨rfl, rfl⟩
    · have hR : smallB s = false := by unfold smallB; exact decide_eq_false (fun h => by omega)
      have h2' : decide ((1048576 : Int) < (s.size : Int)) = false := by simp; omega
      rw [hR]
      clear hR h1 h2
      go_enter Tryz.func27, Tryz.ntmps27
      go_wp2
      go_ret
      exact ⟨rfl, rfl⟩
theorem tok_few {s : ByteArray} (h : smallB s = true) : (tokR (scanS s)).length ≤ 20001 := by
  cases hr : scanS s with
  | bad no l c => exact Nat.zero_le _
  | ok L =>
    have h1 := toks_few (scan_places s hr).1
    have h2 : s.size ≤ 1048576 := by
      unfold scanS at hr
      split at hr
      · cases hr
      · omega
    unfold smallB at h
    have := of_decide_eq_true h
    show L.length ≤ 20001
    omega
theorem handedT4 {W : World} {a b c d : Value} {na nb nc nd : Nat} {xa xb xc xd : List Value} {l0 l1 l2 l3 l4 : Nat} (h4 : l4 ≤ W.heap.size) (h12 : l1 ≤ l2) (h23 : l2 ≤ l3) (h34 : l3 ≤ l4)
    (ha : OwnS (fun x => l0 ≤ x ∧ x < l1) 30 5 a na xa W) (hb : OwnS (fun x => l1 ≤ x ∧ x < l2) 30 5 b nb xb W) (hc : OwnS (fun x => l2 ≤ x ∧ x < l3) 30 5 c nc xc W) (hd : OwnS (fun x => l3 ≤ x ∧ x < l4) 30 5 d nd xd W)
    (ma : na ≤ 2097152) (mb : nb ≤ 2097152) (mc : nc ≤ 2097152) (md : nd ≤ 2097152) :
    HandT W.heap.size [a, b, c, d] (fun k => if k = 0 then na else if k = 1 then nb else if k = 2 then nc else nd) (W.alloc (.cells #[a, b, c, d] 23 (0, 0))) := by
  have lat : ∀ {v : Value} {n : Nat} {xs : List Value} {lo hi : Nat}, hi ≤ l4 → OwnS (fun x => lo ≤ x ∧ x < hi) 30 5 v n xs W → OwnS (fun x => x ≠ W.heap.size) 30 5 v n xs (W.alloc (.cells #[a, b, c, d] 23 (0, 0))) := fun hh h =>
    (own_later h ((Below.refl _ W).alloc (Nat.le_refl _) _)).weaken (fun x hx => by have := hx.2; omega)
  refine ⟨World.alloc_heap_new W _, by simp, ?_, ?_⟩
  · intro k v hv
    rcases (by have := (List.getElem?_eq_some_iff.1 hv).1; simp at this; omega : k = 0 ∨ k = 1 ∨ k = 2 ∨ k = 3) with rfl | rfl | rfl | rfl
    · simp at hv; subst hv; exact ⟨by simpa using ma, _, lat (by omega) ha⟩
    · simp at hv; subst hv; exact ⟨by simpa using mb, _, lat (by omega) hb⟩
    · simp at hv; subst hv; exact ⟨by simpa using mc, _, lat (by omega) hc⟩
    · simp at hv; subst hv; exact ⟨by simpa using md, _, lat (by omega) hd⟩
  · intro i j u v x hij hu hv hx hy
    have key : ∀ k v, [a, b, c, d][k]? = some v → v.ownBlock = some x → (k = 0 ∧ l0 ≤ x ∧ x < l1) ∨ (k = 1 ∧ l1 ≤ x ∧ x < l2) ∨ (k = 2 ∧ l2 ≤ x ∧ x < l3) ∨ (k = 3 ∧ l3 ≤ x ∧ x < l4) := fun k v hv hx => by
      rcases (by have := (List.getElem?_eq_some_iff.1 hv).1; simp at this; omega : k = 0 ∨ k = 1 ∨ k = 2 ∨ k = 3) with rfl | rfl | rfl | rfl
      · simp at hv; subst hv; have := ha.2 x hx; omega
      · simp at hv; subst hv; have := hb.2 x hx; omega
      · simp at hv; subst hv; have := hc.2 x hx; omega
      · simp at hv; subst hv; have := hd.2 x hx; omega
    have := key i u hu hx
    have := key j v hv hy
    omega
end Go.Proofs.YtbnnhbmnddaafaaGreatDoor
