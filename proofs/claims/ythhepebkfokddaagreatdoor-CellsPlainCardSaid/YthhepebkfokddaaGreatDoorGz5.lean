/- Parts of the proof of what the last text says. -/
import Derived.Test.YthhepebkfokddaaGreatDoorGz4
import Derived.OwnWalk
import Derived.Test.YthhepebkfokddaaGreatDoorGz1
import Derived.Laws.Strings3
import Derived.OrdersHeld
import Derived.WalkKit
/- props: points of a line. -/
namespace Go.Proofs.YthhepebkfokddaaGreatDoor
open Go Go.RowKit Go.Kt Go.Kt.Rg

/-- A slice of texts that is read. -/
def StrS (v : Value) (ws : List (List UInt8)) (w : World) : Prop :=
  ∃ g off cap, v = .slice (some ⟨g, off, none⟩) ws.length cap ∧ ws.length ≤ cap ∧ cap ≤ 4611686018427387904 ∧ ∀ i x, ws[i]? = some x → w.cell? ⟨g, off + i, none⟩ = some (.string ⟨x.toArray⟩)
theorem StrS.below {v : Value} {ws : List (List UInt8)} {A B : World} (h : StrS v ws A) (hb : Below A.heap.size A B) : StrS v ws B := by
  obtain ⟨g, off, cap, rfl, h1, h2, h3⟩ := h
  exact ⟨g, off, cap, rfl, h1, h2, fun i x hx => (hb.cell (lt_of_cell (h3 i x hx))).trans (h3 i x hx)⟩

/-- What words tell as points: the error's number, and the points. -/
def ptsA : List Nat → List (List UInt8) → Nat × List Nat
  | acc, [] => (0, acc)
  | acc, x :: t => match numP x with
    | none => (11, [])
    | some n => if Lib.validRune (n : Int) = false then (8, []) else ptsA (acc ++ [n]) t
def ptsP (ws : List (List UInt8)) : Nat × List Nat := if 9 < ws.length then (5, []) else ptsA [] ws
theorem ptsA_no {acc : List Nat} {x : List UInt8} {t : List (List UInt8)} (h : numP x = none) : ptsA acc (x :: t) = (11, []) := by rw [ptsA, h]
theorem ptsA_bad {acc : List Nat} {x : List UInt8} {t : List (List UInt8)} {n : Nat} (h : numP x = some n) (hv : Lib.validRune (n : Int) = false) : ptsA acc (x :: t) = (8, []) := by rw [ptsA, h]; exact if_pos hv
theorem ptsA_go {acc : List Nat} {x : List UInt8} {t : List (List UInt8)} {n : Nat} (h : numP x = some n) (hv : Lib.validRune (n : Int) = true) : ptsA acc (x :: t) = ptsA (acc ++ [n]) t := by
  rw [ptsA, h]
  exact if_neg (by rw [hv]; exact fun e => by cases e)

/-- What pointsOf answers. -/
def PtsOut (w : World) (o : Nat × List Nat) (e : Ending) (w' : World) : Prop :=
  Below w.heap.size w w' ∧ ∃ v, e = .returned (.tuple #[v, .int .i64 (o.1 : Nat)]) ∧ (o.1 = 0 → ∃ B, v = .slice (some ⟨B, 0, none⟩) o.2.length o.2.length ∧ w.heap.size ≤ B ∧ B < w'.heap.size ∧ ∀ (i : Nat) (x : Nat), o.2[i]? = some x → w'.cell? ⟨B, i, none⟩ = some (.int .i32 (x : Nat)))

set_option maxRecDepth 100000 in
set_option maxHeartbeats 2000000 in
theorem ppoints (ws : List (List UInt8)) (v : Value) (w : World) (hS : StrS v ws w) (hz : ∀ x ∈ ws, x.length ≤ 1048576) (_h0 : ws ≠ []) (hE : PEnv w) :
    Calls Tryz.prog 75 #[v] w fun e w' => PtsOut w (ptsP ws) e w' := by
  obtain ⟨g, off, cap, rfl, hcap, hcap2, hc⟩ := hS
  obtain ⟨n, hn⟩ : ∃ n, ws.length = n := ⟨_, rfl⟩
  rw [hn] at hcap ⊢
  by_cases h9 : 9 < n
  · have h9z : (9 : Int) < (n : Int) := by omega
    have HX : Hid (ptsP ws = (5, [])) := Lib.hid (by unfold ptsP; rw [if_pos (by omega)])
    go_enter Tryz.func75, Tryz.ntmps75
    go_wp2
    go_ret2
    rw [HX.out]
    exact ⟨Below.refl _ _, _, rfl, fun e => by cases e⟩
  · have h9z : (n : Int) ≤ 9 := by omega
    have HX : Hid (ptsP ws = ptsA [] ws) := Lib.hid (by unfold ptsP; rw [if_neg (by omega)])
    have HC := Lib.hid hc
    have HN := Lib.hid hn
    have HZ := Lib.hid hz
    have HE := Lib.hid hE
    clear hc hn hz hE
    go_enter Tryz.func75, Tryz.ntmps75
    go_wp2_with (at_make; refine wpList_make_full _ rfl _ _ _ rfl w.heap.size 21 _ (.int .i32 0) 1 Tryz.underlying62 rfl rfl rfl .i64 .i64 _ _ n rfl rfl rfl rfl (by show 4 * n ≤ _; omega) (by unfold maxLen; omega) (Nat.le_refl _) ?_; intro w1 hown1 hgr1)
    have H1 : Hid (∃ C : Array Value, Below w.heap.size w w1 ∧ w1.heap[w.heap.size]? = some (.cells C 21 (0, 0)) ∧ C.size = n) := Lib.hid (by
      obtain ⟨_, h2⟩ := hown1
      rcases h2 with ⟨h2, _⟩ | ⟨g2, c2, C, e2, _, h3, _, _, h4, _⟩
      · cases h2
      · injection e2 with e3 _ e4
        injection e3 with e3
        injection e3 with e3 _
        subst e3 e4
        exact ⟨C, ⟨hgr1.os, hgr1.tape, hgr1.output, hgr1.size, fun x hx => hgr1.block x hx (fun e => by cases e)⟩, h3, by omega⟩)
    clear hown1 hgr1
    go_loopw [17] (fun vk wr => ∃ (k : Nat) (acc : List Nat) (C : Array Value), vk = .int .i64 k ∧ k ≤ n ∧ Hid (ptsA [] ws = ptsA acc (ws.drop k) ∧ acc.length = k ∧ Below w.heap.size w wr ∧ wr.heap[w.heap.size]? = some (.cells C 21 (0, 0)) ∧ C.size = n ∧ ∀ (i : Nat) (x : Nat), acc[i]? = some x → C[i]? = some (.int .i32 (x : Nat)))) (fun vk _ => n - (RowKit.intOf vk).toNat)
    case atStart =>
      obtain ⟨C, a1, a2, a3⟩ := H1.out
      exact ⟨0, [], C, rfl, by omega, Lib.hid ⟨rfl, rfl, a1, a2, a3, fun i x h => by simp at h⟩⟩
    case round =>
      clear H1
      obtain ⟨k, acc, C, rfl, hk, hh⟩ := hrel
      by_cases hkn : k < n
      · have hknz : (k : Int) < (n : Int) := by omega
        have hkl : k < ws.length := by rw [HN.out]; exact hkn
        obtain ⟨x, hx⟩ : ∃ x, ws[k]? = some x := ⟨_, List.getElem?_eq_getElem hkl⟩
        have hdr : ws.drop k = x :: ws.drop (k + 1) := by
          rw [List.drop_eq_getElem_cons hkl]
          congr 1
          rw [List.getElem?_eq_getElem hkl] at hx
          exact Option.some.inj hx
        have hcx : wr.cell? ⟨g, off + k, none⟩ = some (.string ⟨x.toArray⟩) := (hh.out.2.2.1.cell (lt_of_cell (HC.out k x hx))).trans (HC.out k x hx)
        have hxm : x ∈ ws := List.mem_of_getElem? hx
        have CN0 := pnumber ⟨x.toArray⟩ wr (by rw [bsize]; have := HZ.out x hxm; omega) (HE.out.below hh.out.2.2.1).v
        have CN : Hid (Calls Tryz.prog 107 #[.string ⟨x.toArray⟩] wr fun e w' => NumOut (numP x) e ∧ Below wr.heap.size wr w') := Lib.hid CN0
        have HD := Lib.hid hdr
        clear CN0 hdr hxm hkl hx
        cases ho : numP x with
        | none =>
          have HX2 : Hid (ptsP ws = (11, [])) := Lib.hid (by rw [HX.out, hh.out.1, HD.out, ptsA_no ho])
          rw [ho] at CN
          go_wp2_with fail
          refine CN.out.mono ?_
          rintro e w2 ⟨⟨z, rfl⟩, hb2⟩
          have HB := Lib.hid (hh.out.2.2.1.trans (hb2.mono hh.out.2.2.1.size))
          clear hb2 CN hcx
          go_wp2
          go_ret2
          rw [HX2.out]
          exact ⟨HB.out, _, rfl, fun e => by cases e⟩
        | some m =>
          have hm := numP_le ho
          rw [ho] at CN
          cases hv : Lib.validRune (m : Int)
          · have HX2 : Hid (ptsP ws = (8, [])) := Lib.hid (by rw [HX.out, hh.out.1, HD.out, ptsA_bad ho hv])
            go_wp2_with fail
            refine CN.out.mono ?_
            rintro e w2 ⟨hp, hb2⟩
            obtain rfl := hp
            have HB := Lib.hid (hh.out.2.2.1.trans (hb2.mono hh.out.2.2.1.size))
            clear hb2 CN hcx
            go_wp2_with (go_at_call 108; refine (Tryz.utf8_ValidRune _ _).mono ?_; rintro e w4 ⟨rfl, rfl⟩)
            go_ret2
            rw [HX2.out]
            exact ⟨HB.out, _, rfl, fun e => by cases e⟩
          · have HX2 : Hid (ptsA [] ws = ptsA (acc ++ [m]) (ws.drop (k + 1))) := Lib.hid (by rw [hh.out.1, HD.out, ptsA_go ho hv])
            go_wp2_with fail
            refine CN.out.mono ?_
            rintro e w2 ⟨hp, hb2⟩
            obtain rfl := hp
            have HB := Lib.hid (hh.out.2.2.1.trans (hb2.mono hh.out.2.2.1.size))
            have hg2 : w2.heap[w.heap.size]? = some (.cells C 21 (0, 0)) := (hb2.block _ (by have := (Array.getElem?_eq_some_iff.1 hh.out.2.2.2.1).1; exact this)).trans hh.out.2.2.2.1
            have hck : C[k]? = some (C[k]'(by rw [hh.out.2.2.2.2.1]; exact hkn)) := Array.getElem?_eq_getElem _
            generalize C[k]'(by rw [hh.out.2.2.2.2.1]; exact hkn) = u0 at hck
            have c0 : w2.cell? ⟨w.heap.size, k, none⟩ = some u0 := by rw [Lib.cell_of_heap hg2]; exact hck
            have f0 : w2.frozen? ⟨w.heap.size, k, none⟩ = false := Lib.frozen_of_heap hg2 _
            have HG := Lib.hid (heap_setCell_same w2 w.heap.size k _ _ (.int .i32 (m : Int)) hg2)
            clear hb2 CN hcx hg2 hck
            go_wp2_with (go_at_call 108; refine (Tryz.utf8_ValidRune _ _).mono ?_; rintro e w4 ⟨rfl, rfl⟩)
            go_roundw
            case rel => exact ⟨k + 1, acc ++ [m], _, by go_num, by omega, Lib.hid ⟨HX2.out, by simp [hh.out.2.1], HB.out.setCell (Nat.le_refl _) _, HG.out, by simp [hh.out.2.2.2.2.1], fun i y hy => by
              by_cases hi : i < k
              · rw [Array.getElem?_setIfInBounds_ne (by omega)]
                rw [List.getElem?_append_left (by rw [hh.out.2.1]; exact hi)] at hy
                exact hh.out.2.2.2.2.2 i y hy
              · have hik : i = k := by
                  have := (List.getElem?_eq_some_iff.1 hy).1
                  rw [List.length_append, hh.out.2.1] at this
                  simp at this
                  omega
                subst hik
                rw [List.getElem?_append_right (by rw [hh.out.2.1]; exact Nat.le_refl _), hh.out.2.1, Nat.sub_self] at hy
                simp at hy
                subst hy
                rw [Array.getElem?_setIfInBounds_self_of_lt (by rw [hh.out.2.2.2.2.1]; exact hkn)]⟩⟩
            case measure => simp [RowKit.intOf]; omega
      · have hknz : ¬ (k : Int) < (n : Int) := by omega
        have hkn2 : k = n := by omega
        have HX2 : Hid (ptsP ws = (0, acc)) := Lib.hid (by rw [HX.out, hh.out.1, hkn2, ← HN.out, List.drop_length]; rfl)
        have HA : Hid (acc.length = n) := Lib.hid (hh.out.2.1.trans hkn2)
        clear hkn2
        go_wp2
        go_ret2
        rw [HX2.out]
        refine ⟨hh.out.2.2.1, _, rfl, fun _ => ⟨w.heap.size, by rw [HA.out]; rfl, Nat.le_refl _, (Array.getElem?_eq_some_iff.1 hh.out.2.2.2.1).1, fun i x hx => ?_⟩⟩
        rw [Lib.cell_of_heap hh.out.2.2.2.1]
        exact hh.out.2.2.2.2.2 i x hx
end Go.Proofs.YthhepebkfokddaaGreatDoor
/- props: a row with its value. -/
namespace Go.Proofs.YthhepebkfokddaaGreatDoor
open Go Go.RowKit Go.Kt Go.Kt.Rg

theorem pthree_cells {V : World} {g : Nat} {a b c x y z : Value} {T : TypeId} (h : V.heap[g]? = some (.cells #[a, b, c] T (0, 0))) :
    (((V.setCell ⟨g, 0, none⟩ x).setCell ⟨g, 1, none⟩ y).setCell ⟨g, 2, none⟩ z).heap[g]? = some (.cells #[x, y, z] T (0, 0)) := by
  have h1 := heap_setCell_same V g 0 _ _ x h
  have h2 := heap_setCell_same (V.setCell ⟨g, 0, none⟩ x) g 1 _ _ y h1
  have h3 := heap_setCell_same ((V.setCell ⟨g, 0, none⟩ x).setCell ⟨g, 1, none⟩ y) g 2 _ _ z h2
  simpa using h3

theorem alloc_old_h {w : World} {k : Nat} {o x : Obj} (h : w.heap[k]? = some x) : (w.alloc o).heap[k]? = some x := by
  rw [heap_alloc_if, if_neg (by have := (Array.getElem?_eq_some_iff.1 h).1; omega)]; exact h

/-- What words tell as a row with its value: the error's number, the ends, the value. -/
def rowP (V : List UInt8 → Nat × Int) (ws : List (List UInt8)) : Nat × Nat × Nat × Int :=
  if 2 < ws.length then (3, 0, 0, 0) else
    if (spnP (ws.getD 0 [])).1 ≠ 0 then ((spnP (ws.getD 0 [])).1, 0, 0, 0) else
      if (V (ws.getD 1 [])).1 ≠ 0 then ((V (ws.getD 1 [])).1, 0, 0, 0) else (0, (spnP (ws.getD 0 [])).2.1, (spnP (ws.getD 0 [])).2.2, (V (ws.getD 1 [])).2)
abbrev rwA (lo hi : Nat) (v : Int) : Value := .agg #[.int .i32 lo, .int .i32 hi, .int .i64 v]

set_option maxRecDepth 100000 in
set_option maxHeartbeats 2000000 in
theorem prow (gf : Nat) (eg : ∀ args w, (callFunc gf args).run Tryz.prog w = .ok (.enter gf args) w) (V : List UInt8 → Nat × Int) (ws : List (List UInt8)) (sv : Value) (w : World) (hS : StrS sv ws w) (hz : ∀ x ∈ ws, x.length ≤ 1048576) (h2 : 2 ≤ ws.length) (hE : PEnv w)
    (hV : ∀ W, Below w.heap.size w W → Calls Tryz.prog gf #[.string ⟨(ws.getD 1 []).toArray⟩] W fun e w' => e = .returned (.tuple #[.int .i64 (V (ws.getD 1 [])).2, .int .i64 ((V (ws.getD 1 [])).1 : Nat)]) ∧ Below W.heap.size W w') :
    Calls Tryz.prog 72 #[sv, .func (.func gf) #[] #[]] w fun e w' => e = .returned (.tuple #[rwA (rowP V ws).2.1 (rowP V ws).2.2.1 (rowP V ws).2.2.2, .int .i64 ((rowP V ws).1 : Nat)]) ∧ Below w.heap.size w w' := by
  obtain ⟨g, off, cap, rfl, hcap, hcap2, hc⟩ := hS
  have hc0 := hc 0 (ws.getD 0 []) (by rw [List.getD_eq_getElem?_getD, List.getElem?_eq_getElem (by omega)]; rfl)
  have hc1 := hc 1 (ws.getD 1 []) (by rw [List.getD_eq_getElem?_getD, List.getElem?_eq_getElem (by omega)]; rfl)
  have hx0 : (ws.getD 0 []).length ≤ 1048576 := hz _ (by rw [List.getD_eq_getElem?_getD, List.getElem?_eq_getElem (by omega)]; exact List.getElem_mem _)
  have HX : Hid (rowP V ws = if 2 < ws.length then (3, 0, 0, 0) else if (spnP (ws.getD 0 [])).1 ≠ 0 then ((spnP (ws.getD 0 [])).1, 0, 0, 0) else if (V (ws.getD 1 [])).1 ≠ 0 then ((V (ws.getD 1 [])).1, 0, 0, 0) else (0, (spnP (ws.getD 0 [])).2.1, (spnP (ws.getD 0 [])).2.2, (V (ws.getD 1 [])).2)) := Lib.hid rfl
  obtain ⟨n, hn⟩ : ∃ n, ws.length = n := ⟨_, rfl⟩
  rw [hn] at hcap h2 HX ⊢
  have CS0 := fun W (h : PEnv W) => pspan ⟨(ws.getD 0 []).toArray⟩ W (by rw [bsize]; exact hx0) h
  have CS : Hid (∀ W, PEnv W → Calls Tryz.prog 104 #[.string ⟨(ws.getD 0 []).toArray⟩] W fun e w' => e = .returned (.tuple #[.agg #[.int .i32 (spnP (ws.getD 0 [])).2.1, .int .i32 (spnP (ws.getD 0 [])).2.2], .int .i64 (spnP (ws.getD 0 [])).1]) ∧ Below W.heap.size W w') := Lib.hid CS0
  generalize rowP V ws = R at HX ⊢
  generalize ws.getD 0 [] = x0 at CS HX hc0
  generalize ws.getD 1 [] = x1 at hV HX hc1
  generalize V x1 = vv at hV HX
  obtain ⟨vn, vv⟩ := vv
  obtain ⟨⟨sn, lo, hi⟩, hs⟩ : ∃ z, spnP x0 = z := ⟨_, rfl⟩
  rw [hs] at CS HX
  simp only at hV HX
  replace CS : Hid (∀ W, PEnv W → Calls Tryz.prog 104 #[.string ⟨x0.toArray⟩] W fun e w' => e = .returned (.tuple #[.agg #[.int .i32 lo, .int .i32 hi], .int .i64 sn]) ∧ Below W.heap.size W w') := CS
  have HV := Lib.hid hV
  have HE := Lib.hid hE
  clear hV hE hz hc hx0 CS0 hs hn
  have H0 : Hid (Below w.heap.size w (w.alloc (.cells #[.int .i32 0, .int .i32 0, .int .i64 0] 106)) ∧ (w.alloc (.cells #[.int .i32 0, .int .i32 0, .int .i64 0] 106)).heap[w.heap.size]? = some (.cells #[.int .i32 0, .int .i32 0, .int .i64 0] 106 (0, 0))) := Lib.hid ⟨(Below.refl _ _).alloc (Nat.le_refl _) _, heap_alloc_new _ _⟩
  have h2z : (2 : Int) ≤ (n : Int) := by omega
  by_cases h3 : 2 < n
  · have h3z : (2 : Int) < (n : Int) := by omega
    have HX2 := Lib.hid (HX.out.trans (if_pos h3))
    clear HX
    go_enter Tryz.func72, Tryz.ntmps72
    go_wp2
    (try simp only [Exit.inBlock, Exit.then])
    refine bodyPost_ret (results_cell2 rfl _ _ w.heap.size 106 #[.int .i32 0, .int .i32 0, .int .i64 0] (0, 0) _ rfl H0.out.2 Tryz.underlying106 rfl (by kernel_rfl)) rfl ?_
    rw [HX2.out]
    exact ⟨rfl, H0.out.1⟩
  · have h3z : (n : Int) ≤ 2 := by omega
    replace HX := Lib.hid (HX.out.trans (if_neg h3))
    have hc0' : (w.alloc (.cells #[.int .i32 0, .int .i32 0, .int .i64 0] 106)).cell? ⟨g, off, none⟩ = some (.string ⟨x0.toArray⟩) := (H0.out.1.cell (lt_of_cell hc0)).trans hc0
    have CS1 := Lib.hid (CS.out _ (HE.out.below H0.out.1))
    clear CS
    go_enter Tryz.func72, Tryz.ntmps72
    go_wp2_with fail
    refine CS1.out.mono ?_
    rintro e w2 ⟨rfl, hb2⟩
    have H2 : Hid (Below w.heap.size w (w2.alloc (.cells #[.int .i32 lo, .int .i32 hi] 104)) ∧ (w2.alloc (.cells #[.int .i32 lo, .int .i32 hi] 104)).heap[w.heap.size]? = some (.cells #[.int .i32 0, .int .i32 0, .int .i64 0] 106 (0, 0))) := Lib.hid (by
      have h5 : w2.heap[w.heap.size]? = some (.cells #[.int .i32 0, .int .i32 0, .int .i64 0] 106 (0, 0)) := (hb2.block _ (by simp)).trans H0.out.2
      have h6 := H0.out.1.trans (hb2.mono H0.out.1.size)
      exact ⟨h6.alloc h6.size _, alloc_old_h h5⟩)
    have H3 : Hid ((w2.alloc (.cells #[.int .i32 lo, .int .i32 hi] 104)).heap[w2.heap.size]? = some (.cells #[.int .i32 lo, .int .i32 hi] 104 (0, 0)) ∧ w.heap.size ≠ w2.heap.size) := Lib.hid ⟨heap_alloc_new _ _, by have := hb2.size; simp at this; omega⟩
    obtain ⟨sb, hsb⟩ : ∃ sb, w2.heap.size = sb := ⟨_, rfl⟩
    have HSB := Lib.hid hsb
    rw [hsb] at H3
    clear hb2 CS1 hc0 hc0' hsb
    by_cases hs0 : sn = 0
    · subst hs0
      replace HX := Lib.hid (HX.out.trans (if_neg (fun e => e rfl)))
      have q1 : w2.alloc (.cells #[.int .i32 lo, .int .i32 hi] 104) = w2.alloc (.cells #[.int .i32 lo, .int .i32 hi] 104) := rfl
      have hc1' : (w2.alloc (.cells #[.int .i32 lo, .int .i32 hi] 104)).cell? ⟨g, off + 1, none⟩ = some (.string ⟨x1.toArray⟩) := (H2.out.1.cell (lt_of_cell hc1)).trans hc1
      have CV := Lib.hid (HV.out _ H2.out.1)
      clear q1 HV
      go_wp2_with fail
      refine CV.out.mono ?_
      rintro e w3 ⟨rfl, hb3⟩
      have H4 : Hid (Below w.heap.size w w3 ∧ w3.heap[w.heap.size]? = some (.cells #[.int .i32 0, .int .i32 0, .int .i64 0] 106 (0, 0))) := Lib.hid ⟨H2.out.1.trans (hb3.mono H2.out.1.size), (hb3.block _ (by have := (Array.getElem?_eq_some_iff.1 H2.out.2).1; exact this)).trans H2.out.2⟩
      have H5 : Hid (w3.heap[sb]? = some (.cells #[.int .i32 lo, .int .i32 hi] 104 (0, 0))) := Lib.hid ((hb3.block _ (by have := (Array.getElem?_eq_some_iff.1 H3.out.1).1; exact this)).trans H3.out.1)
      clear hb3 CV hc1 hc1'
      by_cases hv0 : vn = 0
      · subst hv0
        replace HX := Lib.hid (HX.out.trans (if_neg (fun e => e rfl)))
        have d0 : w3.cell? ⟨sb, 0, none⟩ = some (.int .i32 lo) := by rw [Lib.cell_of_heap H5.out]; rfl
        have d1 : w3.cell? ⟨sb, 1, none⟩ = some (.int .i32 hi) := by rw [Lib.cell_of_heap H5.out]; rfl
        have c0 : w3.cell? ⟨w.heap.size, 0, none⟩ = some (.int .i32 0) := by rw [Lib.cell_of_heap H4.out.2]; rfl
        have f0 : w3.frozen? ⟨w.heap.size, 0, none⟩ = false := Lib.frozen_of_heap H4.out.2 _
        have c1 : w3.cell? ⟨w.heap.size, 1, none⟩ = some (.int .i32 0) := by rw [Lib.cell_of_heap H4.out.2]; rfl
        have f1 : w3.frozen? ⟨w.heap.size, 1, none⟩ = false := Lib.frozen_of_heap H4.out.2 _
        have c2 : w3.cell? ⟨w.heap.size, 2, none⟩ = some (.int .i64 0) := by rw [Lib.cell_of_heap H4.out.2]; rfl
        have f2 : w3.frozen? ⟨w.heap.size, 2, none⟩ = false := Lib.frozen_of_heap H4.out.2 _
        rw [HSB.out]
        go_wp2
        (try simp only [Exit.inBlock, Exit.then])
        refine bodyPost_ret (results_cell2 rfl _ _ w.heap.size 106 #[.int .i32 lo, .int .i32 hi, .int .i64 vv] (0, 0) _ rfl (pthree_cells H4.out.2) Tryz.underlying106 rfl (by kernel_rfl)) rfl ?_
        rw [HX.out]
        exact ⟨rfl, ((H4.out.1.setCell (Nat.le_refl _) _).setCell (Nat.le_refl _) _).setCell (Nat.le_refl _) _⟩
      · replace HX := Lib.hid (HX.out.trans (if_pos hv0))
        have b1 : ((vn : Int) != 0) = true := by simp; omega
        have b2 : ((vn : Int) == 0) = false := beq_eq_false_iff_ne.2 (by omega)
        have c0 : w3.cell? ⟨w.heap.size, 0, none⟩ = some (.int .i32 0) := by rw [Lib.cell_of_heap H4.out.2]; rfl
        have f0 : w3.frozen? ⟨w.heap.size, 0, none⟩ = false := Lib.frozen_of_heap H4.out.2 _
        have c1 : w3.cell? ⟨w.heap.size, 1, none⟩ = some (.int .i32 0) := by rw [Lib.cell_of_heap H4.out.2]; rfl
        have f1 : w3.frozen? ⟨w.heap.size, 1, none⟩ = false := Lib.frozen_of_heap H4.out.2 _
        have c2 : w3.cell? ⟨w.heap.size, 2, none⟩ = some (.int .i64 0) := by rw [Lib.cell_of_heap H4.out.2]; rfl
        have f2 : w3.frozen? ⟨w.heap.size, 2, none⟩ = false := Lib.frozen_of_heap H4.out.2 _
        go_wp2
        (try simp only [Exit.inBlock, Exit.then])
        refine bodyPost_ret (results_cell2 rfl _ _ w.heap.size 106 #[.int .i32 0, .int .i32 0, .int .i64 0] (0, 0) _ rfl (pthree_cells H4.out.2) Tryz.underlying106 rfl (by kernel_rfl)) rfl ?_
        rw [HX.out]
        exact ⟨rfl, ((H4.out.1.setCell (Nat.le_refl _) _).setCell (Nat.le_refl _) _).setCell (Nat.le_refl _) _⟩
    · replace HX := Lib.hid (HX.out.trans (if_pos hs0))
      have b1 : ((sn : Int) != 0) = true := by simp; omega
      have b2 : ((sn : Int) == 0) = false := beq_eq_false_iff_ne.2 (by omega)
      have c0 : (w2.alloc (.cells #[.int .i32 lo, .int .i32 hi] 104)).cell? ⟨w.heap.size, 0, none⟩ = some (.int .i32 0) := by rw [Lib.cell_of_heap H2.out.2]; rfl
      have f0 : (w2.alloc (.cells #[.int .i32 lo, .int .i32 hi] 104)).frozen? ⟨w.heap.size, 0, none⟩ = false := Lib.frozen_of_heap H2.out.2 _
      have c1 : (w2.alloc (.cells #[.int .i32 lo, .int .i32 hi] 104)).cell? ⟨w.heap.size, 1, none⟩ = some (.int .i32 0) := by rw [Lib.cell_of_heap H2.out.2]; rfl
      have f1 : (w2.alloc (.cells #[.int .i32 lo, .int .i32 hi] 104)).frozen? ⟨w.heap.size, 1, none⟩ = false := Lib.frozen_of_heap H2.out.2 _
      have c2 : (w2.alloc (.cells #[.int .i32 lo, .int .i32 hi] 104)).cell? ⟨w.heap.size, 2, none⟩ = some (.int .i64 0) := by rw [Lib.cell_of_heap H2.out.2]; rfl
      have f2 : (w2.alloc (.cells #[.int .i32 lo, .int .i32 hi] 104)).frozen? ⟨w.heap.size, 2, none⟩ = false := Lib.frozen_of_heap H2.out.2 _
      go_wp2
      (try simp only [Exit.inBlock, Exit.then])
      refine bodyPost_ret (results_cell2 rfl _ _ w.heap.size 106 #[.int .i32 0, .int .i32 0, .int .i64 0] (0, 0) _ rfl (pthree_cells H2.out.2) Tryz.underlying106 rfl (by kernel_rfl)) rfl ?_
      rw [HX.out]
      exact ⟨rfl, ((H2.out.1.setCell (Nat.le_refl _) _).setCell (Nat.le_refl _) _).setCell (Nat.le_refl _) _⟩
end Go.Proofs.YthhepebkfokddaaGreatDoor
/- props: the words of a line. -/
namespace Go.Proofs.YthhepebkfokddaaGreatDoor
open Go Go.RowKit Go.Kt Go.Kt.Rg

/-- A blank, as a number. -/
def blkP (n : Nat) : Bool := n == 32 || n == 9
/-- The words of a line that is handed in with its line end. -/
def lineP (l : List UInt8) : List UInt8 := (Lib.cut (Lib.trimSuffix (Lib.trimSuffix l [10]) [13]) [35]).1
def wrdP (l : List UInt8) : List (List UInt8) := (Lib.goFieldsP blkP ⟨(lineP l).toArray⟩).map (·.data.toList)

theorem spans_ok (p : Nat → Bool) (s : ByteArray) : ∀ f pos st acc, (∀ a, st = some a → a < pos ∧ a < s.size) → (∀ x ∈ acc, x.1 < x.2 ∧ x.2 ≤ s.size) →
    (∀ x ∈ (Lib.spansFromP p s f pos st acc).1, x.1 < x.2 ∧ x.2 ≤ s.size) ∧ ∀ a, (Lib.spansFromP p s f pos st acc).2 = some a → a < s.size := by
  intro f
  induction f with
  | zero => intro pos st acc h1 h2; exact ⟨h2, fun a h => (h1 a h).2⟩
  | succ f ih =>
    intro pos st acc h1 h2
    unfold Lib.spansFromP
    have hw := Lib.width_pos s pos
    split
    · rename_i hlt
      split
      · cases st with
        | some a => exact ih _ _ _ (fun a h => by cases h) (fun x hx => by
            rcases List.mem_append.1 hx with h | h
            · exact h2 x h
            · rw [List.mem_singleton] at h; subst h; exact ⟨(h1 a rfl).1, Nat.le_of_lt hlt⟩)
        | none => exact ih _ _ _ (fun a h => by cases h) h2
      · cases st with
        | some a => exact ih _ _ _ (fun b h => by injection h with h; subst h; have := h1 a rfl; exact ⟨by omega, this.2⟩) h2
        | none => exact ih _ _ _ (fun b h => by injection h with h; subst h; exact ⟨by omega, hlt⟩) h2
    · exact ⟨h2, fun a h => (h1 a h).2⟩
theorem pfields_ok (p : Nat → Bool) (s x : ByteArray) (h : x ∈ Lib.goFieldsP p s) : 0 < x.size ∧ x.size ≤ s.size := by
  unfold Lib.goFieldsP at h
  obtain ⟨q, hq, rfl⟩ := List.mem_map.1 h
  have hk : q.1 < q.2 ∧ q.2 ≤ s.size := by
    unfold Lib.spansOfP Lib.closeSpans at hq
    have h1 := spans_ok p s s.size 0 none [] (fun a h => by cases h) (fun x h => by cases h)
    split at hq
    · rename_i heq
      rw [heq] at h1
      rcases List.mem_append.1 hq with h | h
      · exact h1.1 q h
      · rw [List.mem_singleton] at h
        subst h
        exact ⟨h1.2 _ rfl, Nat.le_refl _⟩
    · rename_i heq
      rw [heq] at h1
      exact h1.1 q hq
  rw [ByteArray.size_extract]
  omega
theorem pspans_len (p : Nat → Bool) (s : ByteArray) : ∀ f pos st acc, (Lib.spansFromP p s f pos st acc).1.length ≤ acc.length + f := by
  intro f
  induction f with
  | zero => intro pos st acc; simp [Lib.spansFromP]
  | succ f ih =>
    intro pos st acc
    unfold Lib.spansFromP
    split
    · split
      · cases st with
        | some a => have := ih (pos + (Utf8.decode s pos).2) none (acc ++ [(a, pos)]); simp at this ⊢; omega
        | none => have := ih (pos + (Utf8.decode s pos).2) none acc; simp at this ⊢; omega
      · cases st with
        | some a => have := ih (pos + (Utf8.decode s pos).2) (some a) acc; simp at this ⊢; omega
        | none => have := ih (pos + (Utf8.decode s pos).2) (some pos) acc; simp at this ⊢; omega
    · simp
theorem pfields_len (p : Nat → Bool) (s : ByteArray) : (Lib.goFieldsP p s).length ≤ s.size + 1 := by
  unfold Lib.goFieldsP Lib.spansOfP Lib.closeSpans
  have := pspans_len p s s.size 0 none []
  rw [List.length_map]
  split <;> simp at * <;> omega
theorem trims_le (l p : List UInt8) : (Lib.trimSuffix l p).length ≤ l.length := by
  unfold Lib.trimSuffix
  split
  · rw [List.length_take]; omega
  · exact Nat.le_refl _
theorem lineP_le (l : List UInt8) : (lineP l).length ≤ l.length := by
  unfold lineP
  have h1 := (cut_le (Lib.trimSuffix (Lib.trimSuffix l [10]) [13]) [35]).1
  have h2 := trims_le (Lib.trimSuffix l [10]) [13]
  have h3 := trims_le l [10]
  omega
theorem wrdP_ok (l x : List UInt8) (h : x ∈ wrdP l) : x ≠ [] ∧ x.length ≤ l.length := by
  unfold wrdP at h
  obtain ⟨y, hy, rfl⟩ := List.mem_map.1 h
  have h1 := pfields_ok _ _ _ hy
  have h2 := lineP_le l
  rw [show (⟨(lineP l).toArray⟩ : ByteArray).size = (lineP l).length from bsize _] at h1
  have h3 : y.data.toList.length = y.size := (Lib.size_eq y).symm
  exact ⟨fun e => by rw [e] at h3; simp at h3; omega, by omega⟩

theorem pblank (w : World) : PredAtRunes Tryz.prog 45 #[] blkP w := fun W x _ _ => by
  unfold FnGives
  have : Calls Tryz.prog 45 #[.int .i32 (x : Int)] W fun e w' => e = .returned (.bool (blkP x)) ∧ w' = W := by
    have hb : blkP x = (((x : Int) == 32) || ((x : Int) == 9)) := by
      unfold blkP
      congr 1
      · by_cases h : x = 32
        · subst h; rfl
        · rw [beq_eq_false_iff_ne.2 h, beq_eq_false_iff_ne.2 (by omega)]
      · by_cases h : x = 9
        · subst h; rfl
        · rw [beq_eq_false_iff_ne.2 h, beq_eq_false_iff_ne.2 (by omega)]
    rw [hb]
    go_enter Tryz.func45, Tryz.ntmps45
    go_wp2
    all_goals go_ret
    all_goals simp [*]
  exact this.mono fun e w' ⟨h1, h2⟩ => ⟨h1, 0, h2⟩

set_option maxRecDepth 100000 in
set_option maxHeartbeats 2000000 in
theorem pwords (s : ByteArray) (w : World) (hs : s.size ≤ 1048576) (hE : PEnv w) :
    Calls Tryz.prog 20 #[.string s] w fun e w' => ∃ v, e = .returned v ∧ StrS v (wrdP s.data.toList) w' ∧ Below w.heap.size w w' := by
  obtain ⟨m, hm⟩ := hE.m
  have hln : s.data.toList.length = s.size := (Lib.size_eq s).symm
  have C1 := Lib.hid (Tryz.strings_TrimSuffix s ⟨#[10]⟩ w (by omega))
  have h1 := trims_le s.data.toList [10]
  have C2 := Lib.hid (Tryz.strings_TrimSuffix ⟨(Lib.trimSuffix s.data.toList [10]).toArray⟩ ⟨#[13]⟩ w (by rw [bsize]; omega))
  have h2 := trims_le (Lib.trimSuffix s.data.toList [10]) [13]
  have C3 := Lib.hid (Tryz.strings_Cut ⟨(Lib.trimSuffix (Lib.trimSuffix s.data.toList [10]) [13]).toArray⟩ ⟨#[35]⟩ m w (by rw [bsize]; omega) hm)
  have h3 := lineP_le s.data.toList
  have C4 := Lib.hid (fun W => Tryz.strings_FieldsFunc_runes 45 #[] (fun args w => enters_of Tryz.func45 (by kernel_rfl) rfl args w) blkP ⟨(lineP s.data.toList).toArray⟩ W (by rw [bsize]; omega) (pblank W))
  replace C3 : Hid (Calls Tryz.prog 43 #[.string ⟨(Lib.trimSuffix (Lib.trimSuffix s.data.toList [10]) [13]).toArray⟩, .string ⟨#[35]⟩] w fun e w' => e = .returned (.tuple #[.string ⟨(lineP s.data.toList).toArray⟩, .string ⟨(Lib.cut (Lib.trimSuffix (Lib.trimSuffix s.data.toList [10]) [13]) [35]).2.1.toArray⟩, .bool (Lib.cut (Lib.trimSuffix (Lib.trimSuffix s.data.toList [10]) [13]) [35]).2.2]) ∧ ∃ n, w' = w.drewN n) := C3
  have hfl : (Lib.goFieldsP blkP ⟨(lineP s.data.toList).toArray⟩).length ≤ 4611686018427387904 := by
    have := pfields_len blkP ⟨(lineP s.data.toList).toArray⟩
    rw [show (⟨(lineP s.data.toList).toArray⟩ : ByteArray).size = (lineP s.data.toList).length from bsize _] at this
    omega
  have HW : Hid (wrdP s.data.toList = (Lib.goFieldsP blkP ⟨(lineP s.data.toList).toArray⟩).map (·.data.toList)) := Lib.hid rfl
  generalize wrdP s.data.toList = WS at HW ⊢
  generalize Lib.goFieldsP blkP ⟨(lineP s.data.toList).toArray⟩ = FS at HW C4 hfl
  generalize (lineP s.data.toList) = L3 at C3 C4
  clear hE hm hln h1 h2 h3
  go_enter Tryz.func20, Tryz.ntmps20
  go_wp2_with fail
  refine C1.out.mono ?_
  rintro e w1 ⟨rfl, rfl⟩
  go_wp2_with fail
  refine C2.out.mono ?_
  rintro e w2 ⟨rfl, rfl⟩
  go_wp2_with fail
  refine C3.out.mono ?_
  rintro e w3 ⟨rfl, q, rfl⟩
  go_wp2_with fail
  refine (C4.out _).mono ?_
  rintro e w4 ⟨A, rfl, hA, hown, hb⟩
  go_wp2
  go_ret
  refine ⟨_, rfl, ⟨A, 0, FS.length, by rw [HW.out, List.length_map]; rfl, by rw [HW.out, List.length_map]; exact Nat.le_refl _, hfl, fun i x hx => ?_⟩, (below_drewN (Below.refl _ _) q).trans hb⟩
  rw [HW.out, List.getElem?_map] at hx
  obtain ⟨y, hy, rfl⟩ := Option.map_eq_some_iff.1 hx
  have := hown.cells (g := A) rfl i (.string y) (by simp [hy])
  rwa [Addr.add_lit] at this
end Go.Proofs.YthhepebkfokddaaGreatDoor
/- What is the same of any program: a drawn region is gone through operation by operation, not order by order: each operation leaves in its slot what it is said to leave, whatever has come up ahead of it. -/
namespace Go.Kt
open Go

section
variable {P : Program} {ops : Array Oper} {Q : Exit → Act → World → Prop} {md : Region.Mode}

/-- No operation of the region has this slot. -/
def outside (ops : Array Oper) (k : Nat) : Bool := ops.all fun o => o.dst != some k
/-- All slots are different, and lie in the frame. -/
def apartB (ops : Array Oper) (n : Nat) : Bool :=
  (List.range ops.size).all fun i => match (ops.getD i default).dst with
    | none => true
    | some k => decide (k < n) && (List.range ops.size).all fun j => i == j || (ops.getD j default).dst != some k
/-- Operations wait for earlier ones alone. -/
def forwardB (md : Region.Mode) (ops : Array Oper) : Bool :=
  (List.range ops.size).all fun i => (ops.getD i default).after.all fun e => !Region.binds md e || decide (e.on < i)
/-- 'o' waits for operation number j. -/
def waitsB (md : Region.Mode) (o : Oper) (j : Nat) : Bool := o.after.any fun e => e.on == j && Region.binds md e
def slotB (ops : Array Oper) (j k : Nat) : Bool := match ops[j]? with | some o => o.dst == some k | none => false

/-- The frame at hand is the first one but for the region's slots. -/
structure Like (ops : Array Oper) (a0 a : Act) : Prop where
  defers : a.defers = a0.defers
  size : a.tmps.size = a0.tmps.size
  far : ∀ k, outside ops k = true → a.tmps.getD k undef = a0.tmps.getD k undef

/-- One operation: where those that it waits for have left what they are said to leave, it is wanted, and leaves what it is said to leave. -/
def SlotStep (P : Program) (md : Region.Mode) (ops : Array Oper) (Q : Exit → Act → World → Prop) (S : World → Prop) (R : World → World → Prop) (p : Nat → Value → World → Prop) (a0 : Act) (i : Nat) (o : Oper) : Prop :=
  ∀ a w, S w → Like ops a0 a → (∀ j k, waitsB md o j = true → slotB ops j k = true → p j (a.tmps.getD k undef) w) →
    Region.wanted o (yielded ops a.tmps) = true ∧ o.wp P a w (fun a' w' => ∃ v, a' = a.put o.dst v ∧ S w' ∧ R w w' ∧ p i v w') Q
def SlotSteps (P : Program) (md : Region.Mode) (ops : Array Oper) (Q : Exit → Act → World → Prop) (S : World → Prop) (R : World → World → Prop) (p : Nat → Value → World → Prop) (a0 : Act) : Nat → List Oper → Prop
  | _, [] => True
  | i, o :: r => SlotStep P md ops Q S R p a0 i o ∧ SlotSteps P md ops Q S R p a0 (i + 1) r
theorem SlotSteps.get {S : World → Prop} {R : World → World → Prop} {p : Nat → Value → World → Prop} {a0 : Act} : ∀ (l : List Oper) (i : Nat), SlotSteps P md ops Q S R p a0 i l → ∀ j o, l[j]? = some o → SlotStep P md ops Q S R p a0 (i + j) o
  | [], _, _, j, o, h => by simp at h
  | x :: r, i, hs, 0, o, h => by simp at h; subst h; exact hs.1
  | x :: r, i, hs, j + 1, o, h => by
    have := SlotSteps.get r (i + 1) hs.2 j o (by simpa using h)
    rw [show i + (j + 1) = i + 1 + j by omega]; exact this

def unlisted (listed : Array Bool) (n : Nat) : Nat := ((List.range n).filter fun i => !listed.getD i true).length
theorem filter_set_lt (listed : Array Bool) (i : Nat) (h : listed.getD i true = false) : ∀ (l : List Nat), i ∈ l →
    (l.filter fun j => !(listed.setIfInBounds i true).getD j true).length < (l.filter fun j => !listed.getD j true).length := by
  have hi : i < listed.size := by
    rcases Nat.lt_or_ge i listed.size with h' | h'
    · exact h'
    · simp [Array.getD, Nat.not_lt.2 h'] at h
  have hle : ∀ l : List Nat, (l.filter fun j => !(listed.setIfInBounds i true).getD j true).length ≤ (l.filter fun j => !listed.getD j true).length := by
    intro l
    induction l with
    | nil => simp
    | cons x r ih =>
      by_cases hx : x = i
      · subst hx
        have h1 : (listed.setIfInBounds x true).getD x true = true := by simp [Array.getD, hi]
        simp only [List.filter_cons, h1, h, Bool.not_true, Bool.not_false, if_true, Bool.false_eq_true, if_false, List.length_cons]
        omega
      · have h1 : (listed.setIfInBounds i true).getD x true = listed.getD x true := by
          simp only [Array.getD_eq_getD_getElem?, Array.getElem?_setIfInBounds, if_neg (Ne.symm hx)]
        simp only [List.filter_cons, h1]
        split
        · simp only [List.length_cons]; omega
        · exact ih
  intro l
  induction l with
  | nil => intro hm; cases hm
  | cons x r ih =>
    intro hm
    by_cases hx : x = i
    · subst hx
      have h1 : (listed.setIfInBounds x true).getD x true = true := by simp [Array.getD, hi]
      have := hle r
      simp only [List.filter_cons, h1, h, Bool.not_true, Bool.not_false, if_true, Bool.false_eq_true, if_false, List.length_cons]
      omega
    · have h1 : (listed.setIfInBounds i true).getD x true = listed.getD x true := by
        simp only [Array.getD_eq_getD_getElem?, Array.getElem?_setIfInBounds, if_neg (Ne.symm hx)]
      have hm' : i ∈ r := by
        rcases List.mem_cons.1 hm with h | h
        · exact absurd h.symm hx
        · exact h
      have := ih hm'
      simp only [List.filter_cons, h1]
      split
      · simp only [List.length_cons]; omega
      · exact this

theorem wpAny_inv (I : Array Bool → Act → World → Prop)
    (step : ∀ listed a w i, I listed a w → i ∈ Region.ready md ops listed → wpOp P ops Q i (I (listed.setIfInBounds i true)) a w)
    (done : ∀ listed a w, I listed a w → Region.ready md ops listed = [] → Q .normal a w) :
    ∀ fuel listed a w, unlisted listed ops.size ≤ fuel → I listed a w → wpAny P md ops Q fuel listed a w := by
  intro fuel
  induction fuel with
  | zero =>
    intro listed a w hf hI
    have hr : Region.ready md ops listed = [] := by
      rcases List.eq_nil_or_concat (Region.ready md ops listed) with h | ⟨l, i, h⟩
      · exact h
      · have hi : i ∈ Region.ready md ops listed := by rw [h]; simp
        obtain ⟨h1, o, ho, _⟩ := mem_ready.1 hi
        have hm : i ∈ (List.range ops.size).filter fun i => !listed.getD i true := by
          rw [List.mem_filter]
          exact ⟨List.mem_range.2 (Array.getElem?_eq_some_iff.1 ho).1, by rw [h1]; rfl⟩
        have := List.length_pos_of_mem hm
        unfold unlisted at hf
        omega
    exact ⟨hr, done _ _ _ hI hr⟩
  | succ fuel ih =>
    intro listed a w hf hI
    refine ⟨done _ _ _ hI, fun i hi => ?_⟩
    obtain ⟨h1, o, ho, _⟩ := mem_ready.1 hi
    have hlt := filter_set_lt listed i h1 (List.range ops.size) (List.mem_range.2 (Array.getElem?_eq_some_iff.1 ho).1)
    refine wpOp_mono (fun a' w' h' => ih _ a' w' ?_ h') (step listed a w i hI hi)
    unfold unlisted at hf ⊢
    omega

/-- A drawn region, operation by operation. S holds of each world that comes; R tells how a world goes over into the next; what a slot is said to hold stays so. -/
theorem wp_region_slots {id : Nat} {a0 : Act} {w0 : World} (S : World → Prop) (R : World → World → Prop) (p : Nat → Value → World → Prop) (hm : P.follows .mixedOrders = true) (hap : apartB ops a0.tmps.size = true) (hfw : forwardB .any ops = true)
    (hS : S w0.drew) (hp : ∀ i v w w', S w → S w' → R w w' → p i v w → p i v w') (hs : SlotSteps P .any ops Q S R p a0 0 ops.toList)
    (hd : ∀ a w, S w → Like ops a0 a → (∀ j k, slotB ops j k = true → p j (a.tmps.getD k undef) w) → (∀ j, j < ops.size → ∃ v, p j v w) → Q .normal a w) : (Code.region id ops true).wp P Q a0 w0 := by
  have hdst : ∀ (i : Nat) (o : Oper) (k : Nat), ops[i]? = some o → o.dst = some k → k < a0.tmps.size ∧ ∀ (j : Nat) (oj : Oper), ops[j]? = some oj → oj.dst = some k → i = j := by
    intro i o k ho hk
    have hi := (Array.getElem?_eq_some_iff.1 ho).1
    have h1 := List.all_eq_true.1 hap i (List.mem_range.2 hi)
    have h2 : ops.getD i default = o := by simp [Array.getD_eq_getD_getElem?, ho]
    rw [h2, hk] at h1
    simp only [Bool.and_eq_true, decide_eq_true_eq] at h1
    refine ⟨h1.1, fun j oj hj hjk => ?_⟩
    have hj' := (Array.getElem?_eq_some_iff.1 hj).1
    have h3 := List.all_eq_true.1 h1.2 j (List.mem_range.2 hj')
    have h4 : ops.getD j default = oj := by simp [Array.getD_eq_getD_getElem?, hj]
    rw [h4, hjk] at h3
    simpa using h3
  refine wp_region_any hm ?_
  refine wpAny_inv (fun listed a w => listed.size = ops.size ∧ S w ∧ Like ops a0 a ∧ (∀ j, listed.getD j false = true → ∃ v, p j v w) ∧ ∀ j k, listed.getD j false = true → slotB ops j k = true → p j (a.tmps.getD k undef) w) ?_ ?_ _ _ _ _ ?_ ⟨by simp, hS, ⟨rfl, rfl, fun _ _ => rfl⟩, ?_, ?_⟩
  · rintro listed a w i ⟨hz, hSw, hL, hE, hP⟩ hi
    obtain ⟨hjun, o, ho, hall⟩ := mem_ready.1 hi
    have hilt := (Array.getElem?_eq_some_iff.1 ho).1
    have hst := SlotSteps.get ops.toList 0 hs i o (by simpa using ho)
    rw [Nat.zero_add] at hst
    obtain ⟨hw, hx⟩ := hst a w hSw hL (fun j k hj hk => hP j k (by
      unfold waitsB at hj
      obtain ⟨e, he, h2⟩ := Array.any_eq_true'.1 hj
      simp only [Bool.and_eq_true, beq_iff_eq] at h2
      have := hall e he h2.2
      rw [h2.1] at this
      exact this) hk)
    unfold wpOp
    simp only [ho, hw, if_true]
    refine .inl (Oper.wp_mono ?_ hx)
    rintro a' w' ⟨v, rfl, hS', hR', hpv⟩
    refine ⟨by simpa using hz, hS', ⟨?_, ?_, fun k hk => ?_⟩, fun j hj => ?_, fun j k hj hk => ?_⟩
    · cases h : o.dst <;> exact hL.defers
    · cases h : o.dst
      · exact hL.size
      · simp only [Act.put, Array.size_setIfInBounds]; exact hL.size
    · cases h : o.dst with
      | none => exact hL.far k hk
      | some d =>
        have hne : d ≠ k := fun e => by
          subst e
          unfold outside at hk
          have := Array.all_eq_true.1 hk i hilt
          rw [(Array.getElem?_eq_some_iff.1 ho).2, h] at this
          simp at this
        simp only [Act.put, Array.getD_eq_getD_getElem?, Array.getElem?_setIfInBounds, if_neg hne]
        have := hL.far k hk
        simpa only [Array.getD_eq_getD_getElem?] using this
    · by_cases hji : j = i
      · subst hji; exact ⟨v, hpv⟩
      · have hjl : listed.getD j false = true := by
          simp only [Array.getD_eq_getD_getElem?, Array.getElem?_setIfInBounds, if_neg (Ne.symm hji)] at hj ⊢
          exact hj
        obtain ⟨u, hu⟩ := hE j hjl
        exact ⟨u, hp j _ w w' hSw hS' hR' hu⟩
    · obtain ⟨oj, hoj, hjk⟩ : ∃ oj, ops[j]? = some oj ∧ oj.dst = some k := by
        unfold slotB at hk
        cases h : ops[j]? with
        | none => rw [h] at hk; cases hk
        | some oj => rw [h] at hk; exact ⟨oj, rfl, by simpa using hk⟩
      by_cases hji : j = i
      · subst hji
        rw [hoj] at ho
        cases ho
        have hkz := (hdst j _ k hoj hjk).1
        rw [hjk]
        have : (a.put (some k) v).tmps.getD k undef = v := by
          have : k < a.tmps.size := by rw [hL.size]; exact hkz
          simp [Act.put, Array.getD_eq_getD_getElem?, this]
        rw [this]
        exact hpv
      · have hjl : listed.getD j false = true := by
          simp only [Array.getD_eq_getD_getElem?, Array.getElem?_setIfInBounds, if_neg (Ne.symm hji)] at hj ⊢
          exact hj
        have h1 := hp j _ w w' hSw hS' hR' (hP j k hjl hk)
        cases h : o.dst with
        | none => exact h1
        | some d =>
          have hne : d ≠ k := fun e => by
            subst e
            exact hji ((hdst i o d ho h).2 j oj hoj hjk).symm
          simp only [Act.put, Array.getD_eq_getD_getElem?, Array.getElem?_setIfInBounds, if_neg hne] at h1 ⊢
          exact h1
  · rintro listed a w ⟨hz, hSw, hL, hE, hP⟩ hr
    have hall : ∀ n j, j < n → j < ops.size → listed.getD j false = true := by
      intro n
      induction n with
      | zero => intro j h; omega
      | succ n ih =>
        intro j hjn hj
        cases hl : listed.getD j true with
        | true =>
          have : j < listed.size := by omega
          simpa [Array.getD_eq_getD_getElem?, this] using hl
        | false =>
          exfalso
          have hmem : j ∈ Region.ready .any ops listed := mem_ready.2 ⟨hl, ops[j], by simp [hj], fun e he hb => by
            have h1 := List.all_eq_true.1 hfw j (List.mem_range.2 hj)
            have h2 : ops.getD j default = ops[j] := by simp [Array.getD_eq_getD_getElem?, hj]
            rw [h2] at h1
            have h3 := Array.all_eq_true_iff_forall_mem.1 h1 e he
            rw [hb] at h3
            simp at h3
            exact ih e.on (by omega) (by omega)⟩
          rw [hr] at hmem
          cases hmem
    refine hd a w hSw hL (fun j k hk => hP j k (hall (j + 1) j (by omega) ?_) hk) (fun j hj => hE j (hall (j + 1) j (by omega) hj))
    unfold slotB at hk
    cases h : ops[j]? with
    | none => rw [h] at hk; cases hk
    | some oj => exact (Array.getElem?_eq_some_iff.1 h).1
  · unfold unlisted
    exact Nat.le_trans (List.length_filter_le _ _) (by simp)
  · intro j hj
    simp only [Array.getD_eq_getD_getElem?, Array.getElem?_replicate] at hj
    split at hj <;> simp at hj
  · intro j k hj
    simp only [Array.getD_eq_getD_getElem?, Array.getElem?_replicate] at hj
    split at hj <;> simp at hj
end
end Go.Kt
namespace Go.Kt
open Go
section
variable {P : Program} {ops : Array Oper} {Q : Exit → Act → World → Prop}
theorem SlotSteps.cons {S : World → Prop} {R : World → World → Prop} {p : Nat → Value → World → Prop} {a0 : Act} {md : Region.Mode} {i : Nat} {o : Oper} {r : List Oper}
    (h : SlotStep P md ops Q S R p a0 i o) (hr : SlotSteps P md ops Q S R p a0 (i + 1) r) : SlotSteps P md ops Q S R p a0 i (o :: r) := ⟨h, hr⟩
theorem SlotSteps.nil {S : World → Prop} {R : World → World → Prop} {p : Nat → Value → World → Prop} {a0 : Act} {md : Region.Mode} {i : Nat} : SlotSteps P md ops Q S R p a0 i [] := trivial
theorem wanted_true {o : Oper} {a : Act} {j : Nat} {b : Bool} (k : Nat) (hg : o.guard = some (j, b)) (hk : slotB ops j k = true) (h : a.tmps.getD k undef = .bool b) : Region.wanted o (yielded ops a.tmps) = true := by
  have h1 : a.tmps[k]? = some (.bool b) := by
    rw [Array.getD_eq_getD_getElem?] at h
    cases hx : a.tmps[k]? with
    | none => rw [hx] at h; cases h
    | some v => rw [hx] at h; simp at h; rw [h]
  unfold slotB at hk
  unfold Region.wanted yielded
  rw [hg]
  cases ho : ops[j]? with
  | none => rw [ho] at hk; cases hk
  | some oj =>
    rw [ho] at hk
    have : oj.dst = some k := by simpa using hk
    have h2 : (ops[j]?.bind fun x => x.dst).bind (fun x => a.tmps[x]?) = some (.bool b) := by rw [ho]; simp only [Option.bind_some, this, h1]
    simp only [h2]
    cases b <;> rfl
theorem wp_value {o : Oper} {a : Act} {w w' : World} {v : Value} {K : Act → World → Prop} (h : (execOp a.eval o).run P w = .ok (.value v) w') (hK : K (a.put o.dst v) w') : o.wp P a w K Q := by
  unfold Oper.wp; rw [h]; exact hK
theorem wp_enter {o : Oper} {a : Act} {w w' : World} {f : Nat} {args : Array Value} {K : Act → World → Prop} (h : (execOp a.eval o).run P w = .ok (.enter f args) w')
    (hK : Calls P f args w' fun e w'' => ∃ v, e = .returned v ∧ K (a.put o.dst v) w'') : o.wp P a w K Q := by
  unfold Oper.wp; rw [h]
  refine Calls.mono hK fun e w'' he => ?_
  obtain ⟨v, rfl, hv⟩ := he
  exact hv
theorem wp_skipped {o : Oper} {a : Act} {w w' : World} {K : Act → World → Prop} (h : (execOp a.eval o).run P w = .ok .skip w') (hK : K (a.put o.dst undef) w') : o.wp P a w K Q := by
  unfold Oper.wp; rw [h]; exact hK
theorem run_val {m : Sem Value} {w w' : World} {v : Value} (h : m.run P w = .ok v w') : (m >>= fun x => pure (Next.value x)).run P w = .ok (.value v) w' := by
  simp [h]
theorem exec_convert {o : Oper} {a : Act} {w w' : World} {src dst : TypeId} {x : Operand} {u v : Value} (ho : o.op = .convert src dst x) (hx : a.eval x = u) (h : (convert src dst u).run P w = .ok v w') : (execOp a.eval o).run P w = .ok (.value v) w' := by
  unfold execOp; rw [ho]; simp only [hx]; exact run_val h
end
end Go.Kt
namespace Go.Kt
open Go
section
variable {P : Program} {ops : Array Oper} {Q : Exit → Act → World → Prop} {o : Oper} {a : Act} {w w' : World}
theorem exec_load {t : TypeId} {x : Operand} {u v : Value} (ho : o.op = .load t x) (hx : a.eval x = u) (h : (Instr.loadAt t u).run P w = .ok v w') : (execOp a.eval o).run P w = .ok (.value v) w' := by
  unfold execOp; rw [ho]; simp only [hx]; exact run_val h
theorem exec_binop {op : BinOp} {t ty : TypeId} {x y : Operand} {u1 u2 v : Value} (ho : o.op = .binOp op t x y ty) (hx : a.eval x = u1) (hy : a.eval y = u2) (h : (do eqGuard op t x y u1 u2; binOp op t u1 u2 : Sem Value).run P w = .ok v w') : (execOp a.eval o).run P w = .ok (.value v) w' := by
  unfold execOp; rw [ho]; simp only [hx, hy]; exact run_val h
theorem exec_move {x : Operand} {u : Value} (ho : o.op = .move x) (hx : a.eval x = u) : (execOp a.eval o).run P w = .ok (.value u) w := by
  unfold execOp; rw [ho]; simp only [hx]; rfl
theorem exec_pick {c x y : Operand} {b : Bool} {u1 u2 : Value} (ho : o.op = .pick c x y) (hc : a.eval c = .bool b) (hx : a.eval x = u1) (hy : a.eval y = u2) : (execOp a.eval o).run P w = .ok (.value (if b then u1 else u2)) w := by
  unfold execOp; rw [ho]; simp only [hc, hx, hy]; rfl
theorem exec_store {t : TypeId} {x y : Operand} {u1 u2 : Value} (ho : o.op = .store t x y) (hx : a.eval x = u1) (hy : a.eval y = u2) (h : (Instr.storeAt t u1 u2).run P w = .ok () w') : (execOp a.eval o).run P w = .ok .skip w' := by
  unfold execOp; rw [ho]; simp only [hx, hy]; simp [h]
theorem exec_call {f : FuncId} {args : Array Operand} {ats : Array TypeId} {vs : Array Value} {fn : Func} (ho : o.op = .call ⟨.value (.func f), args, ats⟩) (hx : args.map a.eval = vs) (hf : P.funcs[f]? = some fn) (hn : (fn.name == "runtime.NumGoroutine") = false) (hb : fn.body.isNone = false) : (execOp a.eval o).run P w = .ok (.enter f vs) w := by
  unfold execOp; rw [ho]; simp only [resolve, hx, Act.eval, Deferred.ofValue, invoke, callFunc]
  have h1 : ¬ fn.name = "runtime.NumGoroutine" := fun h => by rw [h] at hn; exact absurd hn (by decide)
  have h2 : ¬ fn.body = none := fun h => by rw [h] at hb; cases hb
  simp [hf, h1, h2]
end
end Go.Kt
namespace Go.Kt
open Go
section
variable {P : Program} {ops : Array Oper} {o : Oper} {a : Act} {w w' : World}
/-- The region's slots. -/
def dsts (ops : Array Oper) : List Nat := ops.toList.filterMap (·.dst)
theorem foldl_set_size (f : Nat → Value) : ∀ (ks : List Nat) (t : Array Value), (ks.foldl (fun t k => t.setIfInBounds k (f k)) t).size = t.size
  | [], _ => rfl
  | k :: ks, t => by rw [List.foldl_cons, foldl_set_size f ks]; simp
theorem foldl_set_get (f : Nat → Value) : ∀ (ks : List Nat) (t : Array Value) (i : Nat), i < t.size → (ks.foldl (fun t k => t.setIfInBounds k (f k)) t).getD i undef = if i ∈ ks then f i else t.getD i undef
  | [], t, i, _ => by simp
  | k :: ks, t, i, h => by
    rw [List.foldl_cons, foldl_set_get f ks _ i (by simpa using h)]
    by_cases h1 : i ∈ ks
    · simp [h1]
    · by_cases h2 : k = i
      · subst h2
        simp [h1, Array.getD_eq_getD_getElem?, h]
      · simp [h1, Ne.symm h2, Array.getD_eq_getD_getElem?, h2]
/-- The frame at hand, written out: the first one with the region's slots anew. -/
theorem Like.out {a0 : Act} (h : Like ops a0 a) (ks : List Nat) (hk : dsts ops = ks) : ∃ f : Nat → Value, a = ⟨ks.foldl (fun t k => t.setIfInBounds k (f k)) a0.tmps, a0.defers⟩ ∧ ∀ k, f k = a.tmps.getD k undef := by
  refine ⟨fun k => a.tmps.getD k undef, ?_, fun _ => rfl⟩
  obtain ⟨t, d⟩ := a
  obtain ⟨h1, h2, h3⟩ := h
  simp only at h1 h2 h3 ⊢
  subst h1
  congr 1
  refine Array.ext (by rw [foldl_set_size]; exact h2) fun i hi hi' => ?_
  have hlt : i < a0.tmps.size := by rw [← h2]; exact hi
  have e1 : t[i] = t.getD i undef := by simp [Array.getD_eq_getD_getElem?, hi]
  have e2 : ∀ (x : Array Value) (hx : i < x.size), x[i] = x.getD i undef := fun x hx => by simp [Array.getD_eq_getD_getElem?, hx]
  rw [e1, e2 _ hi', foldl_set_get _ _ _ _ hlt]
  by_cases hno : i ∈ ks
  · rw [if_pos hno]
  · rw [if_neg hno]
    refine h3 i ?_
    unfold outside
    rw [Array.all_eq_true_iff_forall_mem]
    intro x hx
    have : x.dst ≠ some i := fun e => hno (by
      rw [← hk]
      exact List.mem_filterMap.2 ⟨x, by simpa using hx, e⟩)
    simpa using this
theorem exec_unop {op : UnOp} {t : TypeId} {x : Operand} {u v : Value} (ho : o.op = .unOp op t x) (hx : a.eval x = u) (h : (Op.unary op u).run P w = .ok v w') : (execOp a.eval o).run P w = .ok (.value v) w' := by
  unfold execOp; rw [ho]; simp only [hx]; exact run_val h
end
end Go.Kt
/- What is the same of any program: more single operations of a drawn region. -/
namespace Go.Kt
open Go
section
variable {P : Program} {o : Oper} {a : Act} {w w' : World}
theorem exec_indexAddr {t : TypeId} {x y : Operand} {u1 u2 v : Value} (ho : o.op = .indexAddr t x y) (hx : a.eval x = u1) (hy : a.eval y = u2) (h : (Instr.indexAt t u1 u2).run P w = .ok v w') : (execOp a.eval o).run P w = .ok (.value v) w' := by
  unfold execOp; rw [ho]; simp only [hx, hy]; exact run_val h
theorem exec_fieldAddr {t : TypeId} {x : Operand} {f : Nat} {u v : Value} (ho : o.op = .fieldAddr t x f) (hx : a.eval x = u) (h : (Instr.fieldAt t u f).run P w = .ok v w') : (execOp a.eval o).run P w = .ok (.value v) w' := by
  unfold execOp; rw [ho]; simp only [hx]; exact run_val h
theorem exec_buildSlice {t : TypeId} {n : Nat} {parts : Array (Nat × Operand)} {ps : Array (Nat × Value)} {v : Value} (ho : o.op = .buildSlice t n parts) (hp : parts.map (fun p => (p.1, a.eval p.2)) = ps) (h : (Instr.buildSlice t n ps).run P w = .ok v w') : (execOp a.eval o).run P w = .ok (.value v) w' := by
  unfold execOp; rw [ho]; simp only []; subst hp; exact run_val h
theorem exec_build {t : TypeId} {parts : Array (Nat × Operand)} {ps : Array (Nat × Value)} {v : Value} (ho : o.op = .build t parts) (hp : parts.map (fun p => (p.1, a.eval p.2)) = ps) (h : (Instr.build t ps).run P w = .ok v w') : (execOp a.eval o).run P w = .ok (.value v) w' := by
  unfold execOp; rw [ho]; simp only []; subst hp; exact run_val h
theorem exec_box {t : TypeId} {x : Operand} {u v : Value} (ho : o.op = .box t x) (hx : a.eval x = u) (h : (Instr.box t u).run P w = .ok v w') : (execOp a.eval o).run P w = .ok (.value v) w' := by
  unfold execOp; rw [ho]; simp only [hx]; exact run_val h
theorem exec_makeSlice {t : TypeId} {x y : Operand} {u1 u2 v : Value} (ho : o.op = .makeSlice t x y) (hx : a.eval x = u1) (hy : a.eval y = u2) (h : (Instr.makeSlice t u1 u2).run P w = .ok v w') : (execOp a.eval o).run P w = .ok (.value v) w' := by
  unfold execOp; rw [ho]; simp only [hx, hy]; exact run_val h
theorem exec_nilCheck {x : Operand} {p : Addr} (ho : o.op = .nilCheck x) (hx : a.eval x = .pointer (some p)) : (execOp a.eval o).run P w = .ok (.value (.pointer (some p))) w := by
  unfold execOp; rw [ho]; simp only [hx]; rfl
end
end Go.Kt
