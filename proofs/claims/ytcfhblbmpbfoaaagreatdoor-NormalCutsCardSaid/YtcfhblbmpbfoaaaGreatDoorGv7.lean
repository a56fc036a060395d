/- Parts of the proof of what the last text says. -/
import Derived.Test.YtcfhblbmpbfoaaaGreatDoorJcx
import Derived.OwnWalk
import Derived.Test.YtcfhblbmpbfoaaaGreatDoorGv2
import Derived.Laws.Strings3
import Derived.Test.YtcfhblbmpbfoaaaGreatDoorGv6
namespace Go.Proofs.YtcfhblbmpbfoaaaGreatDoor
open Go Go.RowKit Go.Kt Go.Kt.Rg

def StrS (v : Value) (ws : List (List UInt8)) (w : World) : Prop :=
  ∃ g off cap, v = .slice (some ⟨g, off, none⟩) ws.length cap ∧ ws.length ≤ cap ∧ cap ≤ 4611686018427387904 ∧ ∀ i x, ws[i]? = some x → w.cell? ⟨g, off + i, none⟩ = some (.string ⟨x.toArray⟩)
theorem StrS.below {v : Value} {ws : List (List UInt8)} {A B : World} (h : StrS v ws A) (hb : Below A.heap.size A B) : StrS v ws B := by
  obtain ⟨g, off, cap, rfl, h1, h2, h3⟩ := h
  exact ⟨g, off, cap, rfl, h1, h2, fun i x hx => (hb.cell (lt_of_cell (h3 i x hx))).trans (h3 i x hx)⟩

def ptsA : List Nat → List (List UInt8) → Nat × List Nat
  | acc, [] => (0, acc)
  | acc, x :: t => match numP x with
    | none => (11, [])
    | some n => if Lib.validRune (n : Int) = false then (8, []) else ptsA (acc ++ [n]) t
def ptsP (ws : List (List UInt8)) : Nat × List Nat := if 9 < ws.length then (5, []) else ptsA [] ws
theorem ptsA_no {acc : List Nat} {x : List UInt8} {t : List (List UInt8)} (h : numP x = none) : ptsA acc (x :: t) = (11, []) := by rw [ptsA, h]
theorem ptsA_bad {acc : List Nat} {x : List UInt8} {t : List (List UInt8)} {n : Nat} (h : numP x = some n) (hv : Lib.validRune (n : Int) = false) : ptsA acc (x :: t) = (8, []) := by rw [ptsA, h]; exact if_pos hv
theorem ptsA_go {acc : List Nat} {x : List UInt8} {t : List (List UInt8)} {n : Nat} (h : numP x = some n) (hv : Lib.validRune (n : Int) = true) : ptsA acc (x :: t) = ptsA (acc ++ [n]) t := by
  rw [ptsA, h]
  exact if_neg (by rw [hv]; exact fun e => by cases e)

def PtsOut (w : World) (o : Nat × List Nat) (e : Ending) (w' : World) : Prop :=
  Below w.heap.size w w' ∧ ∃ v, e = .returned (.tuple #[v, .int .i64 (o.1 : Nat)]) ∧ (o.1 = 0 → ∃ B, v = .slice (some ⟨B, 0, none⟩) o.2.length o.2.length ∧ w.heap.size ≤ B ∧ B < w'.heap.size ∧ ∀ (i : Nat) (x : Nat), o.2[i]? = some x → w'.cell? ⟨B, i, none⟩ = some (.int .i32 (x : Nat)))

set_option maxRecDepth 100000 in
set_option maxHeartbeats 2000000 in
theorem ppoints (ws : List (List UInt8)) (v : Value) (w : World) (hS : StrS v ws w) (hz : ∀ x ∈ ws, x.length ≤ 1048576) (_h0 : ws ≠ []) (hE : PEnv w) :
    Calls Tryz.prog 139 #[v] w fun e w' => PtsOut w (ptsP ws) e w' := by
  obtain ⟨g, off, cap, rfl, hcap, hcap2, hc⟩ := hS
  obtain ⟨n, hn⟩ : ∃ n, ws.length = n := ⟨_, rfl⟩
  rw [hn] at hcap ⊢
  by_cases h9 : 9 < n
  · have h9z : (9 : Int) < (n : Int) := by omega
    have HX : Hid (ptsP ws = (5, [])) := Lib.hid (by unfold ptsP; rw [if_pos (by omega)])
    go_enter Tryz.func139, Tryz.ntmps139
    go_wp2
    go_ret2
    rw [HX.out]
    exact ⟨Below.refl _ _, _, rfl, fun e => by cases e⟩
  · have h9z : (n : Int) ≤ 9 := by omega
    have HX : Hid (ptsP ws = ptsA [] ws) := Lib.hid (by unfold ptsP; rw [if_neg (by omega)])
    have HC := Lib.hid hc
    have HN := Lib.hid hn
    have HZ := Lib.hid hz
    have HE := Lib.hid hE
    clear hc hn hz hE
    go_enter Tryz.func139, Tryz.ntmps139
    go_wp2_with (at_make; refine wpList_make_full _ rfl _ _ _ rfl w.heap.size 21 _ (.int .i32 0) 1 Tryz.underlying22 rfl rfl rfl .i64 .i64 _ _ n rfl rfl rfl rfl (by show 4 * n ≤ _; omega) (by unfold maxLen; omega) (Nat.le_refl _) ?_; intro w1 hown1 hgr1)
    have H1 : Hid (∃ C : Array Value, Below w.heap.size w w1 ∧ w1.heap[w.heap.size]? = some (.cells C 21 (0, 0)) ∧ C.size = n) := Lib.hid (by
      obtain ⟨_, h2⟩ := hown1
      rcases h2 with ⟨h2, _⟩ | ⟨g2, c2, C, e2, _, h3, _, _, h4, _⟩
      · cases h2
      · injection e2 with e3 _ e4
        injection e3 with e3
        injection e3 with e3 _
        subst e3 e4
        exact ⟨C, ⟨hgr1.os, hgr1.tape, hgr1.output, hgr1.size, fun x hx => hgr1.block x hx (fun e => by cases e)⟩, h3, by omega⟩)
    clear hown1 hgr1
    go_loopw [17] (fun vk wr => ∃ (k : Nat) (acc : List Nat) (C : Array Value), vk = .int .i64 k ∧ k ≤ n ∧ Hid (ptsA [] ws = ptsA acc (ws.drop k) ∧ acc.length = k ∧ Below w.heap.size w wr ∧ wr.heap[w.heap.size]? = some (.cells C 21 (0, 0)) ∧ C.size = n ∧ ∀ (i : Nat) (x : Nat), acc[i]? = some x → C[i]? = some (.int .i32 (x : Nat)))) (fun vk _ => n - (RowKit.intOf vk).toNat)
    case atStart =>
      obtain ⟨C, a1, a2, a3⟩ := H1.out
      exact ⟨0, [], C, rfl, by omega, Lib.hid ⟨rfl, rfl, a1, a2, a3, fun i x h => by simp at h⟩⟩
    case round =>
      clear H1
      obtain ⟨k, acc, C, rfl, hk, hh⟩ := hrel
      by_cases hkn : k < n
      · have hknz : (k : Int) < (n : Int) := by omega
        have hkl : k < ws.length := by rw [HN.out]; exact hkn
        obtain ⟨x, hx⟩ : ∃ x, ws[k]? = some x := ⟨_, List.getElem?_eq_getElem hkl⟩
        have hdr : ws.drop k = x :: ws.drop (k + 1) := by
          rw [List.drop_eq_getElem_cons hkl]
          congr 1
          rw [List.getElem?_eq_getElem hkl] at hx
          exact Option.some.inj hx
        have hcx : wr.cell? ⟨g, off + k, none⟩ = some (.string ⟨x.toArray⟩) := (hh.out.2.2.1.cell (lt_of_cell (HC.out k x hx))).trans (HC.out k x hx)
        have hxm : x ∈ ws := List.mem_of_getElem? hx
        have CN0 := pnumber ⟨x.toArray⟩ wr (by rw [bsize]; have := HZ.out x hxm; omega) (HE.out.below hh.out.2.2.1).v
        have CN : Hid (Calls Tryz.prog 168 #[.string ⟨x.toArray⟩] wr fun e w' => NumOut (numP x) e ∧ Below wr.heap.size wr w') := Lib.hid CN0
        have HD := Lib.hid hdr
        clear CN0 hdr hxm hkl hx
        cases ho : numP x with
        | none =>
          have HX2 : Hid (ptsP ws = (11, [])) := Lib.hid (by rw [HX.out, hh.out.1, HD.out, ptsA_no ho])
          rw [ho] at CN
          go_wp2_with fail
          refine CN.out.mono ?_
          rintro e w2 ⟨⟨z, rfl⟩, hb2⟩
          have HB := Lib.hid (hh.out.2.2.1.trans (hb2.mono hh.out.2.2.1.size))
          clear hb2 CN hcx
          go_wp2
          go_ret2
          rw [HX2.out]
          exact ⟨HB.out, _, rfl, fun e => by cases e⟩
        | some m =>
          have hm := numP_le ho
          rw [ho] at CN
          cases hv : Lib.validRune (m : Int)
          · have HX2 : Hid (ptsP ws = (8, [])) := Lib.hid (by rw [HX.out, hh.out.1, HD.out, ptsA_bad ho hv])
            go_wp2_with fail
            refine CN.out.mono ?_
            rintro e w2 ⟨hp, hb2⟩
            obtain rfl := hp
            have HB := Lib.hid (hh.out.2.2.1.trans (hb2.mono hh.out.2.2.1.size))
            clear hb2 CN hcx
            go_wp2_with (go_at_call 82; refine (Tryz.utf8_ValidRune _ _).mono ?_; rintro e w4 ⟨rfl, rfl⟩)
            go_ret2
            rw [HX2.out]
            exact ⟨HB.out, _, rfl, fun e => by cases e⟩
          · have HX2 : Hid (ptsA [] ws = ptsA (acc ++ [m]) (ws.drop (k + 1))) := Lib.hid (by rw [hh.out.1, HD.out, ptsA_go ho hv])
            go_wp2_with fail
            refine CN.out.mono ?_
            rintro e w2 ⟨hp, hb2⟩
            obtain rfl := hp
            have HB := Lib.hid (hh.out.2.2.1.trans (hb2.mono hh.out.2.2.1.size))
            have hg2 : w2.heap[w.heap.size]? = some (.cells C 21 (0, 0)) := (hb2.block _ (by have := (Array.getElem?_eq_some_iff.1 hh.out.2.2.2.1).1; exact this)).trans hh.out.2.2.2.1
            have hck : C[k]? = some (C[k]'(by rw [hh.out.2.2.2.2.1]; exact hkn)) := Array.getElem?_eq_getElem _
            generalize C[k]'(by rw [hh.out.2.2.2.2.1]; exact hkn) = u0 at hck
            have c0 : w2.cell? ⟨w.heap.size, k, none⟩ = some u0 := by rw [Lib.cell_of_heap hg2]; exact hck
            have f0 : w2.frozen? ⟨w.heap.size, k, none⟩ = false := Lib.frozen_of_heap hg2 _
            have HG := Lib.hid (heap_setCell_same w2 w.heap.size k _ _ (.int .i32 (m : Int)) hg2)
            clear hb2 CN hcx hg2 hck
            go_wp2_with (go_at_call 82; refine (Tryz.utf8_ValidRune _ _).mono ?_; rintro e w4 ⟨rfl, rfl⟩)
            go_roundw
            case rel => exact ⟨k + 1, acc ++ [m], _, by go_num, by omega, Lib.hid ⟨HX2.out, by simp [hh.out.2.1], HB.out.setCell (Nat.le_refl _) _, HG.out, by simp [hh.out.2.2.2.2.1], fun i y hy => by
              by_cases hi : i < k
              · rw [Array.getElem?_setIfInBounds_ne (by omega)]
                rw [List.getElem?_append_left (by rw [hh.out.2.1]; exact hi)] at hy
                exact hh.out.2.2.2.2.2 i y hy
              · have hik : i = k := by
                  have := (List.getElem?_eq_some_iff.1 hy).1
                  rw [List.length_append, hh.out.2.1] at this
                  simp at this
                  omega
                subst hik
                rw [List.getElem?_append_right (by rw [hh.out.2.1]; exact Nat.le_refl _), hh.out.2.1, Nat.sub_self] at hy
                simp at hy
                subst hy
                rw [Array.getElem?_setIfInBounds_self_of_lt (by rw [hh.out.2.2.2.2.1]; exact hkn)]⟩⟩
            case measure => simp [RowKit.intOf]; omega
      · have hknz : ¬ (k : Int) < (n : Int) := by omega
        have hkn2 : k = n := by omega
        have HX2 : Hid (ptsP ws = (0, acc)) := Lib.hid (by rw [HX.out, hh.out.1, hkn2, ← HN.out, List.drop_length]; rfl)
        have HA : Hid (acc.length = n) := Lib.hid (hh.out.2.1.trans hkn2)
        clear hkn2
        go_wp2
        go_ret2
        rw [HX2.out]
        refine ⟨hh.out.2.2.1, _, rfl, fun _ => ⟨w.heap.size, by rw [HA.out]; rfl, Nat.le_refl _, (Array.getElem?_eq_some_iff.1 hh.out.2.2.2.1).1, fun i x hx => ?_⟩⟩
        rw [Lib.cell_of_heap hh.out.2.2.2.1]
        exact hh.out.2.2.2.2.2 i x hx
end Go.Proofs.YtcfhblbmpbfoaaaGreatDoor
namespace Go.Proofs.YtcfhblbmpbfoaaaGreatDoor
open Go Go.RowKit Go.Kt Go.Kt.Rg

theorem pthree_cells {V : World} {g : Nat} {a b c x y z : Value} {T : TypeId} (h : V.heap[g]? = some (.cells #[a, b, c] T (0, 0))) :
    (((V.setCell ⟨g, 0, none⟩ x).setCell ⟨g, 1, none⟩ y).setCell ⟨g, 2, none⟩ z).heap[g]? = some (.cells #[x, y, z] T (0, 0)) := by
  have h1 := heap_setCell_same V g 0 _ _ x h
  have h2 := heap_setCell_same (V.setCell ⟨g, 0, none⟩ x) g 1 _ _ y h1
  have h3 := heap_setCell_same ((V.setCell ⟨g, 0, none⟩ x).setCell ⟨g, 1, none⟩ y) g 2 _ _ z h2
  simpa using h3

theorem alloc_old_h {w : World} {k : Nat} {o x : Obj} (h : w.heap[k]? = some x) : (w.alloc o).heap[k]? = some x := by
  rw [heap_alloc_if, if_neg (by have := (Array.getElem?_eq_some_iff.1 h).1; omega)]; exact h

def rowP (V : List UInt8 → Nat × Int) (ws : List (List UInt8)) : Nat × Nat × Nat × Int :=
  if 2 < ws.length then (3, 0, 0, 0) else
    if (spnP (ws.getD 0 [])).1 ≠ 0 then ((spnP (ws.getD 0 [])).1, 0, 0, 0) else
      if (V (ws.getD 1 [])).1 ≠ 0 then ((V (ws.getD 1 [])).1, 0, 0, 0) else (0, (spnP (ws.getD 0 [])).2.1, (spnP (ws.getD 0 [])).2.2, (V (ws.getD 1 [])).2)
abbrev rwA (lo hi : Nat) (v : Int) : Value := .agg #[.int .i32 lo, .int .i32 hi, .int .i64 v]

set_option maxRecDepth 100000 in
set_option maxHeartbeats 2000000 in
theorem prow (gf : Nat) (eg : ∀ args w, (callFunc gf args).run Tryz.prog w = .ok (.enter gf args) w) (V : List UInt8 → Nat × Int) (ws : List (List UInt8)) (sv : Value) (w : World) (hS : StrS sv ws w) (hz : ∀ x ∈ ws, x.length ≤ 1048576) (h2 : 2 ≤ ws.length) (hE : PEnv w)
    (hV : ∀ W, Below w.heap.size w W → Calls Tryz.prog gf #[.string ⟨(ws.getD 1 []).toArray⟩] W fun e w' => e = .returned (.tuple #[.int .i64 (V (ws.getD 1 [])).2, .int .i64 ((V (ws.getD 1 [])).1 : Nat)]) ∧ Below W.heap.size W w') :
    Calls Tryz.prog 136 #[sv, .func (.func gf) #[] #[]] w fun e w' => e = .returned (.tuple #[rwA (rowP V ws).2.1 (rowP V ws).2.2.1 (rowP V ws).2.2.2, .int .i64 ((rowP V ws).1 : Nat)]) ∧ Below w.heap.size w w' := by
  obtain ⟨g, off, cap, rfl, hcap, hcap2, hc⟩ := hS
  have hc0 := hc 0 (ws.getD 0 []) (by rw [List.getD_eq_getElem?_getD, List.getElem?_eq_getElem (by omega)]; rfl)
  have hc1 := hc 1 (ws.getD 1 []) (by rw [List.getD_eq_getElem?_getD, List.getElem?_eq_getElem (by omega)]; rfl)
  have hx0 : (ws.getD 0 []).length ≤ 1048576 := hz _ (by rw [List.getD_eq_getElem?_getD, List.getElem?_eq_getElem (by omega)]; exact List.getElem_mem _)
  have HX : Hid (rowP V ws = if 2 < ws.length then (3, 0, 0, 0) else if (spnP (ws.getD 0 [])).1 ≠ 0 then ((spnP (ws.getD 0 [])).1, 0, 0, 0) else if (V (ws.getD 1 [])).1 ≠ 0 then ((V (ws.getD 1 [])).1, 0, 0, 0) else (0, (spnP (ws.getD 0 [])).2.1, (spnP (ws.getD 0 [])).2.2, (V (ws.getD 1 [])).2)) := Lib.hid rfl
  obtain ⟨n, hn⟩ : ∃ n, ws.length = n := ⟨_, rfl⟩
  rw [hn] at hcap h2 HX ⊢
  have CS0 := fun W (h : PEnv W) => pspan ⟨(ws.getD 0 []).toArray⟩ W (by rw [bsize]; exact hx0) h
  have CS : Hid (∀ W, PEnv W → Calls Tryz.prog 165 #[.string ⟨(ws.getD 0 []).toArray⟩] W fun e w' => e = .returned (.tuple #[.agg #[.int .i32 (spnP (ws.getD 0 [])).2.1, .int .i32 (spnP (ws.getD 0 [])).2.2], .int .i64 (spnP (ws.getD 0 [])).1]) ∧ Below W.heap.size W w') := Lib.hid CS0
  generalize rowP V ws = R at HX ⊢
  generalize ws.getD 0 [] = x0 at CS HX hc0
  generalize ws.getD 1 [] = x1 at hV HX hc1
  generalize V x1 = vv at hV HX
  obtain ⟨vn, vv⟩ := vv
  obtain ⟨⟨sn, lo, hi⟩, hs⟩ : ∃ z, spnP x0 = z := ⟨_, rfl⟩
  rw [hs] at CS HX
  simp only at hV HX
  replace CS : Hid (∀ W, PEnv W → Calls Tryz.prog 165 #[.string ⟨x0.toArray⟩] W fun e w' => e = .returned (.tuple #[.agg #[.int .i32 lo, .int .i32 hi], .int .i64 sn]) ∧ Below W.heap.size W w') := CS
  have HV := Lib.hid hV
  have HE := Lib.hid hE
  clear hV hE hz hc hx0 CS0 hs hn
  have H0 : Hid (Below w.heap.size w (w.alloc (.cells #[.int .i32 0, .int .i32 0, .int .i64 0] 160)) ∧ (w.alloc (.cells #[.int .i32 0, .int .i32 0, .int .i64 0] 160)).heap[w.heap.size]? = some (.cells #[.int .i32 0, .int .i32 0, .int .i64 0] 160 (0, 0))) := Lib.hid ⟨(Below.refl _ _).alloc (Nat.le_refl _) _, heap_alloc_new _ _⟩
  have h2z : (2 : Int) ≤ (n : Int) := by omega
  by_cases h3 : 2 < n
  · have h3z : (2 : Int) < (n : Int) := by omega
    have HX2 := Lib.hid (HX.out.trans (if_pos h3))
    clear HX
    go_enter Tryz.func136, Tryz.ntmps136
    go_wp2
    (try simp only [Exit.inBlock, Exit.then])
    refine bodyPost_ret (results_cell2 rfl _ _ w.heap.size 160 #[.int .i32 0, .int .i32 0, .int .i64 0] (0, 0) _ rfl H0.out.2 Tryz.underlying160 rfl (by kernel_rfl)) rfl ?_
    rw [HX2.out]
    exact ⟨rfl, H0.out.1⟩
  · have h3z : (n : Int) ≤ 2 := by omega
    replace HX := Lib.hid (HX.out.trans (if_neg h3))
    have hc0' : (w.alloc (.cells #[.int .i32 0, .int .i32 0, .int .i64 0] 160)).cell? ⟨g, off, none⟩ = some (.string ⟨x0.toArray⟩) := (H0.out.1.cell (lt_of_cell hc0)).trans hc0
    have CS1 := Lib.hid (CS.out _ (HE.out.below H0.out.1))
    clear CS
    go_enter Tryz.func136, Tryz.ntmps136
    go_wp2_with fail
    refine CS1.out.mono ?_
    rintro e w2 ⟨rfl, hb2⟩
    have H2 : Hid (Below w.heap.size w (w2.alloc (.cells #[.int .i32 lo, .int .i32 hi] 158)) ∧ (w2.alloc (.cells #[.int .i32 lo, .int .i32 hi] 158)).heap[w.heap.size]? = some (.cells #[.int .i32 0, .int .i32 0, .int .i64 0] 160 (0, 0))) := Lib.hid (by
      have h5 : w2.heap[w.heap.size]? = some (.cells #[.int .i32 0, .int .i32 0, .int .i64 0] 160 (0, 0)) := (hb2.block _ (by simp)).trans H0.out.2
      have h6 := H0.out.1.trans (hb2.mono H0.out.1.size)
      exact ⟨h6.alloc h6.size _, alloc_old_h h5⟩)
    have H3 : Hid ((w2.alloc (.cells #[.int .i32 lo, .int .i32 hi] 158)).heap[w2.heap.size]? = some (.cells #[.int .i32 lo, .int .i32 hi] 158 (0, 0)) ∧ w.heap.size ≠ w2.heap.size) := Lib.hid ⟨heap_alloc_new _ _, by have := hb2.size; simp at this; omega⟩
    obtain ⟨sb, hsb⟩ : ∃ sb, w2.heap.size = sb := ⟨_, rfl⟩
    have HSB := Lib.hid hsb
    rw [hsb] at H3
    clear hb2 CS1 hc0 hc0' hsb
    by_cases hs0 : sn = 0
    · subst hs0
      replace HX := Lib.hid (HX.out.trans (if_neg (fun e => e rfl)))
      have q1 : w2.alloc (.cells #[.int .i32 lo, .int .i32 hi] 158) = w2.alloc (.cells #[.int .i32 lo, .int .i32 hi] 158) := rfl
      have hc1' : (w2.alloc (.cells #[.int .i32 lo, .int .i32 hi] 158)).cell? ⟨g, off + 1, none⟩ = some (.string ⟨x1.toArray⟩) := (H2.out.1.cell (lt_of_cell hc1)).trans hc1
      have CV := Lib.hid (HV.out _ H2.out.1)
      clear q1 HV
      go_wp2_with fail
      refine CV.out.mono ?_
      rintro e w3 ⟨rfl, hb3⟩
      have H4 : Hid (Below w.heap.size w w3 ∧ w3.heap[w.heap.size]? = some (.cells #[.int .i32 0, .int .i32 0, .int .i64 0] 160 (0, 0))) := Lib.hid ⟨H2.out.1.trans (hb3.mono H2.out.1.size), (hb3.block _ (by have := (Array.getElem?_eq_some_iff.1 H2.out.2).1; exact this)).trans H2.out.2⟩
      have H5 : Hid (w3.heap[sb]? = some (.cells #[.int .i32 lo, .int .i32 hi] 158 (0, 0))) := Lib.hid ((hb3.block _ (by have := (Array.getElem?_eq_some_iff.1 H3.out.1).1; exact this)).trans H3.out.1)
      clear hb3 CV hc1 hc1'
      by_cases hv0 : vn = 0
      · subst hv0
        replace HX := Lib.hid (HX.out.trans (if_neg (fun e => e rfl)))
        have d0 : w3.cell? ⟨sb, 0, none⟩ = some (.int .i32 lo) := by rw [Lib.cell_of_heap H5.out]; rfl
        have d1 : w3.cell? ⟨sb, 1, none⟩ = some (.int .i32 hi) := by rw [Lib.cell_of_heap H5.out]; rfl
        have c0 : w3.cell? ⟨w.heap.size, 0, none⟩ = some (.int .i32 0) := by rw [Lib.cell_of_heap H4.out.2]; rfl
        have f0 : w3.frozen? ⟨w.heap.size, 0, none⟩ = false := Lib.frozen_of_heap H4.out.2 _
        have c1 : w3.cell? ⟨w.heap.size, 1, none⟩ = some (.int .i32 0) := by rw [Lib.cell_of_heap H4.out.2]; rfl
        have f1 : w3.frozen? ⟨w.heap.size, 1, none⟩ = false := Lib.frozen_of_heap H4.out.2 _
        have c2 : w3.cell? ⟨w.heap.size, 2, none⟩ = some (.int .i64 0) := by rw [Lib.cell_of_heap H4.out.2]; rfl
        have f2 : w3.frozen? ⟨w.heap.size, 2, none⟩ = false := Lib.frozen_of_heap H4.out.2 _
        rw [HSB.out]
        go_wp2
        (try simp only [Exit.inBlock, Exit.then])
        refine bodyPost_ret (results_cell2 rfl _ _ w.heap.size 160 #[.int .i32 lo, .int .i32 hi, .int .i64 vv] (0, 0) _ rfl (pthree_cells H4.out.2) Tryz.underlying160 rfl (by kernel_rfl)) rfl ?_
        rw [HX.out]
        exact ⟨rfl, ((H4.out.1.setCell (Nat.le_refl _) _).setCell (Nat.le_refl _) _).setCell (Nat.le_refl _) _⟩
      · replace HX := Lib.hid (HX.out.trans (if_pos hv0))
        have b1 : ((vn : Int) != 0) = true := by simp; omega
        have b2 : ((vn : Int) == 0) = false := beq_eq_false_iff_ne.2 (by omega)
        have c0 : w3.cell? ⟨w.heap.size, 0, none⟩ = some (.int .i32 0) := by rw [Lib.cell_of_heap H4.out.2]; rfl
        have f0 : w3.frozen? ⟨w.heap.size, 0, none⟩ = false := Lib.frozen_of_heap H4.out.2 _
        have c1 : w3.cell? ⟨w.heap.size, 1, none⟩ = some (.int .i32 0) := by rw [Lib.cell_of_heap H4.out.2]; rfl
        have f1 : w3.frozen? ⟨w.heap.size, 1, none⟩ = false := Lib.frozen_of_heap H4.out.2 _
        have c2 : w3.cell? ⟨w.heap.size, 2, none⟩ = some (.int .i64 0) := by rw [Lib.cell_of_heap H4.out.2]; rfl
        have f2 : w3.frozen? ⟨w.heap.size, 2, none⟩ = false := Lib.frozen_of_heap H4.out.2 _
        go_wp2
        (try simp only [Exit.inBlock, Exit.then])
        refine bodyPost_ret (results_cell2 rfl _ _ w.heap.size 160 #[.int .i32 0, .int .i32 0, .int .i64 0] (0, 0) _ rfl (pthree_cells H4.out.2) Tryz.underlying160 rfl (by kernel_rfl)) rfl ?_
        rw [HX.out]
        exact ⟨rfl, ((H4.out.1.setCell (Nat.le_refl _) _).setCell (Nat.le_refl _) _).setCell (Nat.le_refl _) _⟩
    · replace HX := Lib.hid (HX.out.trans (if_pos hs0))
      have b1 : ((sn : Int) != 0) = true := by simp; omega
      have b2 : ((sn : Int) == 0) = false := beq_eq_false_iff_ne.2 (by omega)
      have c0 : (w2.alloc (.cells #[.int .i32 lo, .int .i32 hi] 158)).cell? ⟨w.heap.size, 0, none⟩ = some (.int .i32 0) := by rw [Lib.cell_of_heap H2.out.2]; rfl
      have f0 : (w2.alloc (.cells #[.int .i32 lo, .int .i32 hi] 158)).frozen? ⟨w.heap.size, 0, none⟩ = false := Lib.frozen_of_heap H2.out.2 _
      have c1 : (w2.alloc (.cells #[.int .i32 lo, .int .i32 hi] 158)).cell? ⟨w.heap.size, 1, none⟩ = some (.int .i32 0) := by rw [Lib.cell_of_heap H2.out.2]; rfl
      have f1 : (w2.alloc (.cells #[.int .i32 lo, .int .i32 hi] 158)).frozen? ⟨w.heap.size, 1, none⟩ = false := Lib.frozen_of_heap H2.out.2 _
      have c2 : (w2.alloc (.cells #[.int .i32 lo, .int .i32 hi] 158)).cell? ⟨w.heap.size, 2, none⟩ = some (.int .i64 0) := by rw [Lib.cell_of_heap H2.out.2]; rfl
      have f2 : (w2.alloc (.cells #[.int .i32 lo, .int .i32 hi] 158)).frozen? ⟨w.heap.size, 2, none⟩ = false := Lib.frozen_of_heap H2.out.2 _
      go_wp2
      (try simp only [Exit.inBlock, Exit.then])
      refine bodyPost_ret (results_cell2 rfl _ _ w.heap.size 160 #[.int .i32 0, .int .i32 0, .int .i64 0] (0, 0) _ rfl (pthree_cells H2.out.2) Tryz.underlying160 rfl (by kernel_rfl)) rfl ?_
      rw [HX.out]
      exact ⟨rfl, ((H2.out.1.setCell (Nat.le_refl _) _).setCell (Nat.le_refl _) _).setCell (Nat.le_refl _) _⟩
end Go.Proofs.YtcfhblbmpbfoaaaGreatDoor
namespace Go.Proofs.YtcfhblbmpbfoaaaGreatDoor
open Go Go.RowKit Go.Kt Go.Kt.Rg

def blkP (n : Nat) : Bool := n == 32 || n == 9
def lineP (l : List UInt8) : List UInt8 := (Lib.cut (Lib.trimSuffix (Lib.trimSuffix l [10]) [13]) [35]).1
def wrdP (l : List UInt8) : List (List UInt8) := (Lib.goFieldsP blkP ⟨(lineP l).toArray⟩).map (·.data.toList)

theorem spans_ok (p : Nat → Bool) (s : ByteArray) : ∀ f pos st acc, (∀ a, st = some a → a < pos ∧ a < s.size) → (∀ x ∈ acc, x.1 < x.2 ∧ x.2 ≤ s.size) →
    (∀ x ∈ (Lib.spansFromP p s f pos st acc).1, x.1 < x.2 ∧ x.2 ≤ s.size) ∧ ∀ a, (Lib.spansFromP p s f pos st acc).2 = some a → a < s.size := by
  intro f
  induction f with
  | zero => intro pos st acc h1 h2; exact ⟨h2, fun a h => (h1 a h).2⟩
  | succ f ih =>
    intro pos st acc h1 h2
    unfold Lib.spansFromP
    have hw := Lib.width_pos s pos
    split
    · rename_i hlt
      split
      · cases st with
        | some a => exact ih _ _ _ (fun a h => by cases h) (fun x hx => by
            rcases List.mem_append.1 hx with h | h
            · exact h2 x h
            · rw [List.mem_singleton] at h; subst h; exact ⟨(h1 a rfl).1, Nat.le_of_lt hlt⟩)
        | none => exact ih _ _ _ (fun a h => by cases h) h2
      · cases st with
        | some a => exact ih _ _ _ (fun b h => by injection h with h; subst h; have := h1 a rfl; exact ⟨by omega, this.2⟩) h2
        | none => exact ih _ _ _ (fun b h => by injection h with h; subst h; exact ⟨by omega, hlt⟩) h2
    · exact ⟨h2, fun a h => (h1 a h).2⟩
theorem pfields_ok (p : Nat → Bool) (s x : ByteArray) (h : x ∈ Lib.goFieldsP p s) : 0 < x.size ∧ x.size ≤ s.size := by
  unfold Lib.goFieldsP at h
  obtain ⟨q, hq, rfl⟩ := List.mem_map.1 h
  have hk : q.1 < q.2 ∧ q.2 ≤ s.size := by
    unfold Lib.spansOfP Lib.closeSpans at hq
    have h1 := spans_ok p s s.size 0 none [] (fun a h => by cases h) (fun x h => by cases h)
    split at hq
    · rename_i heq
      rw [heq] at h1
      rcases List.mem_append.1 hq with h | h
      · exact h1.1 q h
      · rw [List.mem_singleton] at h
        subst h
        exact ⟨h1.2 _ rfl, Nat.le_refl _⟩
    · rename_i heq
      rw [heq] at h1
      exact h1.1 q hq
  rw [ByteArray.size_extract]
  omega
theorem pspans_len (p : Nat → Bool) (s : ByteArray) : ∀ f pos st acc, (Lib.spansFromP p s f pos st acc).1.length ≤ acc.length + f := by
  intro f
  induction f with
  | zero => intro pos st acc; simp [Lib.spansFromP]
  | succ f ih =>
    intro pos st acc
    unfold Lib.spansFromP
    split
    · split
      · cases st with
        | some a => have := ih (pos + (Utf8.decode s pos).2) none (acc ++ [(a, pos)]); simp at this ⊢; omega
        | none => have := ih (pos + (Utf8.decode s pos).2) none acc; simp at this ⊢; omega
      · cases st with
        | some a => have := ih (pos + (Utf8.decode s pos).2) (some a) acc; simp at this ⊢; omega
        | none => have := ih (pos + (Utf8.decode s pos).2) (some pos) acc; simp at this ⊢; omega
    · simp
theorem pfields_len (p : Nat → Bool) (s : ByteArray) : (Lib.goFieldsP p s).length ≤ s.size + 1 := by
  unfold Lib.goFieldsP Lib.spansOfP Lib.closeSpans
  have := pspans_len p s s.size 0 none []
  rw [List.length_map]
  split <;> simp at * <;> omega
theorem trims_le (l p : List UInt8) : (Lib.trimSuffix l p).length ≤ l.length := by
  unfold Lib.trimSuffix
  split
  · rw [List.length_take]; omega
  · exact Nat.le_refl _
theorem lineP_le (l : List UInt8) : (lineP l).length ≤ l.length := by
  unfold lineP
  have h1 := (cut_le (Lib.trimSuffix (Lib.trimSuffix l [10]) [13]) [35]).1
  have h2 := trims_le (Lib.trimSuffix l [10]) [13]
  have h3 := trims_le l [10]
  omega
theorem wrdP_ok (l x : List UInt8) (h : x ∈ wrdP l) : x ≠ [] ∧ x.length ≤ l.length := by
  unfold wrdP at h
  obtain ⟨y, hy, rfl⟩ := List.mem_map.1 h
  have h1 := pfields_ok _ _ _ hy
  have h2 := lineP_le l
  rw [show (⟨(lineP l).toArray⟩ : ByteArray).size = (lineP l).length from bsize _] at h1
  have h3 : y.data.toList.length = y.size := (Lib.size_eq y).symm
  exact ⟨fun e => by rw [e] at h3; simp at h3; omega, by omega⟩

theorem pblank (w : World) : PredAtRunes Tryz.prog 101 #[] blkP w := fun W x _ _ => by
  unfold FnGives
  have : Calls Tryz.prog 101 #[.int .i32 (x : Int)] W fun e w' => e = .returned (.bool (blkP x)) ∧ w' = W := by
    have hb : blkP x = (((x : Int) == 32) || ((x : Int) == 9)) := by
      unfold blkP
      congr 1
      · by_cases h : x = 32
        · subst h; rfl
        · rw [beq_eq_false_iff_ne.2 h, beq_eq_false_iff_ne.2 (by omega)]
      · by_cases h : x = 9
        · subst h; rfl
        · rw [beq_eq_false_iff_ne.2 h, beq_eq_false_iff_ne.2 (by omega)]
    rw [hb]
    go_enter Tryz.func101, Tryz.ntmps101
    go_wp2
    all_goals go_ret
    all_goals simp [*]
  exact this.mono fun e w' ⟨h1, h2⟩ => ⟨h1, 0, h2⟩

set_option maxRecDepth 100000 in
set_option maxHeartbeats 2000000 in
theorem pwords (s : ByteArray) (w : World) (hs : s.size ≤ 1048576) (hE : PEnv w) :
    Calls Tryz.prog 55 #[.string s] w fun e w' => ∃ v, e = .returned v ∧ StrS v (wrdP s.data.toList) w' ∧ Below w.heap.size w w' := by
  obtain ⟨m, hm⟩ := hE.m
  have hln : s.data.toList.length = s.size := (Lib.size_eq s).symm
  have C1 := Lib.hid (Tryz.strings_TrimSuffix s ⟨#[10]⟩ w (by omega))
  have h1 := trims_le s.data.toList [10]
  have C2 := Lib.hid (Tryz.strings_TrimSuffix ⟨(Lib.trimSuffix s.data.toList [10]).toArray⟩ ⟨#[13]⟩ w (by rw [bsize]; omega))
  have h2 := trims_le (Lib.trimSuffix s.data.toList [10]) [13]
  have C3 := Lib.hid (Tryz.strings_Cut ⟨(Lib.trimSuffix (Lib.trimSuffix s.data.toList [10]) [13]).toArray⟩ ⟨#[35]⟩ m w (by rw [bsize]; omega) hm)
  have h3 := lineP_le s.data.toList
  have C4 := Lib.hid (fun W => Tryz.strings_FieldsFunc_runes 101 #[] (fun args w => enters_of Tryz.func101 (by kernel_rfl) rfl args w) blkP ⟨(lineP s.data.toList).toArray⟩ W (by rw [bsize]; omega) (pblank W))
  replace C3 : Hid (Calls Tryz.prog 99 #[.string ⟨(Lib.trimSuffix (Lib.trimSuffix s.data.toList [10]) [13]).toArray⟩, .string ⟨#[35]⟩] w fun e w' => e = .returned (.tuple #[.string ⟨(lineP s.data.toList).toArray⟩, .string ⟨(Lib.cut (Lib.trimSuffix (Lib.trimSuffix s.data.toList [10]) [13]) [35]).2.1.toArray⟩, .bool (Lib.cut (Lib.trimSuffix (Lib.trimSuffix s.data.toList [10]) [13]) [35]).2.2]) ∧ ∃ n, w' = w.drewN n) := C3
  have hfl : (Lib.goFieldsP blkP ⟨(lineP s.data.toList).toArray⟩).length ≤ 4611686018427387904 := by
    have := pfields_len blkP ⟨(lineP s.data.toList).toArray⟩
    rw [show (⟨(lineP s.data.toList).toArray⟩ : ByteArray).size = (lineP s.data.toList).length from bsize _] at this
    omega
  have HW : Hid (wrdP s.data.toList = (Lib.goFieldsP blkP ⟨(lineP s.data.toList).toArray⟩).map (·.data.toList)) := Lib.hid rfl
  generalize wrdP s.data.toList = WS at HW ⊢
  generalize Lib.goFieldsP blkP ⟨(lineP s.data.toList).toArray⟩ = FS at HW C4 hfl
  generalize (lineP s.data.toList) = L3 at C3 C4
  clear hE hm hln h1 h2 h3
  go_enter Tryz.func55, Tryz.ntmps55
  go_wp2_with fail
  refine C1.out.mono ?_
  rintro e w1 ⟨rfl, rfl⟩
  go_wp2_with fail
  refine C2.out.mono ?_
  rintro e w2 ⟨rfl, rfl⟩
  go_wp2_with fail
  refine C3.out.mono ?_
  rintro e w3 ⟨rfl, q, rfl⟩
  go_wp2_with fail
  refine (C4.out _).mono ?_
  rintro e w4 ⟨A, rfl, hA, hown, hb⟩
  go_wp2
  go_ret
  refine ⟨_, rfl, ⟨A, 0, FS.length, by rw [HW.out, List.length_map]; rfl, by rw [HW.out, List.length_map]; exact Nat.le_refl _, hfl, fun i x hx => ?_⟩, (below_drewN (Below.refl _ _) q).trans hb⟩
  rw [HW.out, List.getElem?_map] at hx
  obtain ⟨y, hy, rfl⟩ := Option.map_eq_some_iff.1 hx
  have := hown.cells (g := A) rfl i (.string y) (by simp [hy])
  rwa [Addr.add_lit] at this
end Go.Proofs.YtcfhblbmpbfoaaaGreatDoor
namespace Go.Proofs.YtcfhblbmpbfoaaaGreatDoor
open Go Go.RowKit Go.Kt Go.Kt.Rg Go.Maps

def PtV (ρ : Nat → Nat) (v : Value) (l : List Nat) (w : World) : Prop :=
  ∃ b off cap, v = .slice (some ⟨b, off, none⟩) l.length cap ∧ l.length ≤ cap ∧ cap ≤ 4611686018427387904 ∧ ρ b = 0 ∧ b < w.heap.size ∧ ∀ (i : Nat) (x : Nat), l[i]? = some x → w.cell? ⟨b, off + i, none⟩ = some (.int .i32 (x : Nat))
theorem PtV.keep {ρ : Nat → Nat} {v : Value} {l : List Nat} {X : Nat → Prop} {A B : World} (h : PtV ρ v l A) (hk : Keep X A B) (hX : ∀ b, X b → ρ b ≠ 0) : PtV ρ v l B := by
  obtain ⟨b, off, cap, rfl, h1, h2, h3, h4, h5⟩ := h
  exact ⟨b, off, cap, rfl, h1, h2, h3, Nat.lt_of_lt_of_le h4 hk.size, fun i x hx => hk.cell (h5 i x hx) (fun e => hX _ e h3)⟩
def DecM (ρ : Nat → Nat) (k B n : Nat) (d : Nat → Option (List Nat)) (w : World) : Prop :=
  ρ B = k ∧ ∃ vs : Nat → Option Value, MapG Tryz.prog 21 B n (ptF vs) w ∧ (∀ x, (vs x).isSome = (d x).isSome) ∧ ∀ x v l, vs x = some v → d x = some l → PtV ρ v l w
theorem DecM.keep {ρ : Nat → Nat} {k B n : Nat} {d : Nat → Option (List Nat)} {X : Nat → Prop} {A C : World} (h : DecM ρ k B n d A) (hk : Keep X A C) (hX : ∀ b, X b → ρ b ≠ k ∧ ρ b ≠ 0) : DecM ρ k B n d C := by
  obtain ⟨h0, vs, h1, h2, h3⟩ := h
  exact ⟨h0, vs, h1.keep hk (fun e => (hX _ e).1 h0), h2, fun x v l hv hl => (h3 x v l hv hl).keep hk (fun b e => (hX b e).2)⟩
def PutOut (ρ : Nat → Nat) (k B n : Nat) (d : Nat → Option (List Nat)) (x : Nat) (t : List Nat) (w : World) (e : Ending) (w' : World) : Prop :=
  e = .returned (.int .i64 (if (d x).isSome then 13 else 0)) ∧ DecM ρ k B (n + 1) (if (d x).isSome then d else updN d x t) w' ∧ Keep (fun b => b = B) w w'

set_option maxRecDepth 100000 in
set_option maxHeartbeats 2000000 in
theorem pput (ρ : Nat → Nat) (k B n : Nat) (d : Nat → Option (List Nat)) (w : World) (hk : k ≠ 0) (hD : DecM ρ k B n d w) (x : Nat) (t : List Nat) (hx : x ≤ 16777215) (ht : t ≠ []) (hn : n ≤ 1048576) (v : Value) (hv : PtV ρ v (x :: t) w) :
    Calls Tryz.prog 140 #[.map (some B), v] w fun e w' => PutOut ρ k B n d x t w e w' := by
  obtain ⟨b, off, cap, rfl, h1, h2, hb0, hbl, hc⟩ := hv
  obtain ⟨m, hm⟩ : ∃ m, t.length = m := ⟨_, rfl⟩
  have hm1 : 1 ≤ m := by have := List.length_pos_iff.2 ht; omega
  rw [List.length_cons, hm] at h1 ⊢
  have c0 : w.cell? ⟨b, off, none⟩ = some (.int .i32 (x : Nat)) := hc 0 x rfl
  obtain ⟨hB, vs, hM, hs, hp⟩ := hD
  have hkey : keyOf Tryz.prog 21 (.int .i32 (x : Nat)) = some (.int .i32 (x : Nat)) := keyOf_int_mk Tryz.underlying21 (WalkArith.wf_i32 (n := (x : Int)) ⟨by omega, by omega⟩)
  have hne : b ≠ B := fun e => by rw [e, hB] at hb0; exact hk hb0
  have hlk := fun (W : World) (h : MapG Tryz.prog 21 B n (ptF vs) W) => h.look (int_keyed Tryz.underlying21) Tryz.underlying89 (z := .slice none 0 0) rfl hkey
  rw [ptF_at] at hlk
  have HSX := hs x
  have hl1 := hlk w hM
  have HO : Hid (∀ s : Bool, (vs x).isSome = s → (d x).isSome = s) := Lib.hid (fun s h => by rw [← hs x]; exact h)
  cases hvx : vs x with
  | some u =>
    rw [hvx] at hl1 HO
    have hl : (Instr.lookup 89 (.map (some B)) (.int .i32 (x : Nat)) true).run Tryz.prog w = .ok (.tuple #[u, .bool true]) w := hl1
    have HD1 := Lib.hid (⟨hB, vs, hM.mono (Nat.le_succ n), hs, hp⟩ : DecM ρ k B (n + 1) d w)
    clear hlk hl1 hp hs hM hc h2 hkey HSX hvx hbl
    go_enter Tryz.func140, Tryz.ntmps140
    go_wp2
    go_ret
    unfold PutOut
    rw [HO.out true rfl]
    exact ⟨rfl, HD1.out, Keep.refl _ _⟩
  | none =>
    rw [hvx] at hl1 HO
    have hl : (Instr.lookup 89 (.map (some B)) (.int .i32 (x : Nat)) true).run Tryz.prog w = .ok (.tuple #[.slice none 0 0, .bool false]) w := hl1
    have hld : ∀ X : World, X = w.drew → (Instr.loadAt 21 (.pointer (some ⟨b, off, none⟩))).run Tryz.prog X = .ok (.int .i32 (x : Nat)) X := fun X h => by
      subst h
      have c1 : w.drew.cell? ⟨b, off, none⟩ = some (.int .i32 (x : Nat)) := c0
      go_simp
    have hix : ∀ X : World, (Instr.indexAt 22 (.slice (some ⟨b, off, none⟩) (m + 1) cap) (.int .i64 0)).run Tryz.prog X = .ok (.pointer (some ⟨b, off, none⟩)) X := fun X => by
      have q : ¬ (m : Int) + 1 ≤ 0 := by omega
      go_simp
    have hsl : ∀ X : World, (Instr.sliceAt 22 (.slice (some ⟨b, off, none⟩) (m + 1) cap) (some (.int .i64 1)) none none).run Tryz.prog X = .ok (.slice (some ⟨b, off + 1, none⟩) m (cap - 1)) X := fun X => by
      have q : (1 : Int) ≤ (m : Int) + 1 := by omega
      have q3 : ¬ cap = 1 := by omega
      have q2 : ((m : Int) + 1) ≤ cap := by omega
      go_simp
    obtain ⟨w2, hr2, hM2, hK2⟩ := (hM.keep (Keep.refl (fun _ => False) w).drew (fun h => h)).put (int_keyed Tryz.underlying21) Tryz.underlying89 (by unfold maxLen; omega) (val := .slice (some ⟨b, off + 1, none⟩) m (cap - 1)) hkey
    have hmu : ∀ X : World, X = w.drew → (Instr.mapUpdate 89 (.map (some B)) (.int .i32 (x : Nat)) (.slice (some ⟨b, off + 1, none⟩) m (cap - 1))).run Tryz.prog X = .ok () w2 := fun X h => by
      subst h
      exact hr2
    have HKW := Lib.hid (Keep.trans (Keep.refl (fun b => b = B) w).drew hK2)
    have HD1 : Hid (DecM ρ k B (n + 1) (updN d x t) w2) := Lib.hid (by
      refine ⟨hB, updN vs x (.slice (some ⟨b, off + 1, none⟩) m (cap - 1)), hM2.congr (fun kl hkl => ptF_put vs x _ kl hkl), fun y => ?_, fun y v l hv hl => ?_⟩
      · unfold updN
        by_cases e : y = x
        · rw [if_pos e, if_pos e]; rfl
        · rw [if_neg e, if_neg e]; exact hs y
      · unfold updN at hv hl
        by_cases e : y = x
        · rw [if_pos e] at hv hl
          cases hv; cases hl
          refine ⟨b, off + 1, cap - 1, by rw [hm], by omega, by omega, hb0, Nat.lt_of_lt_of_le hbl HKW.out.size, fun i z hz => ?_⟩
          have := hc (i + 1) z (by simpa using hz)
          rw [show off + 1 + i = off + (i + 1) by omega]
          exact HKW.out.cell this hne
        · rw [if_neg e] at hv hl
          exact (hp y v l hv hl).keep HKW.out (fun b' e2 => by rw [e2, hB]; exact hk))
    have HB := Lib.hid hB
    clear hlk hl1 hp hs hM hc h2 HSX hvx hkey hr2 hM2 hK2 hne hb0 hB hbl
    go_enter Tryz.func140, Tryz.ntmps140
    go_wp2_with fail
    obtain ⟨FF, hFF⟩ : ∃ FF : StoR, FF = ⟨w.drew, w2, 6, fun z => match z with | 0 => some (.map (some B)) | 1 => some (.slice (some ⟨b, off, none⟩) (m + 1) cap) | 2 => some (.pointer (some ⟨b, off, none⟩)) | 3 => some (.int .i32 (x : Nat)) | 4 => some (.slice (some ⟨b, off, none⟩) (m + 1) cap) | 5 => some (.slice (some ⟨b, off + 1, none⟩) m (cap - 1)) | _ => none⟩ := ⟨_, rfl⟩
    have H0 : StoR.S FF (fun _ => false) w.drew := by rw [hFF]; exact fun _ => rfl
    refine wp_region_done (StoR.S FF) (StoR.P FF) (by kernel_rfl) (by kernel_rfl) (by kernel_rfl) H0 ?hs ?hd
    case hs =>
      rw [hFF]
      refine DSteps.cons ?_ (DSteps.cons ?_ (DSteps.cons ?_ (DSteps.cons ?_ (DSteps.cons ?_ (DSteps.cons ?_ (DSteps.cons ?_ (DSteps.nil)))))))
      · intro D2 a X9 hDi hDa _ hX hL hd
        refine ⟨rfl, ?_⟩
        have e0 : a.eval (.tmp 0) = .map (some B) := hL.far 0 (by kernel_rfl)
        exact wp_value (exec_move rfl e0) ⟨_, rfl, hX.more, fun _ _ _ h => h, StoR.P.mk rfl (by simp)⟩
      · intro D2 a X9 hDi hDa _ hX hL hd
        refine ⟨rfl, ?_⟩
        have e0 : a.eval (.tmp 1) = .slice (some ⟨b, off, none⟩) (m + 1) cap := hL.far 1 (by kernel_rfl)
        exact wp_value (exec_move rfl e0) ⟨_, rfl, hX.more, fun _ _ _ h => h, StoR.P.mk rfl (by simp)⟩
      · intro D2 a X9 hDi hDa _ hX hL hd
        refine ⟨rfl, ?_⟩
        have e0 : a.eval (.tmp 17) = .slice (some ⟨b, off, none⟩) (m + 1) cap := (hd 1 17 (by kernel_rfl) (by kernel_rfl)).is rfl
        exact wp_value (exec_indexAddr rfl e0 rfl (hix X9)) ⟨_, rfl, hX.more, fun _ _ _ h => h, StoR.P.mk rfl (by simp)⟩
      · intro D2 a X9 hDi hDa _ hX hL hd
        refine ⟨rfl, ?_⟩
        have e0 : a.eval (.tmp 18) = .pointer (some ⟨b, off, none⟩) := (hd 2 18 (by kernel_rfl) (by kernel_rfl)).is rfl
        exact wp_value (exec_load rfl e0 (hld X9 (hX (hDa 6 (by kernel_rfl))))) ⟨_, rfl, hX.more, fun _ _ _ h => h, StoR.P.mk rfl (by simp)⟩
      · intro D2 a X9 hDi hDa _ hX hL hd
        refine ⟨rfl, ?_⟩
        have e0 : a.eval (.tmp 1) = .slice (some ⟨b, off, none⟩) (m + 1) cap := hL.far 1 (by kernel_rfl)
        exact wp_value (exec_move rfl e0) ⟨_, rfl, hX.more, fun _ _ _ h => h, StoR.P.mk rfl (by simp)⟩
      · intro D2 a X9 hDi hDa _ hX hL hd
        refine ⟨rfl, ?_⟩
        have e0 : a.eval (.tmp 20) = .slice (some ⟨b, off, none⟩) (m + 1) cap := (hd 4 20 (by kernel_rfl) (by kernel_rfl)).is rfl
        exact wp_value (exec_slice rfl e0 rfl rfl rfl (hsl X9)) ⟨_, rfl, hX.more, fun _ _ _ h => h, StoR.P.mk rfl (by simp)⟩
      · intro D2 a X9 hDi hDa _ hX hL hd
        refine ⟨rfl, ?_⟩
        have e0 : a.eval (.tmp 16) = .map (some B) := (hd 0 16 (by kernel_rfl) (by kernel_rfl)).is rfl
        have e1 : a.eval (.tmp 19) = .int .i32 (x : Nat) := (hd 3 19 (by kernel_rfl) (by kernel_rfl)).is rfl
        have e2 : a.eval (.tmp 21) = .slice (some ⟨b, off + 1, none⟩) m (cap - 1) := (hd 5 21 (by kernel_rfl) (by kernel_rfl)).is rfl
        exact wp_skipped (exec_mapUpdate rfl e0 e1 e2 (hmu X9 (hX hDi))) ⟨undef, rfl, StoR.S.store, fun k2 u hj h => h.store (fun e => by subst e; rw [hDi] at hj; cases hj), StoR.P.last rfl rfl⟩
    case hd =>
      intro D2 a X9 hAll hX hL hP hE
      obtain ⟨_, hp⟩ := hE 6 (by decide)
      rw [hFF] at hp
      have hX9 : X9 = w2 := hp.2 rfl
      obtain ⟨f, ha, hf⟩ := hL.out [16, 17, 18, 19, 20, 21] rfl
      clear hf hAll hP hX hL hE hp hFF H0 hix hld hsl hmu
      simp only [List.foldl_cons, List.foldl_nil, List.setIfInBounds_toArray, List.set_cons_zero, List.set_cons_succ] at ha
      subst ha
      subst hX9
      clear c0 hl
      go_wp2
      go_ret
      unfold PutOut
      rw [HO.out false rfl]
      exact ⟨rfl, HD1.out, HKW.out⟩
end Go.Proofs.YtcfhblbmpbfoaaaGreatDoor
namespace Go.Proofs.YtcfhblbmpbfoaaaGreatDoor
open Go Go.RowKit Go.Kt Go.Kt.Rg Go.Maps

structure RdS where
  cs : List (Nat × Nat × Int)
  ks : List (Nat × Nat × Int)
  ds : Nat → Option (List Nat)
  fs : Nat → Option (List Nat)
  ls : Nat → Option Nat
  le : Nat → Option Int
structure RdB where
  g : Nat
  bs : Nat
  bd : Nat
  bf : Nat
  bl : Nat
  bn : Nat
def rwE (l : List (Nat × Nat × Int)) : List Value := l.flatMap fun r => [.int .i32 r.1, .int .i32 r.2.1, .int .i64 r.2.2]
theorem rwE_snoc (l : List (Nat × Nat × Int)) (r : Nat × Nat × Int) : rwE (l ++ [r]) = rwE l ++ [.int .i32 r.1, .int .i32 r.2.1, .int .i64 r.2.2] := by simp [rwE]
def cellsR (R : RdB) (line : Nat) (cv kv : Value) : Array Value :=
  #[.map (some R.bs), .int .i64 line, cv, kv, .map (some R.bd), .map (some R.bf), .map (some R.bl), .map (some R.bn)]
def saysV (g f : Nat) : Value := .func (.func f) #[.pointer (some ⟨g, 0, none⟩)] #[]
def saysF (g : Nat) : Lit → Option Value
  | .string b => if b = [99, 108, 97, 115, 115] then some (saysV g 92) else if b = [107, 105, 110, 100] then some (saysV g 93) else
      if b = [102, 111, 108, 100] then some (saysV g 94) else if b = [100, 101, 99, 111, 109, 112] then some (saysV g 95) else none
  | _ => none
def lsV (f : Nat → Option Nat) : Nat → Option Value := fun x => (f x).map fun m => .int .i64 (m : Nat)
def leV (f : Nat → Option Int) : Nat → Option Value := fun x => (f x).map fun m => .int .i64 m

theorem PtV.role {ρ ρ' : Nat → Nat} {v : Value} {l : List Nat} {w : World} (h : PtV ρ v l w) (e : ∀ b, b < w.heap.size → ρ' b = ρ b) : PtV ρ' v l w := by
  obtain ⟨b, off, cap, rfl, h1, h2, h3, h4, h5⟩ := h
  exact ⟨b, off, cap, rfl, h1, h2, (e b h4).trans h3, h4, h5⟩
theorem DecM.role {ρ ρ' : Nat → Nat} {k B n : Nat} {d : Nat → Option (List Nat)} {w : World} (h : DecM ρ k B n d w) (e : ∀ b, b < w.heap.size → ρ' b = ρ b) : DecM ρ' k B n d w := by
  obtain ⟨h0, vs, h1, h2, h3⟩ := h
  exact ⟨(e B h1.lt).trans h0, vs, h1, h2, fun x v l hv hl => (h3 x v l hv hl).role e⟩
theorem own_role {ρ ρ' : Nat → Nat} {k : Nat} {E : TypeId} {sz n : Nat} {v : Value} {xs : List Value} {w : World} (h : OwnS (fun b => ρ b = k) E sz v n xs w) (e : ∀ b, b < w.heap.size → ρ' b = ρ b) : OwnS (fun b => ρ' b = k) E sz v n xs w :=
  ⟨h.1, fun b hb => (e b (h.1.lt b hb).2).trans (h.2 b hb)⟩
structure RdW (B0 : Nat) (ρ : Nat → Nat) (R : RdB) (line n m : Nat) (S : RdS) (cv kv : Value) (w : World) : Prop where
  hr : ∀ b, ρ b ≠ 0 → B0 ≤ b
  hB : B0 ≤ w.heap.size
  g : ρ R.g = 1
  cell : w.heap[R.g]? = some (.cells (cellsR R line cv kv) 92 (0, 0))
  c : OwnS (fun b => ρ b = 2) 160 3 cv S.cs.length (rwE S.cs) w
  k : OwnS (fun b => ρ b = 3) 160 3 kv S.ks.length (rwE S.ks) w
  d : DecM ρ 4 R.bd n S.ds w
  f : DecM ρ 5 R.bf n S.fs w
  l : ρ R.bl = 6 ∧ MapG Tryz.prog 21 R.bl n (ptF (lsV S.ls)) w
  e : ρ R.bn = 7 ∧ MapG Tryz.prog 21 R.bn m (ptF (leV S.le)) w
  s : ρ R.bs = 8 ∧ MapG Tryz.prog 9 R.bs 4 (saysF R.g) w
variable {B0 : Nat} {ρ : Nat → Nat} {R : RdB} {line n m : Nat} {S : RdS} {cv kv : Value} {w w' : World}
theorem RdW.gl (h : RdW B0 ρ R line n m S cv kv w) : R.g < w.heap.size := (Array.getElem?_eq_some_iff.1 h.cell).1
theorem RdW.role {ρ' : Nat → Nat} (h : RdW B0 ρ R line n m S cv kv w) (e : ∀ b, b < w.heap.size → ρ' b = ρ b) (h0 : ∀ b, w.heap.size ≤ b → ρ' b ≠ 0 → B0 ≤ b) : RdW B0 ρ' R line n m S cv kv w where
  hr b hb := by
    by_cases h1 : b < w.heap.size
    · exact h.hr b (by rw [← e b h1]; exact hb)
    · exact h0 b (by omega) hb
  hB := h.hB
  g := (e _ h.gl).trans h.g
  cell := h.cell
  c := own_role h.c e
  k := own_role h.k e
  d := h.d.role e
  f := h.f.role e
  l := ⟨(e _ h.l.2.lt).trans h.l.1, h.l.2⟩
  e := ⟨(e _ h.e.2.lt).trans h.e.1, h.e.2⟩
  s := ⟨(e _ h.s.2.lt).trans h.s.1, h.s.2⟩
def moreR (w : World) (ρ : Nat → Nat) (k : Nat) : Nat → Nat := fun b => if b < w.heap.size then ρ b else k
theorem moreR_old {k : Nat} (b : Nat) (h : b < w.heap.size) : moreR w ρ k b = ρ b := if_pos h
theorem moreR_new {k : Nat} (b : Nat) (h : w.heap.size ≤ b) : moreR w ρ k b = k := if_neg (by omega)
theorem RdW.role_more (h : RdW B0 ρ R line n m S cv kv w) (k : Nat) : RdW B0 (moreR w ρ k) R line n m S cv kv w :=
  h.role (fun b hb => moreR_old b hb) (fun _ hb _ => Nat.le_trans h.hB hb)
theorem RdW.keep {X : Nat → Prop} (h : RdW B0 ρ R line n m S cv kv w) (hk : Keep X w w') (hX : ∀ b, ¬ X b) : RdW B0 ρ R line n m S cv kv w' where
  hr := h.hr
  hB := Nat.le_trans h.hB hk.size
  g := h.g
  cell := hk.heap h.cell (hX _)
  c := h.c.keep hk (fun b hb => (hX b hb).elim)
  k := h.k.keep hk (fun b hb => (hX b hb).elim)
  d := h.d.keep hk (fun b hb => (hX b hb).elim)
  f := h.f.keep hk (fun b hb => (hX b hb).elim)
  l := ⟨h.l.1, h.l.2.keep hk (hX _)⟩
  e := ⟨h.e.1, h.e.2.keep hk (hX _)⟩
  s := ⟨h.s.1, h.s.2.keep hk (hX _)⟩
theorem RdW.below (h : RdW B0 ρ R line n m S cv kv w) (hb : Below w.heap.size w w') : RdW B0 ρ R line n m S cv kv w' := h.keep (X := fun _ => False) (Keep.of_all hb) (fun _ h => h)
theorem RdW.newc (h : RdW B0 ρ R line n m S cv kv w) {v' : Value} {cs' : List (Nat × Nat × Int)} (hk : Keep (fun b => b = R.g ∨ cv.ownBlock = some b) w w') (hc : w'.heap[R.g]? = some (.cells (cellsR R line v' kv) 92 (0, 0)))
    (ho : OwnS (fun b => (cv.ownBlock = some b ∨ w.heap.size ≤ b) ∧ b ≠ R.g) 160 3 v' cs'.length (rwE cs') w') : RdW B0 (moreR w ρ 2) R line n m { S with cs := cs' } v' kv w' := by
  have H := h.role_more 2
  have hX : ∀ b, (b = R.g ∨ cv.ownBlock = some b) → moreR w ρ 2 b = 1 ∨ moreR w ρ 2 b = 2 := fun b hb => by
    rcases hb with rfl | hb
    · exact .inl H.g
    · exact .inr (H.c.2 b hb)
  exact {
    hr := H.hr, hB := Nat.le_trans h.hB hk.size, g := H.g, cell := hc
    c := ho.weaken (fun b hb => by
      rcases hb.1 with h1 | h1
      · exact H.c.2 b h1
      · exact moreR_new b h1)
    k := H.k.keep hk (fun b hb h3 => by have := hX b hb; omega)
    d := H.d.keep hk (fun b hb => by have := hX b hb; omega)
    f := H.f.keep hk (fun b hb => by have := hX b hb; omega)
    l := ⟨H.l.1, H.l.2.keep hk (fun hb => by have := hX _ hb; have := H.l.1; omega)⟩
    e := ⟨H.e.1, H.e.2.keep hk (fun hb => by have := hX _ hb; have := H.e.1; omega)⟩
    s := ⟨H.s.1, H.s.2.keep hk (fun hb => by have := hX _ hb; have := H.s.1; omega)⟩ }
theorem RdW.newk (h : RdW B0 ρ R line n m S cv kv w) {v' : Value} {cs' : List (Nat × Nat × Int)} (hk : Keep (fun b => b = R.g ∨ kv.ownBlock = some b) w w') (hc : w'.heap[R.g]? = some (.cells (cellsR R line cv v') 92 (0, 0)))
    (ho : OwnS (fun b => (kv.ownBlock = some b ∨ w.heap.size ≤ b) ∧ b ≠ R.g) 160 3 v' cs'.length (rwE cs') w') : RdW B0 (moreR w ρ 3) R line n m { S with ks := cs' } cv v' w' := by
  have H := h.role_more 3
  have hX : ∀ b, (b = R.g ∨ kv.ownBlock = some b) → moreR w ρ 3 b = 1 ∨ moreR w ρ 3 b = 3 := fun b hb => by
    rcases hb with rfl | hb
    · exact .inl H.g
    · exact .inr (H.k.2 b hb)
  exact {
    hr := H.hr, hB := Nat.le_trans h.hB hk.size, g := H.g, cell := hc
    k := ho.weaken (fun b hb => by
      rcases hb.1 with h1 | h1
      · exact H.k.2 b h1
      · exact moreR_new b h1)
    c := H.c.keep hk (fun b hb h3 => by have := hX b hb; omega)
    d := H.d.keep hk (fun b hb => by have := hX b hb; omega)
    f := H.f.keep hk (fun b hb => by have := hX b hb; omega)
    l := ⟨H.l.1, H.l.2.keep hk (fun hb => by have := hX _ hb; have := H.l.1; omega)⟩
    e := ⟨H.e.1, H.e.2.keep hk (fun hb => by have := hX _ hb; have := H.e.1; omega)⟩
    s := ⟨H.s.1, H.s.2.keep hk (fun hb => by have := hX _ hb; have := H.s.1; omega)⟩ }
def RdOut (B0 : Nat) (ρ : Nat → Nat) (R : RdB) (line n m no : Nat) (E : RdS) (w : World) (e : Ending) (w' : World) : Prop :=
  e = .returned (.int .i64 (no : Nat)) ∧ Keep (fun b => ρ b ≠ 0 ∧ ρ b ≠ 9) w w' ∧ ∃ ρ' S' cv' kv', RdW B0 ρ' R line n m S' cv' kv' w' ∧ (∀ b, b < w.heap.size → ρ' b = ρ b) ∧ (no = 0 → S' = E)
end Go.Proofs.YtcfhblbmpbfoaaaGreatDoor
