/- CellsWhole: its walk. -/
import Derived.Test.YthhepebkfokddaaGreatDoorGx26
import Derived.Test.YthhepebkfokddaaGreatDoorAgx
import Derived.Test.YthhepebkfokddaaGreatDoorGx25
import Derived.Test.YthhepebkfokddaaGreatDoorGx15
import Derived.Deep.RegionWith
namespace Go.Proofs.YthhepebkfokddaaGreatDoor
open Go Go.RowKit Go.Kt Go.Kt.Rg Go.Maps
theorem make_row (W : World) (n : Nat) (hn : n ≤ 5000) :
 (Instr.makeSlice 34 (.int .i64 (n : Int)) (.int .i64 (n : Int))).run Tryz.prog W = .ok (.slice (some ⟨W.heap.size, 0, none⟩) n n) (W.alloc (.cells (madeCells #[.bool false] n) 4)) := by
 obtain ⟨i, hi, hz, hs1, hb1⟩ := info_parts tinfo4
 have := run_makeSlice W 34 4 i (.bool false) Tryz.underlying34 hi hz .i64 .i64 (n : Int) (n : Int) (by omega) (Int.le_refl _) (by rw [hs1]; omega) (by rw [hb1]; omega) (by omega)
 rw [hs1] at this
 simpa [Value.cells] using this
theorem plc_new {W : World} {s : ByteArray} {m : Nat} (h : W.heap[m]? = some (.cells (madeCells #[.bool false] (s.size + 1)) 4 (0, 0))) : Plc m s (fun _ => false) W :=
 ⟨_, h, fun i hi => by simp [madeCells, Nat.mod_one, show i < s.size + 1 by omega]⟩
theorem PrR.keepE {W W' : World} {v : Value} {L : List (Nat × Nat)} {s : ByteArray} {m : Nat} {p : Nat → Bool} (h : PrR W v L) (hk : Keep (fun b => b = m) W W') (hp : Plc m s p W) : PrR W' v L := by
 obtain ⟨ao, cp, rfl, h⟩ := h
 refine ⟨ao, cp, rfl, ?_⟩
 rcases h with h | ⟨g, e, h⟩
 ·exact .inl h
 ·by_cases hL : L = []
  ·exact .inl hL
  ·obtain ⟨x, r, hx⟩ := List.exists_cons_of_ne_nil hL
   have hg : g ≠ m := fun e9 => by
    subst e9
    have h1 := (h 0 x (by rw [hx]; rfl)).1
    have h2 := hp.cell (i := 0) (Nat.zero_le _)
    rw [Nat.zero_mul, h2] at h1
    cases h1
   exact .inr ⟨g, e, fun i y hy => ⟨hk.cell (h i y hy).1 hg, hk.cell (h i y hy).2 hg⟩⟩
def unB (s : ByteArray) (k : Nat) (j : Nat) : Bool := j == s.size || decide (j ∈ (PL s).take k)
theorem unB_succ (s : ByteArray) (k : Nat) (h : k < (units s).length) (j : Nat) : (unB s k j || j == pos s k) = unB s (k + 1) j := by
 obtain ⟨hn, e⟩ := pos_in s k h
 unfold unB
 rw [List.take_add_one, List.getElem?_eq_getElem hn, ← e]
 simp only [Option.toList_some, List.mem_append, List.mem_singleton, Bool.or_assoc]
 congr 1
 by_cases h1 : j ∈ (PL s).take k <;> by_cases h2 : j = pos s k <;> simp [h1, h2]
theorem unB_all (s : ByteArray) (k : Nat) (h : (units s).length ≤ k) (j : Nat) (hj : j ∈ PL s) : unB s k j = true := by
 unfold unB
 rw [List.take_of_length_le (by rw [PL_len]; exact h)]
 simp [hj]
theorem cenB_take (l : List (Nat × Nat)) (k : Nat) (c : Nat × Nat) (h : l[k]? = some c) (j : Nat) : ((cenB (l.take k) j || j == c.1) || j == c.2) = cenB (l.take (k + 1)) j := by
 unfold cenB
 rw [List.take_add_one, h]
 simp only [Option.toList_some, List.any_append, List.any_cons, List.any_nil, Bool.or_false, Bool.or_assoc]
 congr 1
 have hc : ∀ x y : Nat, (x == y) = (y == x) := fun x y => by rw [Bool.eq_iff_iff, beq_iff_eq, beq_iff_eq]; exact eq_comm
 rw [hc j c.1, hc j c.2]
theorem Chn.at {s : ByteArray} {a : Nat} {l : List (Nat × Nat)} {k : Nat} {c : Nat × Nat} (h : Chn s a (l.drop k)) (hc : l[k]? = some c) : c.1 = a ∧ a < c.2 ∧ c.2 ≤ s.size ∧ a ∈ PL s ∧ Chn s c.2 (l.drop (k + 1)) := by
 obtain ⟨hlt, he⟩ := List.getElem?_eq_some_iff.1 hc
 rw [List.drop_eq_getElem_cons hlt, he] at h
 exact h
set_option maxRecDepth 100000 in
set_option maxHeartbeats 4000000 in
theorem cellsWhole_c (f s : ByteArray) (w : World) (hEE : (PEnv w ∧ KTabX w) ∧ Lib.Utf8Tabs 3 4 w) :
 Calls Tryz.prog 5 #[.string f, .string s] w fun e w' => e = .returned (.bool true) ∧ Below w.heap.size w w' := by
 obtain ⟨hE, hT⟩ := hEE
 have CB := Lib.hid (cboth f w hE)
 have CW := Lib.hid (fun W (h : Below w.heap.size w W) => cworks W (hE.1.below h) (tabs_below hT (tabs_size hT) h))
 have HT := Lib.hid hT
 clear hT hE
 go_enter Tryz.func5, Tryz.ntmps5
 go_wp2_with fail
 refine CB.out.mono ?_
 rintro e w1 ⟨hb1, ⟨x, y, rfl⟩ | ⟨g, gx, line, S, L, X, cv, kv, fv, dv, B0, ρ, rfl, _, hW1, _, _⟩⟩
 ·have HB1 := Lib.hid hb1
  clear hb1
  go_wp2_with fail
  refine (CW.out w1 HB1.out).mono ?_
  rintro e w9 ⟨rfl, hb9⟩
  have HB9 := Lib.hid (HB1.out.trans (hb9.mono HB1.out.size))
  clear hb9
  go_wp2
  go_ret
  exact ⟨rfl, HB9.out⟩
 have HB1 := Lib.hid hb1
 have CW1 : Hid (∀ W, Below w1.heap.size w1 W → Calls Tryz.prog 8 #[] W fun e w' => e = .returned (.bool true) ∧ Below w.heap.size w w') := Lib.hid fun W h =>
  (CW.out W (hb1.trans (h.mono hb1.size))).mono fun e w' ⟨h1, h2⟩ => ⟨h1, (hb1.trans (h.mono hb1.size)).trans (h2.mono (hb1.trans (h.mono hb1.size)).size)⟩
 by_cases hs : 4096 < s.size
 ·have hs1 : (4096 : Int) < s.size := by omega
  clear hs hW1 HT CW hb1
  go_wp2_with fail
  refine (CW1.out w1 (Below.refl _ _)).mono ?_
  rintro e w9 ⟨rfl, hb9⟩
  have HB9 := Lib.hid hb9
  clear hb9
  go_wp2
  go_ret
  exact ⟨rfl, HB9.out⟩
 have hs1 : ¬ (4096 : Int) < s.size := by omega
 have hs2 : (s.size : Int) ≤ 4096 := by omega
 have HT1 : Hid (Lib.Utf8Tabs 3 4 w1) := Lib.hid (tabs_below HT.out (tabs_size HT.out) hb1)
 have HP1 := Lib.hid hW1
 have CE := Lib.hid (fun W (h : Below w1.heap.size w1 W) i => cEdge s i W (HP1.out.below h) (tabs_below HT1.out (tabs_size HT1.out) h) (by omega))
 have CC := Lib.hid (fun W (h : Below w1.heap.size w1 W) => cCount s W (HP1.out.below h) (tabs_below HT1.out (tabs_size HT1.out) h) (by omega))
 have hlen := celL_len S s
 have HCH := Lib.hid (celL_chn S s)
 have HED := Lib.hid (fun j hj => edge_ends S s j hj)
 have CIA := Lib.hid (fun bp bs W hc hq h9 hz9 => call_iter s bp bs w1 W hc hq HP1.out h9 hz9 HT1.out (by omega))
 have CIB := Lib.hid (fun bp bs W hc hq h9 hz9 => cback_iter s bp bs w1 W hc hq HP1.out h9 hz9 HT1.out (by omega))
 obtain ⟨C, hC⟩ : ∃ C, celL S s = C := ⟨_, rfl⟩
 rw [hC] at hlen HCH HED CC CIA CIB
 clear hW1 HT CW hb1 hC
 obtain ⟨m, hm⟩ : ∃ m, w1.heap.size = m := ⟨_, rfl⟩
 have MK := Lib.hid (fun W => make_row W (s.size + 1) (by omega))
 have mk1 := MK.out w1
 have mk2 := MK.out (w1.alloc (.cells (madeCells #[.bool false] (s.size + 1)) 4))
 rw [Int.natCast_add, Int.natCast_one] at mk1 mk2
 obtain ⟨W3, hW3⟩ : ∃ W3, (w1.alloc (.cells (madeCells #[.bool false] (s.size + 1)) 4)).alloc (.cells (madeCells #[.bool false] (s.size + 1)) 4) = W3 := ⟨_, rfl⟩
 have q3 : Plc (m + 1) s (fun _ => false) W3 := plc_new (by rw [← hW3]; exact alloc_at (by simp [hm]))
 have x3 := q3.cell (Nat.le_refl s.size)
 have f3 := q3.frozen s.size
 rw [← hW3] at x3 f3
 obtain ⟨W4, hW4⟩ : ∃ W4, (w1.alloc (.cells (madeCells #[.bool false] (s.size + 1)) 4)).alloc (.cells ((madeCells #[.bool false] (s.size + 1)).setIfInBounds s.size (.bool true)) 4) = W4 := ⟨_, rfl⟩
 have p4 : Plc m s (fun _ => false) W4 := plc_new (by rw [← hW4]; exact alloc_old (alloc_at hm.symm))
 have q4 : Plc (m + 1) s (unB s 0) W4 := by
  refine ⟨_, by rw [← hW4]; exact alloc_at (by simp [hm]), fun i hi => ?_⟩
  rw [Array.getElem?_setIfInBounds]
  have hsz : (madeCells #[.bool false] (s.size + 1)).size = s.size + 1 := by simp [madeCells]
  by_cases e : s.size = i
  ·subst e
   rw [if_pos rfl, if_pos (by rw [hsz]; omega)]
   simp [unB]
  ·rw [if_neg e]
   have : (i == s.size) = false := by rw [beq_eq_false_iff_ne]; exact fun h => e h.symm
   simp [madeCells, Nat.mod_one, show i < s.size + 1 by omega, unB, this]
 have hz4 : W4.heap.size = m + 2 := by rw [← hW4]; simp [hm]
 have hb4 : Below m w1 W4 := by rw [← hW4]; exact ((Below.refl m w1).alloc (by omega) _).alloc (by simp; omega) _
 have HW4 := Lib.hid hW4
 have H4 := Lib.hid (And.intro p4 (And.intro q4 (And.intro hz4 hb4)))
 clear q3 p4 q4 hz4 hb4 hW3 hW4
 rw [show w1.heap.size = m from hm] at mk1
 have hm1 : (w1.alloc (.cells (madeCells #[.bool false] (s.size + 1)) 4)).heap.size = m + 1 := by simp [hm]
 rw [hm1] at mk2
 go_wp2_with fail
 rw [HW4.out]
 clear x3 f3 mk1 mk2 hm1 MK
 have hul := units_len s
 go_loopw [10] (fun _ wr => ∃ k : Nat, k ≤ (units s).length ∧ Below m w1 wr ∧ wr.heap[m + 2]? = some (.stringIter s (pos s k)) ∧ Hid (Plc m s (fun _ => false) wr ∧ Plc (m + 1) s (unB s k) wr)) (fun _ wr => s.size - iterPos wr (m + 2))
 case atStart =>
  obtain ⟨p4, q4, hz4, hb4⟩ := H4.out
  have ka : Keep (fun _ => False) W4 (W4.alloc (.stringIter s 0)) := (Keep.refl _ _).alloc _
  exact ⟨0, Nat.zero_le _, hb4.trans (ka.below (by omega) (fun _ h => h.elim)), by rw [pos_zero]; exact alloc_at hz4.symm, Lib.hid ⟨p4.keep ka (fun h => h), q4.keep ka (fun h => h)⟩⟩
 case round =>
  obtain ⟨k, hk, hb, hi, HPQ⟩ := hrel
  have hlt : m + 2 < wr.heap.size := (Array.getElem?_eq_some_iff.1 hi).1
  by_cases hkl : k < (units s).length
  ·have hp := pos_lt s k hkl
   have hsu := pos_succ s k hkl
   have hst := (pos_step s k hkl).1
   have hpl := pos_le s (k + 1)
   obtain ⟨V, hV⟩ : ∃ V, wr.putObj (m + 2) (.stringIter s (pos s (k + 1))) = V := ⟨_, rfl⟩
   have kV : Keep (fun b => b = m + 2) wr V := by rw [← hV]; exact (Keep.refl (fun b => b = m + 2) wr).putObj (.inl rfl) _
   have hiV : V.heap[m + 2]? = some (.stringIter s (pos s (k + 1))) := by rw [← hV]; exact World.putObj_heap_same hlt
   have hnx : ∀ ty, (Instr.next (.pointer (some ⟨m + 2, 0, none⟩)) true ty).run Tryz.prog wr = .ok (.tuple #[.bool true, .int .i64 (pos s k), .int .i32 (Utf8.decode s (pos s k)).1]) V := fun ty => by
    rw [← hV, hsu]; exact run_next_str wr (m + 2) s (pos s k) ty hi hp
   have pV := HPQ.out.1.keep kV (by omega)
   have qV := HPQ.out.2.keep kV (by omega)
   have x0 := qV.cell (Nat.le_of_lt hp)
   have x1 := qV.frozen (pos s k)
   have kS : Keep (fun b => b = m + 1) V (V.setCell ⟨m + 1, pos s k, none⟩ (.bool true)) := Keep.setCell (X := fun b => b = m + 1) (p := ⟨m + 1, pos s k, none⟩) (Keep.refl _ _) rfl _
   have hbV : Below m w1 V := hb.trans (kV.below (by have := hb.size; omega) (fun b h => by omega))
   have hrel2 : ∃ j : Nat, j ≤ (units s).length ∧ Below m w1 (V.setCell ⟨m + 1, pos s k, none⟩ (.bool true)) ∧ (V.setCell ⟨m + 1, pos s k, none⟩ (.bool true)).heap[m + 2]? = some (.stringIter s (pos s j)) ∧ Hid (Plc m s (fun _ => false) (V.setCell ⟨m + 1, pos s k, none⟩ (.bool true)) ∧ Plc (m + 1) s (unB s j) (V.setCell ⟨m + 1, pos s k, none⟩ (.bool true))) :=
    ⟨k + 1, by omega, hbV.trans (kS.below (by have := hbV.size; omega) (fun b h => by omega)), kS.heap hiV (by omega), Lib.hid ⟨pV.keep kS (by omega), (qV.set (Nat.le_of_lt hp)).congr fun i _ => unB_succ s k hkl i⟩⟩
   have hmea : s.size - iterPos (V.setCell ⟨m + 1, pos s k, none⟩ (.bool true)) (m + 2) < s.size - iterPos wr (m + 2) := by
    rw [iterPos_eq hi, iterPos_eq (kS.heap hiV (by omega))]; omega
   have HR := Lib.hid hrel2
   have HM := Lib.hid hmea
   obtain ⟨i, hpi⟩ : ∃ i, pos s k = i := ⟨_, rfl⟩
   rw [hpi] at HR HM x0 x1 hnx hp
   have hp' : (i : Int) < s.size + 1 := by omega
   clear hrel2 hmea kV kS pV qV hV hiV hsu hst hpl hi hb hbV hk hpi hlt hul hkl CE CC HPQ CIA CIB hlen HED HCH
   go_wp2_with fail
   go_roundw
   case rel => exact HR.out
   case measure => exact HM.out
  ·have hke : pos s k = s.size := pos_end s k (by omega)
   have hnx : ∀ ty, (Instr.next (.pointer (some ⟨m + 2, 0, none⟩)) true ty).run Tryz.prog wr = .ok (.tuple #[.bool false]) wr := fun ty => run_next_str_end wr (m + 2) s (pos s k) ty hi (by omega)
   have HB := Lib.hid hb
   obtain ⟨p5, q5⟩ := HPQ.out
   have q5 : Plc (m + 1) s (fun j => unB s (units s).length j) wr := q5.congr fun j _ => by rw [show k = (units s).length by omega]
   have H5 := Lib.hid (And.intro p5 q5)
   clear hi hke hb hk hul hkl HPQ p5 q5 hlt
   have CA := Lib.hid (cAll_call g s wr)
   go_wp2_with fail
   refine CA.out.mono ?_
   rintro e V7 ⟨rfl, hV7⟩
   have hb7 : Below wr.heap.size wr V7 := by rw [← hV7]; exact ((Below.refl _ _).alloc (Nat.le_refl _) _).alloc (by simp) _
   have c1 : V7.heap[wr.heap.size]? = some (.cells #[.pointer (some ⟨g, 0, none⟩)] 22 (0, 0)) := by rw [← hV7]; exact alloc_old (alloc_at rfl)
   have c2 : V7.heap[wr.heap.size + 1]? = some (.cells #[.string s] 9 (0, 0)) := by rw [← hV7]; exact alloc_at (by simp)
   have hbs := HB.out.size
   have hb17 : Below m w1 V7 := HB.out.trans (hb7.mono (by omega))
   have HG := Lib.hid (cgathered C _ _ _ V7 V7 (enters_of Tryz.func30 (by kernel_rfl) rfl) (CIA.out (wr.heap.size) (wr.heap.size + 1) V7 (cell_one c2) (cell_one c1) (by rw [hm]; exact hb17.block) hb17.size) (fun b hb => by
    have h1 := (Array.getElem?_eq_some_iff.1 c1).1
    have h2 := (Array.getElem?_eq_some_iff.1 c2).1
    rcases hb with h | h | h <;> omega) (fun _ _ => rfl) (Nat.le_refl _) (by omega))
   have H7 := Lib.hid (And.intro hb7 hb17)
   clear hV7 c1 c2 hb7 hb17 hbs CIA CA
   go_wp2_with fail
   refine HG.out.mono ?_
   rintro e V8 ⟨v, rfl, hv, hb8⟩
   have hb78 : Below wr.heap.size wr V8 := H7.out.1.trans (hb8.mono H7.out.1.size)
   have hb18 : Below m w1 V8 := H7.out.2.trans (hb8.mono (by have := H7.out.2.size; omega))
   have p8 := H5.out.1.keep (X := fun _ => False) (.of_all hb78) (fun h => h)
   have q8 := H5.out.2.keep (X := fun _ => False) (.of_all hb78) (fun h => h)
   obtain ⟨ao, cp, rfl, hv9⟩ := hv
   have hv : PrR V8 (.slice ao C.length cp) C := ⟨ao, cp, rfl, hv9⟩
   have H8 := Lib.hid (And.intro hb18 (And.intro hv (And.intro p8 q8)))
   clear hb8 hb78 hb18 p8 q8 hv hv9 H7 H5 HB HG
   go_wp2_with fail
   go_loopw [11, 13] (fun a x wr => ∃ (k aa : Nat), k ≤ C.length ∧ x = .int .i64 k ∧ a = .int .i64 aa ∧ Hid (Chn s aa (C.drop k) ∧ Below m w1 wr ∧ PrR wr (.slice ao C.length cp) C ∧ Plc m s (fun j => cenB (C.take k) j) wr ∧ Plc (m + 1) s (fun j => unB s (units s).length j) wr)) (fun _ x _ => C.length - (RowKit.intOf x).toNat)
   case atStart => exact ⟨0, 0, Nat.zero_le _, rfl, rfl, Lib.hid ⟨HCH.out, H8.out.1, H8.out.2.1, H8.out.2.2.1.congr (fun _ _ => rfl), H8.out.2.2.2⟩⟩
   case round =>
    obtain ⟨k, aa, hk, rfl, rfl, HI⟩ := hrel
    by_cases hlt : k < C.length
    ·obtain ⟨c, hc⟩ : ∃ c, C[k]? = some c := ⟨_, List.getElem?_eq_getElem hlt⟩
     obtain ⟨hch, hbb, hpr, pE, pU⟩ := HI.out
     obtain ⟨e1, e2, e3, e4, e5⟩ := hch.at hc
     have haa : aa ≤ s.size := by omega
     have kS : Keep (fun b => b = m) wr (wr.setCell ⟨m, aa, none⟩ (.bool true)) := Keep.setCell (X := fun b => b = m) (p := ⟨m, aa, none⟩) (Keep.refl _ _) rfl _
     have hpr2 := hpr.keepE kS pE
     have pE2 := pE.set haa
     have kS2 : Keep (fun b => b = m) (wr.setCell ⟨m, aa, none⟩ (.bool true)) ((wr.setCell ⟨m, aa, none⟩ (.bool true)).setCell ⟨m, c.2, none⟩ (.bool true)) := Keep.setCell (X := fun b => b = m) (p := ⟨m, c.2, none⟩) (Keep.refl _ _) rfl _
     have hpr3 := hpr2.keepE kS2 pE2
     have pE3 := (pE2.set e3).congr (q := fun j => cenB (C.take (k + 1)) j) fun j _ => by rw [← cenB_take C k c hc j, e1]
     have pU3 := (pU.keep kS (by omega)).keep kS2 (by omega)
     have hb3 : Below m w1 ((wr.setCell ⟨m, aa, none⟩ (.bool true)).setCell ⟨m, c.2, none⟩ (.bool true)) := hbb.trans ((kS.trans kS2).below (by have := hbb.size; omega) (fun b h => by omega))
     have HR : Hid (Chn s c.2 (C.drop (k + 1)) ∧ Below m w1 ((wr.setCell ⟨m, aa, none⟩ (.bool true)).setCell ⟨m, c.2, none⟩ (.bool true)) ∧ PrR ((wr.setCell ⟨m, aa, none⟩ (.bool true)).setCell ⟨m, c.2, none⟩ (.bool true)) (.slice ao C.length cp) C ∧ Plc m s (fun j => cenB (C.take (k + 1)) j) ((wr.setCell ⟨m, aa, none⟩ (.bool true)).setCell ⟨m, c.2, none⟩ (.bool true)) ∧ Plc (m + 1) s (fun j => unB s (units s).length j) ((wr.setCell ⟨m, aa, none⟩ (.bool true)).setCell ⟨m, c.2, none⟩ (.bool true))) := Lib.hid ⟨e5, hb3, hpr3, pE3, pU3⟩
     obtain ⟨g1, rfl, k1⟩ : ∃ g, ao = some ⟨g, 0, none⟩ ∧ ∀ (i : Nat) (x : Nat × Nat), C[i]? = some x → wr.cell? ⟨g, i * 2, none⟩ = some (.int .i64 x.1) ∧ wr.cell? ⟨g, i * 2 + 1, none⟩ = some (.int .i64 x.2) := by
      obtain ⟨a9, c9, h9, h⟩ := hpr
      cases h9
      rcases h with h | h
      ·rw [h] at hc; simp at hc
      ·exact h
     obtain ⟨r1, r2⟩ := k1 k c hc
     have r3 : (wr.setCell ⟨m, aa, none⟩ (.bool true)).cell? ⟨g1, k * 2 + 1, none⟩ = some (.int .i64 c.2) := by
      obtain ⟨a9, c9, h9, h⟩ := hpr2
      cases h9
      rcases h with h | ⟨g9, h9, h⟩
      ·rw [h] at hc; simp at hc
      ·cases h9; exact (h k c hc).2
     have y0 := pE.cell haa
     have y1 := pE.frozen aa
     have y2 := pE2.cell e3
     have y3 := pE2.frozen c.2
     have u0 := pU.cell haa
     rw [unB_all s _ (Nat.le_refl _) aa e4] at u0
     obtain ⟨b0, hb0⟩ : ∃ b, cenB (C.take k) aa = b := ⟨_, rfl⟩
     obtain ⟨b2, hb2⟩ : ∃ b, (cenB (C.take k) c.2 || c.2 == aa) = b := ⟨_, rfl⟩
     rw [hb0] at y0
     try simp only at y2
     rw [hb2] at y2
     rw [e1] at r1
     obtain ⟨d, hd⟩ : ∃ d, c.2 = d := ⟨_, rfl⟩
     rw [hd] at r2 r3 y2 y3 e2 e3 HR
     have z1 : ¬ (d : Int) ≤ aa := by omega
     have z2 : ¬ (s.size : Int) < d := by omega
     have z3 : (aa : Int) < s.size + 1 := by omega
     have z4 : (d : Int) < s.size + 1 := by omega
     have z5 : (k : Int) < C.length := by omega
     have hlen' : (C.length : Int) ≤ 5000 := by omega
     clear hch hbb hpr pE pU e1 e4 e5 kS hpr2 pE2 kS2 hpr3 pE3 pU3 hb3 k1 hb0 hb2 hd hc CE CC CIB HCH HED HI H8 e2 e3 haa hk
     go_wp2_with fail
     go_roundw
     case rel => exact ⟨k + 1, d, by omega, by go_num, rfl, HR⟩
     case measure => simp [RowKit.intOf]; omega
    ·obtain rfl : k = C.length := by omega
     obtain ⟨hch, hbb, hpr, pE, pU⟩ := HI.out
     rw [List.drop_eq_nil_of_le (Nat.le_refl _)] at hch
     obtain rfl : aa = s.size := hch
     rw [List.take_length] at pE
     have H9 := Lib.hid (And.intro hbb (And.intro hpr pE))
     clear hbb hpr pE pU HI H8 hk hlt HCH
     go_wp2_with fail
     go_loopw [14] (fun x wz => ∃ k : Nat, k ≤ s.size + 1 ∧ x = .int .i64 k ∧ Hid (Below m w1 wz ∧ PrR wz (.slice ao C.length cp) C ∧ Plc m s (fun j => cenB C j) wz)) (fun x _ => s.size + 1 - (RowKit.intOf x).toNat)
     case atStart => exact ⟨0, Nat.zero_le _, rfl, H9⟩
     case round =>
      obtain ⟨k, hk, rfl, HI⟩ := hrel
      obtain ⟨hbb, hpr, pE⟩ := HI.out
      by_cases hks : k ≤ s.size
      ·have hks' : (k : Int) ≤ s.size := by omega
       have hks2 : (k : Int) < s.size + 1 := by omega
       have ed := HED.out k hks
       obtain ⟨bk, hbk⟩ : ∃ b, cenB C k = b := ⟨_, rfl⟩
       have x0 := pE.cell hks
       try simp only at x0
       rw [hbk] at x0
       have xd : wr.drew.cell? ⟨m, k, none⟩ = some (.bool bk) := x0
       have xx : (bk != bk) = false := by cases bk <;> rfl
       have CEk : Hid (Calls Tryz.prog 7 #[.pointer (some ⟨g, 0, none⟩), .string s, .int .i64 (k : Nat)] wr.drew fun e w' => e = .returned (.bool bk) ∧ Below wr.heap.size wr w' ∧ w'.cell? ⟨m, k, none⟩ = some (.bool bk)) := Lib.hid ((CE.out wr.drew (by rw [hm]; exact below_drewN hbb 1) (k : Int)).mono fun e w' h => by
        obtain ⟨h1, h2⟩ := h
        rw [ed, hbk] at h1
        have h3 : Below wr.heap.size wr w' := (below_drewN (Below.refl wr.heap.size wr) 1).trans h2
        exact ⟨h1, h3, (h3.cell (lt_of_cell x0)).trans x0⟩)
       have HQ : Hid (∀ V, Below wr.heap.size wr V → Below m w1 V ∧ PrR V (.slice ao C.length cp) C ∧ Plc m s (fun j => cenB C j) V) := Lib.hid fun V h => ⟨hbb.trans (h.mono (by have := hbb.size; omega)), hpr.below h, pE.keep (X := fun _ => False) (.of_all h) (fun h => h)⟩
       clear hbb hpr pE ed hbk HI CE CC CIB HED H9
       go_wp2_with fail
       go_region_with (go_at_call 7; refine CEk.out.mono ?_; rintro e w7 ⟨rfl, hb7, hx7⟩)
       all_goals
        have HB7 := Lib.hid (HQ.out w7 hb7)
        clear hb7 hx7 x0 xd
        go_wp2
        go_roundw
        case rel => exact ⟨k + 1, by omega, by go_num, HB7⟩
        case measure => simp [RowKit.intOf]; omega
      ·have hks' : ¬ (k : Int) ≤ s.size := by omega
       have CK := Lib.hid (cBack_call g s wr)
       have H10 := Lib.hid (And.intro hbb hpr)
       clear hbb hpr pE HI CE HED H9 hks hk
       go_wp2_with fail
       refine CK.out.mono ?_
       rintro e V1 ⟨rfl, hV1⟩
       have hb7 : Below wr.heap.size wr V1 := by rw [← hV1]; exact ((Below.refl _ _).alloc (Nat.le_refl _) _).alloc (by simp) _
       have c1 : V1.heap[wr.heap.size]? = some (.cells #[.pointer (some ⟨g, 0, none⟩)] 22 (0, 0)) := by rw [← hV1]; exact alloc_old (alloc_at rfl)
       have c2 : V1.heap[wr.heap.size + 1]? = some (.cells #[.string s] 9 (0, 0)) := by rw [← hV1]; exact alloc_at (by simp)
       have hbs := H10.out.1.size
       have hb17 : Below m w1 V1 := H10.out.1.trans (hb7.mono (by omega))
       have HG := Lib.hid (cgathered C.reverse _ _ _ V1 V1 (enters_of Tryz.func32 (by kernel_rfl) rfl) (CIB.out (wr.heap.size) (wr.heap.size + 1) V1 (cell_one c2) (cell_one c1) (by rw [hm]; exact hb17.block) hb17.size) (fun b hb => by
        have h1 := (Array.getElem?_eq_some_iff.1 c1).1
        have h2 := (Array.getElem?_eq_some_iff.1 c2).1
        rcases hb with h | h | h <;> omega) (fun _ _ => rfl) (Nat.le_refl _) (by rw [List.length_reverse]; omega))
       have H7 := Lib.hid (And.intro hb17 (H10.out.2.below hb7))
       clear hV1 c1 c2 hb7 hb17 hbs CIB CK H10
       go_wp2_with fail
       refine HG.out.mono ?_
       rintro e V2 ⟨v2, rfl, hv2, hb2⟩
       have H8 := Lib.hid (And.intro (H7.out.1.trans (hb2.mono (by have := H7.out.1.size; omega))) (H7.out.2.below hb2))
       have CT := Lib.hid (cturned v2 C.reverse V2 hv2 (by rw [List.length_reverse]; omega))
       clear hv2 hb2 H7 HG
       go_wp2_with fail
       refine CT.out.mono ?_
       rintro e V3 ⟨v3, rfl, hv3, hb3⟩
       rw [List.reverse_reverse] at hv3
       have H9 := Lib.hid (H8.out.1.trans (hb3.mono (by have := H8.out.1.size; omega)))
       have CS := Lib.hid (csame v3 (.slice ao C.length cp) C C V3 hv3 (H8.out.2.below hb3) (by omega) (by omega))
       rw [show decide (C = C) = true by simp] at CS
       clear hv3 hb3 H8 CT
       go_wp2_with fail
       refine CS.out.mono ?_
       rintro e V4 ⟨rfl, hd4⟩
       have H10 := Lib.hid (H9.out.trans (hd4.below.mono (by have := H9.out.size; omega)))
       clear hd4 H9 CS
       have CCC := Lib.hid (CC.out V4 (by rw [hm]; exact H10.out))
       clear CC
       go_wp2_with fail
       refine CCC.out.mono ?_
       rintro e V5 ⟨rfl, hb5⟩
       have H11 := Lib.hid (CW1.out V5 (by rw [hm]; exact H10.out.trans (hb5.mono (by have := H10.out.size; omega))))
       clear hb5 H10 CCC
       go_wp2_with fail
       refine H11.out.mono ?_
       rintro e V6 ⟨rfl, hb6⟩
       have HB9 := Lib.hid hb6
       clear hb6
       go_wp2
       go_ret
       exact ⟨rfl, HB9.out⟩
end Go.Proofs.YthhepebkfokddaaGreatDoor
