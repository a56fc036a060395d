/- props' law: asked: what is known of some points, by the program and the document. WRITTEN by wip/tools/gen_zp.py. -/
import Derived.Test.YtfpfpaaojdodnaaGreatDoorZo
import Derived.Test.YtfpfpaaojdodnaaGreatDoorZq
import Derived.Test.YtfpfpaaojdodnaaGreatDoorZh
import Derived.Test.YtfpfpaaojdodnaaGreatDoorUx
namespace Go.Proofs.YtfpfpaaojdodnaaGreatDoor
open Go Go.RowKit Go.Kt Go.Kt.Rg Go.Maps

theorem own_disj {Y : Nat → Prop} {e e' : TypeId} {s s' n m : Nat} {v u : Value} {xs ys : List Value} {A B : World} (h : OwnS Y e s v n xs A) (hu : OwnS (fun b => A.heap.size ≤ b) e' s' u m ys B) : (∀ b, u.ownBlock = some b → v.ownBlock ≠ some b) ∧ (∀ b, v.ownBlock = some b → u.ownBlock ≠ some b) :=
  ⟨fun b hb hv => by have := (h.1.lt b hv).2; have := hu.2 b hb; omega, fun b hv hb => by have := (h.1.lt b hv).2; have := hu.2 b hb; omega⟩
theorem ask_lt {a : Int} {n : Nat} (h0 : 0 ≤ a) (hn : 0 < n) : 0 ≤ a.tmod n ∧ a.tmod n < n := by
  rw [Int.tmod_eq_emod_of_nonneg h0]
  exact ⟨Int.emod_nonneg _ (by omega), Int.emod_lt_of_pos _ (by omega)⟩

theorem fld_lenZ {k : Nat} {S : RdS} (hS : RdOk k S) (r : Int) : (fldV S r).length ≤ 8 := by
  unfold fldV
  split
  · rename_i l h
    unfold atZ at h
    split at h
    · rw [toZ_len]; exact (hS.fs _ _ h).2.1.2
    · cases h
  · simp

set_option maxRecDepth 100000 in
set_option maxHeartbeats 4000000 in
theorem yasked {gp gx B0 k : Nat} {ρ : Nat → Nat} {X : XdS} {S : RdS} {L : List Nat} {cv kv fv dv : Value} (hX : XRel X S) (hS : RdOk k S) (hk : k ≤ 65536) (hlen : X.fl.length ≤ 65536 ∧ X.dl.length ≤ 65536) (hp : L.Pairwise (· < ·)) (hm : ∀ x, x ∈ L ↔ (S.ds x).isSome = true)
    (av : Value) (l : List Int) (w : World) (hPW : PrW gp S (mdOf S L) w) (hPX : PxW B0 ρ gx X cv kv fv dv w) (hA : SlA w av l) (hI : ∀ x ∈ l, I32 x) (hl : l.length ≤ 35184372087808) :
    Calls Tryz.prog 13 #[.pointer (some ⟨gp, 0, none⟩), .pointer (some ⟨gx, 0, none⟩), av] w fun e w' => e = .returned (.bool true) ∧ Below w.heap.size w w' := by
  have hlens := hX.lens hS
  have hdd : ∀ x l, S.ds x = some l → 1 ≤ l.length ∧ l.length ≤ 8 := fun x l h => (hS.ds x l h).2.1
  have hfd : ∀ x l, S.fs x = some l → 1 ≤ l.length ∧ l.length ≤ 8 := fun x l h => (hS.fs x l h).2.1
  have CD := Lib.hid (fun W (h : Below w.heap.size w W) r (hr : I32 r) => pdcpP W (hPW.below h) hdd r hr)
  have CF := Lib.hid (fun W (h : Below w.heap.size w W) r (hr : I32 r) => pfldP W (hPW.below h) hfd r hr)
  have CC := Lib.hid (fun W (h : Below w.heap.size w W) r => pclsP W (hPW.below h) r)
  have CK := Lib.hid (fun W (h : Below w.heap.size w W) r => pkndP W (hPW.below h) r)
  have CM := Lib.hid (fun W (h : Below w.heap.size w W) a b (ha : I32 a) (hb : I32 b) => pcmpP W (hPW.below h) a b ha hb)
  have XD : Hid (∀ W (_ : Below w.heap.size w W) r (_ : I32 r), Calls Tryz.prog 49 #[.pointer (some ⟨gx, 0, none⟩), .int .i32 r] W fun e w' => ∃ v, e = .returned v ∧ ZnO W.heap.size v (toZ (dcpV S r)) w' ∧ Below W.heap.size W w') := Lib.hid (fun W h r hr => by
    have h1 := ydecompO X.dl r W (hPX.below h).rp (hPX.below h).d.lf hr (by omega) (fun x hx => (hlens.2 x hx).1)
    rw [hX.dcpX] at h1
    exact h1)
  have XF : Hid (∀ W (_ : Below w.heap.size w W) r (_ : I32 r), Calls Tryz.prog 50 #[.pointer (some ⟨gx, 0, none⟩), .int .i32 r] W fun e w' => ∃ v, e = .returned v ∧ Sl .i32 w' v (fldV S r) ∧ Below W.heap.size W w') := Lib.hid (fun W h r hr => by
    have h1 := yfoldO X.fl r W (hPX.below h).rp (hPX.below h).f.lf hr (by omega) (fun t ht => by
      rw [of_fd, ← hX.fs] at ht
      unfold atZ at ht
      split at ht
      · have := (hfd _ t ht).2
        omega
      · cases ht)
    rw [hX.fld] at h1
    exact h1)
  have XC : Hid (∀ W (_ : Below w.heap.size w W) r (_ : I32 r), Calls Tryz.prog 51 #[.pointer (some ⟨gx, 0, none⟩), .int .i32 r] W fun e w' => e = .returned (.int .i64 (clsV S r)) ∧ Below W.heap.size W w') := Lib.hid (fun W h r hr => by
    have h1 := yclass r W (hPX.below h).rp hr ⟨by have := hlens.1.1; omega, by have := hlens.1.2; omega⟩
    rw [← hX.cs, xcls_eq hS] at h1
    exact h1)
  have XK : Hid (∀ W (_ : Below w.heap.size w W) r (_ : I32 r), Calls Tryz.prog 52 #[.pointer (some ⟨gx, 0, none⟩), .int .i32 r] W fun e w' => e = .returned (.int .i64 (kndV S r)) ∧ Below W.heap.size W w') := Lib.hid (fun W h r hr => by
    have h1 := ykindX r W (hPX.below h).rp hr ⟨by have := hlens.1.1; omega, by have := hlens.1.2; omega⟩
    rw [← hX.ks, xknd_eq hS] at h1
    exact h1)
  have XM : Hid (∀ W (_ : Below w.heap.size w W) a b (_ : I32 a), Calls Tryz.prog 15 #[.pointer (some ⟨gx, 0, none⟩), .int .i32 a, .int .i32 b] W fun e w' => e = .returned (.tuple #[.int .i32 ((cmpV (mdOf S L) a b).getD 0), .bool (cmpV (mdOf S L) a b).isSome]) ∧ Below W.heap.size W w') := Lib.hid (fun W h a b ha =>
    ycompose X.cs X.dl (mdOf S L) a b W (hPX.below h).rp (hPX.below h).d.lf ha (by omega) ⟨by have := hlens.1.1; omega, by have := hlens.1.2; omega⟩ (fun x hx => (hlens.2 x hx).2.2)
      (fun hc => mdOf_cls S hp (by rw [← hX.cs, xcls_eq hS] at hc; exact hc)) (fun hc o ho => hX.pair hp hm ho (by rw [← hX.cs, xcls_eq hS] at hc; exact hc)))
  have HSK := Lib.hid hS
  have HSL := Lib.hid (And.intro hI hl)
  have HA := Lib.hid hA
  obtain ⟨ao, cap, rfl, hv2⟩ := hA
  clear hlens hX hS hk hlen hp hm hPW hPX hI hdd hfd hv2
  obtain ⟨n, hn⟩ : ∃ n, l.length = n := ⟨_, rfl⟩
  rw [hn] at HA hl ⊢
  have HN := Lib.hid hn
  clear hn
  obtain ⟨w0, hw0⟩ : ∃ Y, w.alloc (.cells #[.slice none 0 0, .slice none 0 0, .slice none 0 0, .slice none 0 0, .slice none 0 0, .slice none 0 0, .slice none 0 0, .slice none 0 0, .slice none 0 0, .slice none 0 0, .slice none 0 0, .slice none 0 0, .slice none 0 0, .slice none 0 0, .slice none 0 0, .slice none 0 0, .slice none 0 0, .slice none 0 0, .slice none 0 0, .slice none 0 0, .slice none 0 0, .slice none 0 0, .slice none 0 0, .slice none 0 0] 118) = Y := ⟨_, rfl⟩
  have hk0 : BkZ w w.heap.size (.slice none 0 0) [] w0 := Bl.BookW.start w (by rw [← hw0]; rfl)
  have HW0 := Lib.hid hw0
  have HK0 := Lib.hid hk0
  clear hw0 hk0
  go_enter Tryz.func13, Tryz.ntmps13
  go_wp2_with fail
  rw [HW0.out]
  go_loopw [8] (fun z wr => ∃ (i : Nat) (sv : Value) (vs : List Value), z = .int .i64 i ∧ i ≤ n ∧ i ≤ 300 ∧ BkZ w w.heap.size sv vs wr ∧ vs.length = 4 * i ∧ (i = 0 → sv = .slice none 0 0)) (fun z _ => n - (RowKit.intOf z).toNat)
  case atStart => exact ⟨0, _, _, rfl, by omega, by omega, HK0.out, rfl, fun _ => rfl⟩
  case round =>
    obtain ⟨i, sv, vs, rfl, hi, hi3, hk, hvs, hs0⟩ := hrel
    by_cases hlt : i < n ∧ i < 300
    · have e1 : (i : Int) < n := by omega
      have e2 : (i : Int) < 300 := by omega
      have HVS : Hid (vs.length = 4 * i ∧ i < n ∧ i < 300) := Lib.hid ⟨hvs, hlt⟩
      obtain ⟨ad, rfl, hcl⟩ : ∃ ad, ao = some ad ∧ ∀ (i : Nat) x, l[i]? = some x → w.cell? (ad.add i) = some (.int .i32 x) := by
        obtain ⟨ao', cap', e, h⟩ := HA.out
        cases e
        rcases h with h | ⟨ad, e, h⟩
        · have h9 : l.length = 0 := by rw [h]; rfl
          omega
        · exact ⟨ad, e, h⟩
      obtain ⟨x, hx⟩ : ∃ x, l[i]? = some x := ⟨_, List.getElem?_eq_getElem (by rw [HN.out]; exact hlt.1)⟩
      obtain ⟨q0, q1⟩ := ask_lt (a := (i : Int) * 7 + 3) (n := n) (by omega) (by omega)
      obtain ⟨q, hq⟩ : ∃ q, ((i : Int) * 7 + 3).tmod n = q := ⟨_, rfl⟩
      rw [hq] at q0 q1
      obtain ⟨y, hy⟩ : ∃ y, l[q.toNat]? = some y := ⟨_, List.getElem?_eq_getElem (by rw [HN.out]; omega)⟩
      have HX : Hid (l[i]? = some x ∧ I32 x ∧ w.cell? (ad.add i) = some (.int .i32 x) ∧ I32 y ∧ w.cell? (ad.add q.toNat) = some (.int .i32 y) ∧ 0 ≤ q ∧ q < n ∧ ((i : Int) * 7 + 3).tmod n = q) := Lib.hid ⟨hx, HSL.out.1 x (List.mem_of_getElem? hx), hcl i x hx, HSL.out.1 y (List.mem_of_getElem? hy), hcl _ y hy, q0, q1, hq⟩
      have hcx2 := (hk.below.cell (lt_of_cell (hcl i x hx))).trans (hcl i x hx)
      have hk1 : IntKind.i64.wrap ((i : Int) + 1) = ((i + 1 : Nat) : Int) := by rw [IntWalk.i64_in _ (by omega)]; omega
      have hk7 : IntKind.i64.wrap ((i : Int) * 7) = (i : Int) * 7 := IntWalk.i64_in _ (by omega)
      have hk3 : IntKind.i64.wrap ((i : Int) * 7 + 3) = (i : Int) * 7 + 3 := IntWalk.i64_in _ (by omega)
      have hn0 : (n : Int) ≠ 0 := by omega
      have HK : Hid (BkZ w w.heap.size sv vs wr ∧ True) := Lib.hid ⟨hk, trivial⟩
      obtain ⟨D, hD⟩ : ∃ D, toZ (dcpV S x) = D := ⟨_, rfl⟩
      obtain ⟨Fz, hF⟩ : ∃ D, fldV S x = D := ⟨_, rfl⟩
      obtain ⟨cz, hcz⟩ : ∃ D, clsV S x = D := ⟨_, rfl⟩
      obtain ⟨kz, hkz⟩ : ∃ D, kndV S x = D := ⟨_, rfl⟩
      have HLN : Hid (D.length ≤ 1048576 ∧ Fz.length ≤ 8) := Lib.hid ⟨by rw [← hD, toZ_len]; exact dcp_len HSK.out x, by rw [← hF]; exact fld_lenZ HSK.out x⟩
      have HDD := Lib.hid hD
      have HFF := Lib.hid hF
      have HCC := Lib.hid hcz
      have HKK := Lib.hid hkz
      clear hx hy hcl hq q0 q1 hk hvs hs0 hlt hD hF hcz hkz
      have Ca := Lib.hid (CD.out wr HK.out.1.below x HX.out.2.1)
      rw [HDD.out] at Ca
      go_wp2_with fail
      refine Ca.out.mono ?_
      rintro e w1 ⟨⟨ar, ac, rfl, o⟩, hb⟩
      replace HK := Lib.hid (⟨HK.out.1.next hb, Bl.BookW.pend HK.out.1 HK.out.1.below.size o⟩ : BkZ w w.heap.size sv vs w1 ∧ PendZ w w.heap.size sv vs (.slice ar D.length ac) D.length (encZ D) w1)
      clear o hb
      have Cb := Lib.hid (CD.out w1 HK.out.1.below x HX.out.2.1)
      rw [HDD.out] at Cb
      go_wp2_with fail
      refine Cb.out.mono ?_
      rintro e w2 ⟨⟨br, bc, rfl, o⟩, hb⟩
      have Nab := Lib.hid (own_disj HK.out.2 o).1
      replace HK := Lib.hid (⟨HK.out.1.next hb, HK.out.2.next hb, Bl.BookW.pend HK.out.1 HK.out.1.below.size o⟩ : BkZ w w.heap.size sv vs w2 ∧ PendZ w w.heap.size sv vs (.slice ar D.length ac) D.length (encZ D) w2 ∧ PendZ w w.heap.size sv vs (.slice br D.length bc) D.length (encZ D) w2)
      clear o hb
      have Cc := Lib.hid (CF.out w2 HK.out.1.below x HX.out.2.1)
      rw [HFF.out] at Cc
      go_wp2_with fail
      refine Cc.out.mono ?_
      rintro e w3 ⟨⟨cr, cc, rfl, o⟩, hb⟩
      have Nac := Lib.hid (own_disj HK.out.2.1 o).1
      have Nbc := Lib.hid (own_disj HK.out.2.2 o).1
      replace HK := Lib.hid (⟨HK.out.1.next hb, HK.out.2.1.next hb, HK.out.2.2.next hb, Bl.BookW.pend HK.out.1 HK.out.1.below.size o⟩ : BkZ w w.heap.size sv vs w3 ∧ PendZ w w.heap.size sv vs (.slice ar D.length ac) D.length (encZ D) w3 ∧ PendZ w w.heap.size sv vs (.slice br D.length bc) D.length (encZ D) w3 ∧ PendZ w w.heap.size sv vs (.slice cr Fz.length cc) Fz.length (encZ Fz) w3)
      clear o hb
      have Cd := Lib.hid (CF.out w3 HK.out.1.below x HX.out.2.1)
      rw [HFF.out] at Cd
      go_wp2_with fail
      refine Cd.out.mono ?_
      rintro e w4 ⟨⟨dr, dc, rfl, o⟩, hb⟩
      have Nad := Lib.hid (own_disj HK.out.2.1 o).1
      have Nbd := Lib.hid (own_disj HK.out.2.2.1 o).1
      have Ncd := Lib.hid (own_disj HK.out.2.2.2 o).1
      replace HK := Lib.hid (⟨HK.out.1.next hb, HK.out.2.1.next hb, HK.out.2.2.1.next hb, HK.out.2.2.2.next hb, Bl.BookW.pend HK.out.1 HK.out.1.below.size o⟩ : BkZ w w.heap.size sv vs w4 ∧ PendZ w w.heap.size sv vs (.slice ar D.length ac) D.length (encZ D) w4 ∧ PendZ w w.heap.size sv vs (.slice br D.length bc) D.length (encZ D) w4 ∧ PendZ w w.heap.size sv vs (.slice cr Fz.length cc) Fz.length (encZ Fz) w4 ∧ PendZ w w.heap.size sv vs (.slice dr Fz.length dc) Fz.length (encZ Fz) w4)
      clear o hb
      have Cx := Lib.hid (XD.out w4 HK.out.1.below x HX.out.2.1)
      rw [HDD.out] at Cx
      go_wp2_with fail
      refine Cx.out.mono ?_
      rintro e w5 ⟨xv, rfl, o, hb⟩
      obtain ⟨xr, xc, rfl⟩ := own_slcB o
      have Nax := Lib.hid (own_disj HK.out.2.1 o).1
      have Nbx := Lib.hid (own_disj HK.out.2.2.1 o).1
      have Ncx := Lib.hid (own_disj HK.out.2.2.2.1 o).1
      have Ndx := Lib.hid (own_disj HK.out.2.2.2.2 o).1
      replace HK := Lib.hid (⟨HK.out.1.next hb, HK.out.2.1.next hb, HK.out.2.2.1.next hb, HK.out.2.2.2.1.next hb, HK.out.2.2.2.2.next hb, Bl.BookW.pend HK.out.1 HK.out.1.below.size o⟩ : BkZ w w.heap.size sv vs w5 ∧ PendZ w w.heap.size sv vs (.slice ar D.length ac) D.length (encZ D) w5 ∧ PendZ w w.heap.size sv vs (.slice br D.length bc) D.length (encZ D) w5 ∧ PendZ w w.heap.size sv vs (.slice cr Fz.length cc) Fz.length (encZ Fz) w5 ∧ PendZ w w.heap.size sv vs (.slice dr Fz.length dc) Fz.length (encZ Fz) w5 ∧ PendZ w w.heap.size sv vs (.slice xr D.length xc) D.length (encZ D) w5)
      clear o hb
      have Cy := Lib.hid (XF.out w5 HK.out.1.below x HX.out.2.1)
      rw [HFF.out] at Cy
      go_wp2_with fail
      refine Cy.out.mono ?_
      rintro e w6 ⟨yv, rfl, oy, hb⟩
      have HB := Lib.hid (Below.refl w6.heap.size w6)
      replace HK := Lib.hid (⟨⟨HK.out.1.next hb, HK.out.2.1.next hb, HK.out.2.2.1.next hb, HK.out.2.2.2.1.next hb, HK.out.2.2.2.2.1.next hb, HK.out.2.2.2.2.2.next hb⟩, oy⟩ : (BkZ w w.heap.size sv vs w6 ∧ PendZ w w.heap.size sv vs (.slice ar D.length ac) D.length (encZ D) w6 ∧ PendZ w w.heap.size sv vs (.slice br D.length bc) D.length (encZ D) w6 ∧ PendZ w w.heap.size sv vs (.slice cr Fz.length cc) Fz.length (encZ Fz) w6 ∧ PendZ w w.heap.size sv vs (.slice dr Fz.length dc) Fz.length (encZ Fz) w6 ∧ PendZ w w.heap.size sv vs (.slice xr D.length xc) D.length (encZ D) w6) ∧ Sl .i32 w6 yv Fz)
      clear oy hb
      have C1 := Lib.hid (CC.out w6 (HK.out.1.1.below.trans (HB.out.mono HK.out.1.1.below.size)) x)
      rw [HCC.out] at C1
      go_wp2_with fail
      refine C1.out.mono ?_
      rintro e w7 ⟨rfl, hb⟩
      replace HB := Lib.hid (HB.out.trans (hb.mono HB.out.size))
      clear hb C1
      have C1 := Lib.hid (XC.out w7 (HK.out.1.1.below.trans (HB.out.mono HK.out.1.1.below.size)) x HX.out.2.1)
      rw [HCC.out] at C1
      go_wp2_with fail
      refine C1.out.mono ?_
      rintro e w8 ⟨rfl, hb⟩
      replace HB := Lib.hid (HB.out.trans (hb.mono HB.out.size))
      clear hb C1
      have C1 := Lib.hid (CK.out w8 (HK.out.1.1.below.trans (HB.out.mono HK.out.1.1.below.size)) x)
      rw [HKK.out] at C1
      go_wp2_with fail
      refine C1.out.mono ?_
      rintro e w9 ⟨rfl, hb⟩
      replace HB := Lib.hid (HB.out.trans (hb.mono HB.out.size))
      clear hb C1
      have C1 := Lib.hid (XK.out w9 (HK.out.1.1.below.trans (HB.out.mono HK.out.1.1.below.size)) x HX.out.2.1)
      rw [HKK.out] at C1
      go_wp2_with fail
      refine C1.out.mono ?_
      rintro e w10 ⟨rfl, hb⟩
      replace HB := Lib.hid (HB.out.trans (hb.mono HB.out.size))
      clear hb C1
      have C1 := Lib.hid (sameRunes_any (.slice ar D.length ac) (.slice xr D.length xc) D D w10 ((own_sl HK.out.1.2.1).below HB.out) ((own_sl (HK.out.1.2.2.2.2.2)).below HB.out) (by have := HLN.out; omega) (by have := HLN.out; omega))
      go_wp2_with fail
      refine C1.out.mono ?_
      rintro e w11 ⟨he, hb⟩
      have he : e = .returned (.bool true) := by rw [he]; simp
      subst he
      replace HB := Lib.hid (HB.out.trans (hb.below.mono HB.out.size))
      clear hb C1
      have C1 := Lib.hid (sameRunes_any (.slice br D.length bc) (.slice xr D.length xc) D D w11 ((own_sl HK.out.1.2.2.1).below HB.out) ((own_sl (HK.out.1.2.2.2.2.2)).below HB.out) (by have := HLN.out; omega) (by have := HLN.out; omega))
      go_wp2_with fail
      refine C1.out.mono ?_
      rintro e w12 ⟨he, hb⟩
      have he : e = .returned (.bool true) := by rw [he]; simp
      subst he
      replace HB := Lib.hid (HB.out.trans (hb.below.mono HB.out.size))
      clear hb C1
      have C1 := Lib.hid (sameRunes_any (.slice cr Fz.length cc) yv Fz Fz w12 ((own_sl HK.out.1.2.2.2.1).below HB.out) (HK.out.2.below HB.out) (by have := HLN.out; omega) (by have := HLN.out; omega))
      go_wp2_with fail
      refine C1.out.mono ?_
      rintro e w13 ⟨he, hb⟩
      have he : e = .returned (.bool true) := by rw [he]; simp
      subst he
      replace HB := Lib.hid (HB.out.trans (hb.below.mono HB.out.size))
      clear hb C1
      have C1 := Lib.hid (sameRunes_any (.slice dr Fz.length dc) yv Fz Fz w13 ((own_sl HK.out.1.2.2.2.2.1).below HB.out) (HK.out.2.below HB.out) (by have := HLN.out; omega) (by have := HLN.out; omega))
      go_wp2_with fail
      refine C1.out.mono ?_
      rintro e w14 ⟨he, hb⟩
      have he : e = .returned (.bool true) := by rw [he]; simp
      subst he
      replace HB := Lib.hid (HB.out.trans (hb.below.mono HB.out.size))
      clear hb C1
      replace HK := Lib.hid (⟨HK.out.1.1.next HB.out, HK.out.1.2.1.next HB.out, HK.out.1.2.2.1.next HB.out, HK.out.1.2.2.2.1.next HB.out, HK.out.1.2.2.2.2.1.next HB.out, HK.out.1.2.2.2.2.2.next HB.out⟩ : BkZ w w.heap.size sv vs w14 ∧ PendZ w w.heap.size sv vs (.slice ar D.length ac) D.length (encZ D) w14 ∧ PendZ w w.heap.size sv vs (.slice br D.length bc) D.length (encZ D) w14 ∧ PendZ w w.heap.size sv vs (.slice cr Fz.length cc) Fz.length (encZ Fz) w14 ∧ PendZ w w.heap.size sv vs (.slice dr Fz.length dc) Fz.length (encZ Fz) w14 ∧ PendZ w w.heap.size sv vs (.slice xr D.length xc) D.length (encZ D) w14)
      clear HB
      have C1 := Lib.hid (bookPut_any w w14 w.heap.size D.length ac ar _ _ _ HK.out.1 HK.out.2.1 (by have := HLN.out; omega) (by have := HVS.out; (try simp only [List.length_append, List.length_cons, List.length_nil]); omega))
      go_wp2_with fail
      refine C1.out.mono ?_
      rintro e w15 ⟨rfl, sv1, hk, hp⟩
      replace HK := Lib.hid (⟨hk, hp HK.out.2.2.1 Nab.out, hp HK.out.2.2.2.1 Nac.out, hp HK.out.2.2.2.2.1 Nad.out, hp HK.out.2.2.2.2.2 Nax.out⟩ : BkZ w w.heap.size sv1 (vs ++ [.slice ar D.length ac]) w15 ∧ PendZ w w.heap.size sv1 (vs ++ [.slice ar D.length ac]) (.slice br D.length bc) D.length (encZ D) w15 ∧ PendZ w w.heap.size sv1 (vs ++ [.slice ar D.length ac]) (.slice cr Fz.length cc) Fz.length (encZ Fz) w15 ∧ PendZ w w.heap.size sv1 (vs ++ [.slice ar D.length ac]) (.slice dr Fz.length dc) Fz.length (encZ Fz) w15 ∧ PendZ w w.heap.size sv1 (vs ++ [.slice ar D.length ac]) (.slice xr D.length xc) D.length (encZ D) w15)
      clear hk hp C1
      have C1 := Lib.hid (bookPut_any w w15 w.heap.size D.length bc br _ _ _ HK.out.1 HK.out.2.1 (by have := HLN.out; omega) (by have := HVS.out; (try simp only [List.length_append, List.length_cons, List.length_nil]); omega))
      go_wp2_with fail
      refine C1.out.mono ?_
      rintro e w16 ⟨rfl, sv2, hk, hp⟩
      replace HK := Lib.hid (⟨hk, hp HK.out.2.2.1 Nbc.out, hp HK.out.2.2.2.1 Nbd.out, hp HK.out.2.2.2.2 Nbx.out⟩ : BkZ w w.heap.size sv2 ((vs ++ [.slice ar D.length ac]) ++ [.slice br D.length bc]) w16 ∧ PendZ w w.heap.size sv2 ((vs ++ [.slice ar D.length ac]) ++ [.slice br D.length bc]) (.slice cr Fz.length cc) Fz.length (encZ Fz) w16 ∧ PendZ w w.heap.size sv2 ((vs ++ [.slice ar D.length ac]) ++ [.slice br D.length bc]) (.slice dr Fz.length dc) Fz.length (encZ Fz) w16 ∧ PendZ w w.heap.size sv2 ((vs ++ [.slice ar D.length ac]) ++ [.slice br D.length bc]) (.slice xr D.length xc) D.length (encZ D) w16)
      clear hk hp C1
      have C1 := Lib.hid (bookPut_any w w16 w.heap.size Fz.length cc cr _ _ _ HK.out.1 HK.out.2.1 (by have := HLN.out; omega) (by have := HVS.out; (try simp only [List.length_append, List.length_cons, List.length_nil]); omega))
      go_wp2_with fail
      refine C1.out.mono ?_
      rintro e w17 ⟨rfl, sv3, hk, hp⟩
      replace HK := Lib.hid (⟨hk, hp HK.out.2.2.1 Ncd.out, hp HK.out.2.2.2 Ncx.out⟩ : BkZ w w.heap.size sv3 (((vs ++ [.slice ar D.length ac]) ++ [.slice br D.length bc]) ++ [.slice cr Fz.length cc]) w17 ∧ PendZ w w.heap.size sv3 (((vs ++ [.slice ar D.length ac]) ++ [.slice br D.length bc]) ++ [.slice cr Fz.length cc]) (.slice dr Fz.length dc) Fz.length (encZ Fz) w17 ∧ PendZ w w.heap.size sv3 (((vs ++ [.slice ar D.length ac]) ++ [.slice br D.length bc]) ++ [.slice cr Fz.length cc]) (.slice xr D.length xc) D.length (encZ D) w17)
      clear hk hp C1
      have C1 := Lib.hid (bookPut_any w w17 w.heap.size Fz.length dc dr _ _ _ HK.out.1 HK.out.2.1 (by have := HLN.out; omega) (by have := HVS.out; (try simp only [List.length_append, List.length_cons, List.length_nil]); omega))
      go_wp2_with fail
      refine C1.out.mono ?_
      rintro e w18 ⟨rfl, sv4, hk, hp⟩
      replace HK := Lib.hid (⟨hk, hp HK.out.2.2 Ndx.out⟩ : BkZ w w.heap.size sv4 ((((vs ++ [.slice ar D.length ac]) ++ [.slice br D.length bc]) ++ [.slice cr Fz.length cc]) ++ [.slice dr Fz.length dc]) w18 ∧ PendZ w w.heap.size sv4 ((((vs ++ [.slice ar D.length ac]) ++ [.slice br D.length bc]) ++ [.slice cr Fz.length cc]) ++ [.slice dr Fz.length dc]) (.slice xr D.length xc) D.length (encZ D) w18)
      clear hk hp C1
      have hcx2 := (HK.out.1.below.cell (lt_of_cell HX.out.2.2.1)).trans HX.out.2.2.1
      have hcy2 := (HK.out.1.below.cell (lt_of_cell HX.out.2.2.2.2.1)).trans HX.out.2.2.2.2.1
      obtain ⟨hq0, hqn, hqw⟩ := HX.out.2.2.2.2.2
      by_cases hl2 : D.length = 2
      · obtain ⟨p, q, hpq⟩ : ∃ p q, dcpV S x = [p, q] := by
          have h8 := HDD.out
          rw [← h8, toZ_len] at hl2
          match h9 : dcpV S x, hl2 with
          | [p, q], _ => exact ⟨p, q, rfl⟩
        have hDp : D = [(p : Int), (q : Int)] := by rw [← HDD.out, hpq]; rfl
        have hsl := own_sl (HK.out.2)
        have HXY : Hid (I32 (p : Int) ∧ I32 (q : Int)) := Lib.hid (dcp_i32 HSK.out hpq)
        rw [hDp] at hsl
        obtain ⟨g5, off5, rfl, hc50, hc51⟩ : ∃ g5 off5, xr = some ⟨g5, off5, none⟩ ∧ w18.cell? ⟨g5, off5, none⟩ = some (.int .i32 (p : Nat)) ∧ w18.cell? ⟨g5, off5 + 1, none⟩ = some (.int .i32 (q : Nat)) := by
          obtain ⟨ao, cap, e, h⟩ := hsl
          simp only [Value.slice.injEq] at e
          rcases h with h | ⟨g5, off5, e2, h⟩
          · cases h
          · exact ⟨g5, off5, by rw [← e2]; exact e.1, h 0 p rfl, h 1 q rfl⟩
        have hl3 : ((D.length : Nat) : Int) = 2 := by omega
        have hl4 : D.length = 2 := hl2
        clear hsl hl2 hpq hDp
        have CP := Lib.hid (fun W (hW : Below w18.heap.size w18 W) => CM.out W (HK.out.1.below.trans (hW.mono HK.out.1.below.size)) (p : Int) (q : Int) HXY.out.1 HXY.out.2)
        have CX := Lib.hid (fun W (hW : Below w18.heap.size w18 W) => XM.out W (HK.out.1.below.trans (hW.mono HK.out.1.below.size)) (p : Int) (q : Int) HXY.out.1)
        obtain ⟨m, hm⟩ : ∃ m, cmpV (mdOf S L) (p : Int) (q : Int) = m := ⟨_, rfl⟩
        rw [hm] at CP CX
        obtain ⟨zv, hzv⟩ : ∃ z, m.getD 0 = z := ⟨_, rfl⟩
        obtain ⟨zb, hzb⟩ : ∃ z, m.isSome = z := ⟨_, rfl⟩
        rw [hzv, hzb] at CP CX
        clear hm hzv hzb
        go_wp2_with fail
        go_region
        go_wp2_with fail
        refine (CP.out _ (by first | exact Below.refl _ _ | exact Drawn.below ⟨1, rfl⟩)).mono ?_
        rintro e w19 ⟨rfl, hb⟩
        have HB : Hid (Below w18.heap.size w18 w19) := Lib.hid (by first | exact hb | exact (Drawn.below ⟨1, rfl⟩).trans hb)
        clear hb
        go_wp2_with fail
        refine (CX.out _ HB.out).mono ?_
        rintro e w20 ⟨rfl, hb⟩
        replace HB := Lib.hid (HB.out.trans (hb.mono HB.out.size))
        clear hb
        go_wp2_with fail
        go_roundw
        case rel => exact ⟨i + 1, sv4, ((((vs ++ [.slice ar D.length ac]) ++ [.slice br D.length bc]) ++ [.slice cr Fz.length cc]) ++ [.slice dr Fz.length dc]), by go_num, by have := HVS.out; omega, by have := HVS.out; omega, HK.out.1.next HB.out, by have := HVS.out; simp only [List.length_append, List.length_cons, List.length_nil]; omega, fun h => absurd h (by omega)⟩
        case measure => simp [RowKit.intOf]; have := HVS.out; omega
      · have hl3 : ((D.length : Nat) : Int) ≠ 2 := by omega
        have HXY : Hid (I32 x ∧ I32 y) := Lib.hid ⟨HX.out.2.1, HX.out.2.2.2.1⟩
        clear hl2
        have CP := Lib.hid (fun W (hW : Below w18.heap.size w18 W) => CM.out W (HK.out.1.below.trans (hW.mono HK.out.1.below.size)) x y HXY.out.1 HXY.out.2)
        have CX := Lib.hid (fun W (hW : Below w18.heap.size w18 W) => XM.out W (HK.out.1.below.trans (hW.mono HK.out.1.below.size)) x y HXY.out.1)
        obtain ⟨m, hm⟩ : ∃ m, cmpV (mdOf S L) x y = m := ⟨_, rfl⟩
        rw [hm] at CP CX
        obtain ⟨zv, hzv⟩ : ∃ z, m.getD 0 = z := ⟨_, rfl⟩
        obtain ⟨zb, hzb⟩ : ∃ z, m.isSome = z := ⟨_, rfl⟩
        rw [hzv, hzb] at CP CX
        clear hm hzv hzb
        go_wp2_with fail
        refine (CP.out _ (by first | exact Below.refl _ _ | exact Drawn.below ⟨1, rfl⟩)).mono ?_
        rintro e w19 ⟨rfl, hb⟩
        have HB : Hid (Below w18.heap.size w18 w19) := Lib.hid (by first | exact hb | exact (Drawn.below ⟨1, rfl⟩).trans hb)
        clear hb
        go_wp2_with fail
        refine (CX.out _ HB.out).mono ?_
        rintro e w20 ⟨rfl, hb⟩
        replace HB := Lib.hid (HB.out.trans (hb.mono HB.out.size))
        clear hb
        go_wp2_with fail
        go_roundw
        case rel => exact ⟨i + 1, sv4, ((((vs ++ [.slice ar D.length ac]) ++ [.slice br D.length bc]) ++ [.slice cr Fz.length cc]) ++ [.slice dr Fz.length dc]), by go_num, by have := HVS.out; omega, by have := HVS.out; omega, HK.out.1.next HB.out, by have := HVS.out; simp only [List.length_append, List.length_cons, List.length_nil]; omega, fun h => absurd h (by omega)⟩
        case measure => simp [RowKit.intOf]; have := HVS.out; omega
    · have e3 : i = n ∨ i = 300 := by omega
      have HK : Hid (BkZ w w.heap.size sv vs wr) := Lib.hid hk
      have CA : Hid (Calls Tryz.prog 54 #[.pointer (some ⟨w.heap.size, 0, none⟩)] wr fun e w' => e = .returned (.bool true) ∧ Below w.heap.size w w') := Lib.hid (by
        rcases Nat.eq_zero_or_pos i with h0 | h0
        · have h1 : vs = [] := List.eq_nil_of_length_eq_zero (by omega)
          have h2 := hs0 h0
          subst h1 h2
          exact bookApart0 w wr _ hk
        · exact bookApartZ w wr _ _ _ hk (by omega) (by omega))
      clear hk hvs hs0
      by_cases hin : i = n
      · have e1 : ¬ (i : Int) < n := by omega
        clear e3 hlt
        go_wp2_with fail
        refine CA.out.mono ?_
        rintro e w1 ⟨rfl, hb⟩
        go_wp2
        go_ret
        exact ⟨rfl, hb⟩
      · have e1 : (i : Int) < n := by omega
        have e2 : ¬ (i : Int) < 300 := by omega
        clear e3 hlt
        go_wp2_with fail
        refine CA.out.mono ?_
        rintro e w1 ⟨rfl, hb⟩
        go_wp2
        go_ret
        exact ⟨rfl, hb⟩
end Go.Proofs.YtfpfpaaojdodnaaGreatDoor
