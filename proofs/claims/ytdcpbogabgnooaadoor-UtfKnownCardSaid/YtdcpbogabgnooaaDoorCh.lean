/- The walk of UtfKnown: the chapter's examples, the ends of each row, each byte. -/
import Derived.Test.YtdcpbogabgnooaaDoorCc
import Derived.Test.YtdcpbogabgnooaaDoorCf
namespace Go.Proofs.YtdcpbogabgnooaaDoor
open Go Go.RowKit Go.Kt Go.Shelf

/-- What holds all along: the tables lie; nothing that was there has changed. -/
def Gd (n : Nat) (w W : World) : Prop := Lib.Utf8Tabs 0 1 W ∧ 2 ≤ n ∧ Below n w W ∧ n ≤ W.heap.size
theorem Gd.step {n : Nat} {w W W' : World} (h : Gd n w W) (hb : Below W.heap.size W W') : Gd n w W' :=
  ⟨tabs_below h.1 (Nat.le_trans h.2.1 h.2.2.2) hb, h.2.1, h.2.2.1.trans (hb.mono h.2.2.2), Nat.le_trans h.2.2.2 hb.size⟩
theorem Gd.alloc {n : Nat} {w W : World} (h : Gd n w W) (o : Obj) : Gd n w (W.alloc o) := h.step ((Below.refl _ W).alloc (Nat.le_refl _) o)
theorem unitIs_g {n : Nat} {w W : World} {s : ByteArray} {a r v : Int} (h : Gd n w W) (e : decP s a = (r, v)) (hs : s.size ≤ 100) :
    Calls Tryd.prog 44 #[.string s, .int .i64 a, .int .i32 r, .int .i64 v] W fun e w' => e = .returned (.bool true) ∧ Gd n w w' :=
  (unitIs_yes s a r v W h.1 (by omega) e).mono fun _ _ ⟨h1, h2⟩ => ⟨h1, h.step h2⟩
theorem badIs_g {n : Nat} {w W : World} {s : ByteArray} {v1 : Value} {l : List Int} (h : Gd n w W) (hv : Sl .i64 W v1 l) (e : pieceInts (bads s) = l) (hs : s.size ≤ 100) :
    Calls Tryd.prog 45 #[.string s, v1] W fun e w' => e = .returned (.bool true) ∧ Gd n w w' :=
  (badIs_yes s v1 l W h.1 (Nat.le_trans h.2.1 h.2.2.2) (by omega) hv e).mono fun _ _ ⟨h1, h2⟩ => ⟨h1, h.step h2⟩
theorem bef_g {n : Nat} {w W : World} (s : ByteArray) (a x y : Int) (h : Gd n w W) (e : befP s a = (x, y)) (hs : s.size ≤ 100) :
    Calls Tryd.prog 42 #[.string s, .int .i64 a] W fun e w' => e = .returned (.tuple #[.int .i32 x, .int .i64 y]) ∧ Gd n w w' := by
  have := utfBefore_any s a W h.1 (by omega)
  rw [e] at this
  exact this.mono fun _ _ ⟨h1, h2⟩ => ⟨h1, h.step h2⟩
theorem dec_g {n : Nat} {w W : World} (s : ByteArray) (a x y : Int) (h : Gd n w W) (e : decP s a = (x, y)) (hs : s.size ≤ 100) :
    Calls Tryd.prog 23 #[.string s, .int .i64 a] W fun e w' => e = .returned (.tuple #[.int .i32 x, .int .i64 y]) ∧ Gd n w w' := by
  have := utfDecode_any s a W h.1 (by omega)
  rw [e] at this
  exact this.mono fun _ _ ⟨h1, h2⟩ => ⟨h1, h.step h2⟩
theorem full_g {n : Nat} {w W : World} (b : Bool) {s : ByteArray} (h : Gd n w W) (e : fullB s = b) (hs : s.size ≤ 100) :
    Calls Tryd.prog 36 #[.string s] W fun e w' => e = .returned (.bool b) ∧ Gd n w w' := by
  have := utfFull_any s W h.1 (by omega)
  rw [e] at this
  exact this.mono fun _ _ ⟨h1, h2⟩ => ⟨h1, h.step h2⟩
theorem valid_g {n : Nat} {w W : World} (b : Bool) {s : ByteArray} (h : Gd n w W) (e : okB s = b) (hs : s.size ≤ 100) :
    Calls Tryd.prog 20 #[.string s] W fun e w' => e = .returned (.bool b) ∧ Gd n w w' := by
  have := utfValid_any s W h.1 (Nat.le_trans h.2.1 h.2.2.2) (by omega)
  rw [e] at this
  exact this.mono fun _ _ ⟨h1, h2⟩ => ⟨h1, h.step h2⟩
theorem enc_g {W : World} (r : Int) (s : ByteArray) (e : Utf8.encode r = s) :
    Calls Tryd.prog 32 #[.int .i32 r] W fun e w' => e = .returned (.string s) ∧ W = w' := by
  rw [← e]; exact utfEncode_any r W
theorem mend_g {n : Nat} {w W : World} (s by' : ByteArray) (whole : Bool) (l : List UInt8) (h : Gd n w W) (e : mendL s by' whole = l) (hs : s.size ≤ 100) (hb : by'.size ≤ 100) :
    Calls Tryd.prog 40 #[.string s, .string by', .bool whole] W fun e w' => e = .returned (.string ⟨l.toArray⟩) ∧ Gd n w w' := by
  have := utfMend_any s by' whole W h.1 (Nat.le_trans h.2.1 h.2.2.2) (by omega) (by
    have : s.size * by'.size ≤ 100 * 100 := Nat.mul_le_mul hs hb
    omega)
  rw [e] at this
  exact this.mono fun _ _ ⟨h1, h2⟩ => ⟨h1, h.step h2⟩
theorem works_g {n : Nat} {w W : World} (h : Gd n w W) : Calls Tryd.prog 15 #[] W fun e w' => e = .returned (.bool true) ∧ Gd n w w' :=
  (works_any W h.1 (Nat.le_trans h.2.1 h.2.2.2)).mono fun _ _ ⟨h1, h2⟩ => ⟨h1, h.step h2⟩
theorem sl_lit {k : IntKind} (W : World) (e : TypeId) (l : List Int) (cs : Array Value) (m : Nat) (hc : (l.map fun x => Value.int k x).toArray = cs) (hm : l.length = m) : Sl k (W.alloc (.cells cs e)) (.slice (some ⟨W.heap.size, 0, none⟩) m m) l := by
  subst hm; subst hc
  refine ⟨_, _, rfl, .inr ⟨W.heap.size, 0, rfl, fun i x hx => ?_⟩⟩
  rw [Lib.cell_of_heap (World.alloc_heap_new W _)]
  simp [hx]
theorem text_g (W : World) : Calls Tryd.prog 34 #[.slice (some ⟨W.heap.size, 0, none⟩) 3 3] (W.alloc (.cells #[.int .i32 97, .int .i32 55296, .int .i32 233] 21)) fun e w' => e = .returned (.string ⟨#[97, 239, 191, 189, 195, 169]⟩) ∧ W.alloc (.cells #[.int .i32 97, .int .i32 55296, .int .i32 233] 21) = w' := by
  have := utfText_any _ [97, 55296, 233] _ (sl_lit W 21 [97, 55296, 233] _ 3 rfl rfl)
  rw [show runesBytes [97, 55296, 233] = ⟨#[97, 239, 191, 189, 195, 169]⟩ by kernel_rfl] at this
  exact this
theorem badIs_g0 {n : Nat} {w W : World} (h : Gd n w W) : Calls Tryd.prog 45 #[.string ⟨#[97, 226, 130, 98, 195]⟩, .slice (some ⟨W.heap.size, 0, none⟩) 4 4] (W.alloc (.cells #[.int .i64 1, .int .i64 2, .int .i64 4, .int .i64 1] 3)) fun e w' => e = .returned (.bool true) ∧ Gd n w w' :=
  badIs_g (l := [1, 2, 4, 1]) (h.alloc _) (sl_lit W 3 _ _ 4 rfl rfl) (by kernel_rfl) (by decide)
theorem badIs_g1 {n : Nat} {w W : World} (h : Gd n w W) : Calls Tryd.prog 45 #[.string ⟨#[240, 159, 152, 240, 159]⟩, .slice (some ⟨W.heap.size, 0, none⟩) 4 4] (W.alloc (.cells #[.int .i64 0, .int .i64 3, .int .i64 3, .int .i64 2] 3)) fun e w' => e = .returned (.bool true) ∧ Gd n w w' :=
  badIs_g (l := [0, 3, 3, 2]) (h.alloc _) (sl_lit W 3 _ _ 4 rfl rfl) (by kernel_rfl) (by decide)
theorem badIs_g2 {n : Nat} {w W : World} (h : Gd n w W) : Calls Tryd.prog 45 #[.string ⟨#[237, 160, 128]⟩, .slice (some ⟨W.heap.size, 0, none⟩) 6 6] (W.alloc (.cells #[.int .i64 0, .int .i64 1, .int .i64 1, .int .i64 1, .int .i64 2, .int .i64 1] 3)) fun e w' => e = .returned (.bool true) ∧ Gd n w w' :=
  badIs_g (l := [0, 1, 1, 1, 2, 1]) (h.alloc _) (sl_lit W 3 _ _ 6 rfl rfl) (by kernel_rfl) (by decide)
theorem badIs_g3 {n : Nat} {w W : World} (h : Gd n w W) : Calls Tryd.prog 45 #[.string ⟨#[244, 144]⟩, .slice (some ⟨W.heap.size, 0, none⟩) 4 4] (W.alloc (.cells #[.int .i64 0, .int .i64 1, .int .i64 1, .int .i64 1] 3)) fun e w' => e = .returned (.bool true) ∧ Gd n w w' :=
  badIs_g (l := [0, 1, 1, 1]) (h.alloc _) (sl_lit W 3 _ _ 4 rfl rfl) (by kernel_rfl) (by decide)
theorem badIs_g4 {n : Nat} {w W : World} (h : Gd n w W) : Calls Tryd.prog 45 #[.string ⟨#[128, 128]⟩, .slice (some ⟨W.heap.size, 0, none⟩) 4 4] (W.alloc (.cells #[.int .i64 0, .int .i64 1, .int .i64 1, .int .i64 1] 3)) fun e w' => e = .returned (.bool true) ∧ Gd n w w' :=
  badIs_g (l := [0, 1, 1, 1]) (h.alloc _) (sl_lit W 3 _ _ 4 rfl rfl) (by kernel_rfl) (by decide)
theorem badIs_g5 {n : Nat} {w W : World} (h : Gd n w W) : Calls Tryd.prog 45 #[.string ⟨#[195, 169]⟩, .slice none 0 0] W fun e w' => e = .returned (.bool true) ∧ Gd n w w' :=
  badIs_g (l := []) h ⟨none, 0, rfl, .inl rfl⟩ (by kernel_rfl) (by decide)
theorem badIs_g6 {n : Nat} {w W : World} (h : Gd n w W) : Calls Tryd.prog 45 #[.string ⟨#[225, 128, 195, 169]⟩, .slice (some ⟨W.heap.size, 0, none⟩) 2 2] (W.alloc (.cells #[.int .i64 0, .int .i64 2] 3)) fun e w' => e = .returned (.bool true) ∧ Gd n w w' :=
  badIs_g (l := [0, 2]) (h.alloc _) (sl_lit W 3 _ _ 2 rfl rfl) (by kernel_rfl) (by decide)

/-- The text of one byte. -/
def oneB (c : Nat) : ByteArray := ⟨#[UInt8.ofNat c]⟩
theorem one_dec : ∀ c : Fin 256, decP (oneB c.1) 0 = if c.1 < 128 then ((c.1 : Int), 1) else (65533, 1) := by decide +kernel
theorem one_full : ∀ c : Fin 256, fullB (oneB c.1) = !(decide (194 ≤ c.1) && decide (c.1 ≤ 244)) := by decide +kernel
theorem one_ok : ∀ c : Fin 256, okB (oneB c.1) = decide (c.1 < 128) := by decide +kernel
theorem conv_one (W : World) (k : Nat) (hk : k < 256) : (convert 57 9 (.slice (some ⟨W.heap.size, 0, none⟩) 1 1)).run Tryd.prog (W.alloc (.cells #[.int .u8 k] 5)) = .ok (.string (oneB k)) (W.alloc (.cells #[.int .u8 k] 5)) := by
  have := conv1 W k (by omega) (by omega)
  rw [Int.toNat_natCast] at this
  exact this
def oddL : List Int := [-1, 55296, 57343, 1114112, 2147483647, -2147483648]
theorem odd_enc : ∀ (k : Nat) (x : Int), oddL[k]? = some x → Utf8.encode x = ⟨#[239, 191, 189]⟩
  | 0, x, h => by obtain rfl := Option.some.inj h; kernel_rfl
  | 1, x, h => by obtain rfl := Option.some.inj h; kernel_rfl
  | 2, x, h => by obtain rfl := Option.some.inj h; kernel_rfl
  | 3, x, h => by obtain rfl := Option.some.inj h; kernel_rfl
  | 4, x, h => by obtain rfl := Option.some.inj h; kernel_rfl
  | 5, x, h => by obtain rfl := Option.some.inj h; kernel_rfl
  | k + 6, x, h => by simp [oddL] at h

set_option maxRecDepth 100000 in
set_option maxHeartbeats 4000000 in
theorem known_g {n : Nat} {w0 w : World} (g1 : Gd n w0 w) :
    Calls Tryd.prog 13 #[] w fun e w' => e = .returned (.bool true) ∧ Gd n w0 w' := by
  go_enter Tryd.func13, Tryd.ntmps13
  go_wp2_with (first
    | (go_at_call 44; refine (unitIs_g (by assumption) (by kernel_rfl) (by decide)).mono ?_; rintro e w' ⟨rfl, hg⟩)
    | (go_at_call 15; refine (works_g (by assumption)).mono ?_; rintro e w' ⟨rfl, hg⟩))
  obtain ⟨b, hb⟩ : ∃ b, w'.heap.size = b := ⟨_, rfl⟩
  obtain ⟨W1, hW1⟩ : ∃ W1, w'.alloc (.cells #[.int .i32 (-1), .int .i32 55296, .int .i32 57343, .int .i32 1114112, .int .i32 2147483647, .int .i32 (-2147483648)] 21) = W1 := ⟨_, rfl⟩
  have hgW : Gd n w0 W1 := by rw [← hW1]; exact hg.alloc _
  have hcell : Hid (∀ k x, oddL[k]? = some x → W1.cell? ⟨b, k, none⟩ = some (.int .i32 x)) := Lib.hid (fun k x hx => by
    rw [← hW1, ← hb, Lib.cell_of_heap (World.alloc_heap_new w' _)]
    match k, hx with
    | 0, h => obtain rfl := Option.some.inj h; rfl
    | 1, h => obtain rfl := Option.some.inj h; rfl
    | 2, h => obtain rfl := Option.some.inj h; rfl
    | 3, h => obtain rfl := Option.some.inj h; rfl
    | 4, h => obtain rfl := Option.some.inj h; rfl
    | 5, h => obtain rfl := Option.some.inj h; rfl
    | k + 6, h => simp [oddL] at h)
  rw [hW1, hb]
  clear hW1 hb hg
  go_loop [4] (fun v => ∃ k : Nat, k ≤ 6 ∧ v = .int .i64 k) (fun v => 6 - (RowKit.intOf v).toNat)
  case atStart => exact ⟨0, by omega, rfl⟩
  case round =>
    obtain ⟨k, hk, rfl⟩ := hrel
    by_cases hlt : k < 6
    · obtain ⟨x, hx⟩ : ∃ x, oddL[k]? = some x := ⟨oddL[k]'(by simp [oddL]; omega), List.getElem?_eq_getElem _⟩
      have p1 := hcell.out k x hx
      have E := Lib.hid (odd_enc k x hx)
      clear hx hcell
      go_wp2_with (go_at_call 32; refine (enc_g _ _ E.out).mono ?_; rintro e w' ⟨rfl, rfl⟩)
      go_round
      case rel => exact ⟨k + 1, by omega, by go_num⟩
      case measure => simp [RowKit.intOf]; omega
    · clear hcell
      go_wp2
      go_loopw [5] (fun v wr => ∃ k : Nat, k ≤ 256 ∧ v = .int .i64 k ∧ Gd n w0 wr) (fun v _ => 256 - (RowKit.intOf v).toNat)
      case atStart => exact ⟨0, by omega, rfl, hgW⟩
      case round =>
        clear hgW
        obtain ⟨k, hk, rfl, hgW⟩ := hrel
        by_cases hlt : k < 256
        · have hd := one_dec ⟨k, hlt⟩
          have hf := one_full ⟨k, hlt⟩
          have ho := one_ok ⟨k, hlt⟩
          simp only at hd hf ho
          have hcv := conv_one wr k hlt
          have hsz : (oneB k).size ≤ 100 := by show 1 ≤ 100; omega
          by_cases c1 : k < 128
          ·
            have hd' : decP (oneB k) 0 = ((k : Int), 1) := by rw [hd, if_pos c1]
            have hf' : fullB (oneB k) = true := by rw [hf]; simp; omega
            have ho' : okB (oneB k) = true := by rw [ho]; simpa using c1
            have n1 : (k : Int) < 128 := by omega
            have n2 : ((k : Int) != k) = false := by simp
            clear hd hf ho
            go_wp2_with fail
            refine (dec_g (oneB k) 0 k 1 (hgW.alloc _) hd' hsz).mono ?_
            rintro e w1 ⟨rfl, h1⟩
            clear hd' hgW hcv
            go_wp2_with fail
            refine (full_g true h1 hf' hsz).mono ?_
            rintro e w2 ⟨rfl, h2⟩
            go_wp2_with fail
            refine (valid_g true h2 ho' hsz).mono ?_
            rintro e w3 ⟨rfl, h3⟩
            clear hf' ho'
            go_wp2_with fail
            go_roundw
            case rel => exact ⟨k + 1, by omega, by go_num, h3⟩
            case measure => simp [RowKit.intOf]; omega
          · rcases (by omega : (194 ≤ k ∧ k ≤ 244) ∨ k < 194 ∨ 244 < k) with c2 | c2 | c2
            ·
              have hd' : decP (oneB k) 0 = (65533, 1) := by rw [hd, if_neg c1]
              have hf' : fullB (oneB k) = false := by rw [hf]; simp; omega
              have ho' : okB (oneB k) = false := by rw [ho]; simpa using c1
              have n1 : 128 ≤ (k : Int) := by omega
              have n2 : 194 ≤ (k : Int) := by omega
              have n3 : (k : Int) ≤ 244 := by omega
              clear hd hf ho
              go_wp2_with fail
              refine (dec_g (oneB k) 0 65533 1 (hgW.alloc _) hd' hsz).mono ?_
              rintro e w1 ⟨rfl, h1⟩
              clear hd' hgW hcv
              go_wp2_with fail
              refine (full_g false h1 hf' hsz).mono ?_
              rintro e w2 ⟨rfl, h2⟩
              go_wp2_with fail
              refine (valid_g false h2 ho' hsz).mono ?_
              rintro e w3 ⟨rfl, h3⟩
              clear hf' ho'
              go_wp2_with fail
              go_roundw
              case rel => exact ⟨k + 1, by omega, by go_num, h3⟩
              case measure => simp [RowKit.intOf]; omega
            ·
              have hd' : decP (oneB k) 0 = (65533, 1) := by rw [hd, if_neg c1]
              have hf' : fullB (oneB k) = true := by rw [hf]; simp; omega
              have ho' : okB (oneB k) = false := by rw [ho]; simpa using c1
              have n1 : 128 ≤ (k : Int) := by omega
              have n2 : (k : Int) < 194 := by omega
              clear hd hf ho
              go_wp2_with fail
              refine (dec_g (oneB k) 0 65533 1 (hgW.alloc _) hd' hsz).mono ?_
              rintro e w1 ⟨rfl, h1⟩
              clear hd' hgW hcv
              go_wp2_with fail
              refine (full_g true h1 hf' hsz).mono ?_
              rintro e w2 ⟨rfl, h2⟩
              go_wp2_with fail
              refine (valid_g false h2 ho' hsz).mono ?_
              rintro e w3 ⟨rfl, h3⟩
              clear hf' ho'
              go_wp2_with fail
              go_roundw
              case rel => exact ⟨k + 1, by omega, by go_num, h3⟩
              case measure => simp [RowKit.intOf]; omega
            ·
              have hd' : decP (oneB k) 0 = (65533, 1) := by rw [hd, if_neg c1]
              have hf' : fullB (oneB k) = true := by rw [hf]; simp; omega
              have ho' : okB (oneB k) = false := by rw [ho]; simpa using c1
              have n1 : 128 ≤ (k : Int) := by omega
              have n2 : 194 ≤ (k : Int) := by omega
              have n3 : 244 < (k : Int) := by omega
              clear hd hf ho
              go_wp2_with fail
              refine (dec_g (oneB k) 0 65533 1 (hgW.alloc _) hd' hsz).mono ?_
              rintro e w1 ⟨rfl, h1⟩
              clear hd' hgW hcv
              go_wp2_with fail
              refine (full_g true h1 hf' hsz).mono ?_
              rintro e w2 ⟨rfl, h2⟩
              go_wp2_with fail
              refine (valid_g false h2 ho' hsz).mono ?_
              rintro e w3 ⟨rfl, h3⟩
              clear hf' ho'
              go_wp2_with fail
              go_roundw
              case rel => exact ⟨k + 1, by omega, by go_num, h3⟩
              case measure => simp [RowKit.intOf]; omega
        · have hk256 : k = 256 := by omega
          subst hk256
          clear hlt
          go_wp2_with fail
          refine (bef_g ⟨#[97, 195, 169]⟩ 3 233 2 hgW (by kernel_rfl) (by decide)).mono ?_
          rintro e w1 ⟨rfl, h1⟩
          clear hgW
          go_wp2_with fail
          refine (bef_g ⟨#[97, 195, 169]⟩ 2 65533 1 h1 (by kernel_rfl) (by decide)).mono ?_
          rintro e w2 ⟨rfl, h2⟩
          clear h1
          go_wp2_with fail
          refine (bef_g ⟨#[97]⟩ 0 65533 0 h2 (by kernel_rfl) (by decide)).mono ?_
          rintro e w3 ⟨rfl, h3⟩
          clear h2
          go_wp2_with fail
          refine (bef_g ⟨#[97]⟩ 2 65533 0 h3 (by kernel_rfl) (by decide)).mono ?_
          rintro e w4 ⟨rfl, h4⟩
          clear h3
          go_wp2_with fail
          refine (enc_g 0 ⟨#[0]⟩ (by kernel_rfl)).mono ?_
          rintro e w' ⟨rfl, rfl⟩
          go_wp2_with fail
          refine (enc_g 1114111 ⟨#[244, 143, 191, 191]⟩ (by kernel_rfl)).mono ?_
          rintro e w' ⟨rfl, rfl⟩
          go_wp2_with fail
          refine (enc_g 55295 ⟨#[237, 159, 191]⟩ (by kernel_rfl)).mono ?_
          rintro e w' ⟨rfl, rfl⟩
          go_wp2_with fail
          refine (text_g _).mono ?_
          rintro e w' ⟨rfl, rfl⟩
          go_wp2_with fail
          refine (full_g false (h4.alloc _) (by kernel_rfl) (by decide)).mono ?_
          rintro e w5 ⟨rfl, h5⟩
          clear h4
          go_wp2_with fail
          refine (full_g false h5 (by kernel_rfl) (by decide)).mono ?_
          rintro e w6 ⟨rfl, h6⟩
          clear h5
          go_wp2_with fail
          refine (full_g false h6 (by kernel_rfl) (by decide)).mono ?_
          rintro e w7 ⟨rfl, h7⟩
          clear h6
          go_wp2_with fail
          refine (full_g false h7 (by kernel_rfl) (by decide)).mono ?_
          rintro e w8 ⟨rfl, h8⟩
          clear h7
          go_wp2_with fail
          refine (full_g true h8 (by kernel_rfl) (by decide)).mono ?_
          rintro e w9 ⟨rfl, h9⟩
          clear h8
          go_wp2_with fail
          refine (full_g true h9 (by kernel_rfl) (by decide)).mono ?_
          rintro e w10 ⟨rfl, h10⟩
          clear h9
          go_wp2_with fail
          refine (full_g true h10 (by kernel_rfl) (by decide)).mono ?_
          rintro e w11 ⟨rfl, h11⟩
          clear h10
          go_wp2_with fail
          refine (full_g true h11 (by kernel_rfl) (by decide)).mono ?_
          rintro e w12 ⟨rfl, h12⟩
          clear h11
          go_wp2_with fail
          refine (full_g true h12 (by kernel_rfl) (by decide)).mono ?_
          rintro e w13 ⟨rfl, h13⟩
          clear h12
          go_wp2_with fail
          refine (full_g true h13 (by kernel_rfl) (by decide)).mono ?_
          rintro e w14 ⟨rfl, h14⟩
          clear h13
          go_wp2_with fail
          refine (full_g false h14 (by kernel_rfl) (by decide)).mono ?_
          rintro e w15 ⟨rfl, h15⟩
          clear h14
          go_wp2_with fail
          refine (badIs_g0 h15).mono ?_
          rintro e w16 ⟨rfl, h16⟩
          clear h15
          go_wp2_with fail
          refine (badIs_g1 h16).mono ?_
          rintro e w17 ⟨rfl, h17⟩
          clear h16
          go_wp2_with fail
          refine (badIs_g2 h17).mono ?_
          rintro e w18 ⟨rfl, h18⟩
          clear h17
          go_wp2_with fail
          refine (badIs_g3 h18).mono ?_
          rintro e w19 ⟨rfl, h19⟩
          clear h18
          go_wp2_with fail
          refine (badIs_g4 h19).mono ?_
          rintro e w20 ⟨rfl, h20⟩
          clear h19
          go_wp2_with fail
          refine (badIs_g5 h20).mono ?_
          rintro e w21 ⟨rfl, h21⟩
          clear h20
          go_wp2_with fail
          refine (badIs_g6 h21).mono ?_
          rintro e w22 ⟨rfl, h22⟩
          clear h21
          go_wp2_with fail
          refine (mend_g ⟨#[97, 226, 130, 98]⟩ ⟨#[63]⟩ true [97, 63, 98] h22 (by kernel_rfl) (by decide) (by decide)).mono ?_
          rintro e w23 ⟨rfl, h23⟩
          clear h22
          go_wp2_with fail
          refine (mend_g ⟨#[97, 226, 130, 98]⟩ ⟨#[63]⟩ false [97, 63, 63, 98] h23 (by kernel_rfl) (by decide) (by decide)).mono ?_
          rintro e w24 ⟨rfl, h24⟩
          clear h23
          go_wp2_with fail
          refine (mend_g ⟨#[195]⟩ ⟨#[169]⟩ true [169] h24 (by kernel_rfl) (by decide) (by decide)).mono ?_
          rintro e w25 ⟨rfl, h25⟩
          clear h24
          go_wp2_with fail
          go_ret
          exact ⟨rfl, h25⟩

theorem known_walk (w : World) (hT : Lib.Utf8Tabs 0 1 w) (h2 : 2 ≤ w.heap.size) :
    Calls Tryd.prog 13 #[] w fun e w' => e = .returned (.bool true) ∧ Below w.heap.size w w' :=
  (known_g (n := w.heap.size) (w0 := w) ⟨hT, h2, Below.refl _ _, Nat.le_refl _⟩).mono fun _ _ ⟨h1, h2⟩ => ⟨h1, h2.2.2.1⟩
end Go.Proofs.YtdcpbogabgnooaaDoor
