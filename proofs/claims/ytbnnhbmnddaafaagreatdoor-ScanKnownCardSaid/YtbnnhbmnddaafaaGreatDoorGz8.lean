/- Parts of the proof of what the last text says. -/
import Derived.Test.YtbnnhbmnddaafaaGreatDoorGz2
import Derived.Test.YtbnnhbmnddaafaaGreatDoorGz5
import Derived.Test.YtbnnhbmnddaafaaGreatDoorGz4
import Derived.Test.YtbnnhbmnddaafaaGreatDoorGz7
import Derived.Test.YtbnnhbmnddaafaaGreatDoorProg
import Derived.WalkKit
import Derived.WalkMore
import Derived.Scope
import Derived.Lib.Hide
import Derived.Test.YtbnnhbmnddaafaaGreatDoorGz6
/- Scan's Quote: escaped. -/
namespace Go.Proofs.YtbnnhbmnddaafaaGreatDoor
open Go Go.RowKit Go.Kt Go.Shelf
attribute [local go_sem] Oper.semAt_some

def escV (u : List UInt8) (r : Int) : List UInt8 :=
  if r = 65533 ∧ u.length = 1 then [92, 120] ++ hexL (u.getD 0 0).toNat else if r ≤ 32 ∨ r = 127 then [92, 117, 123] ++ hexL r.toNat ++ [125] else if isSgs r = true then [92] ++ u else u

set_option maxRecDepth 100000 in
theorem escaped_any (t : ByteArray) (r : Int) (w : World) (hT : BTab w) (hr : 0 ≤ r ∧ r ≤ 2147483647) (ht : t.size ≤ 4) :
    Calls Tryz.prog 23 #[.string t, .int .i32 r] w fun e w' => e = .returned (.string ⟨(escV t.data.toList r).toArray⟩) ∧ Below w.heap.size w w' := by
  have hln : t.data.toList.length = t.size := (Lib.size_eq t).symm
  obtain ⟨Z, hZ⟩ : ∃ Z : ByteArray, Z = ⟨(escV t.data.toList r).toArray⟩ := ⟨_, rfl⟩
  rw [← hZ]
  by_cases h1 : r = 65533 ∧ t.size = 1
  · obtain ⟨hr1, ht1⟩ := h1
    have hb := bAt_hi t 0
    obtain ⟨u, hu⟩ : ∃ u : Nat, bAt t 0 = u := ⟨(t.data.toList.getD 0 0).toNat, rfl⟩
    have C := Lib.hid (rformat_any u w hT (by show u < 16777216; omega))
    have HI : ∀ w, (Instr.index 9 (.string t) (.int .i64 0)).run Tryz.prog w = .ok (.int .u8 (u : Nat)) w := fun w => by
      have := run_bAt t 0 (by omega) w
      rw [hu] at this
      exact this
    have hl := hexF_len 8 u
    have HP : Hid ((⟨#[92, 120]⟩ : ByteArray) ++ ⟨(hexL u).toArray⟩ = Z) := Lib.hid (by
      rw [hZ]
      have : escV t.data.toList r = [92, 120] ++ hexL u := by
        unfold escV
        rw [if_pos ⟨hr1, by omega⟩]
        have : (t.data.toList.getD 0 0).toNat = u := by unfold bAt at hu; omega
        rw [this]
      rw [this]; exact bytes_add [92, 120] _)
    have hsz : (⟨(hexL u).toArray⟩ : ByteArray).size ≤ 9 := by show (hexL u).toArray.size ≤ 9; simpa [hexL] using hl
    generalize (⟨(hexL u).toArray⟩ : ByteArray) = L at *
    have hwr : RowKit.wrap64 ((u : Nat) : Int) = (u : Nat) := by unfold RowKit.wrap64; omega
    have ht1' : (((t.size : Nat) : Int) == 1) = true := by simp [ht1]
    subst hr1
    clear hZ hT hln hl ht1 hu hb
    go_enter Tryz.func23, Tryz.ntmps23
    go_wp2_with fail
    refine C.out.mono ?_
    rintro e w' ⟨rfl, hb⟩
    have HB := Lib.hid hb
    clear hb
    go_wp2
    go_ret
    exact ⟨by rw [← HP.out]; rfl, HB.out⟩
  · have hno : ∀ l : List UInt8, l.length = t.size → escV l r = if r ≤ 32 ∨ r = 127 then [92, 117, 123] ++ hexL r.toNat ++ [125] else if isSgs r = true then [92] ++ l else l := fun l e => by
      unfold escV
      rw [if_neg (by rw [e]; exact h1)]
    have hz := hno _ hln
    have HS := Lib.hid (fun w => isSigns_any r hr.1 w)
    by_cases h2 : r = 65533
    · subst h2
      have ht1 : (((t.size : Nat) : Int) == 1) = false := by simp; intro h; exact h1 ⟨rfl, by omega⟩
      have hZ2 : Z = t := by
        rw [hZ, hz, if_neg (by omega), if_neg (by decide)]
      have s0 : isSgs 65533 = false := by decide
      rw [s0] at HS
      rw [hZ2]
      clear hZ hT hln hno hz h1 hZ2 Z s0
      go_enter Tryz.func23, Tryz.ntmps23
      go_wp2_with fail
      refine (HS.out _).mono ?_
      rintro e w' ⟨rfl, hb⟩
      have HB := Lib.hid hb
      clear hb
      go_wp2
      go_ret
      exact ⟨rfl, HB.out⟩
    · have r0 : (r == 65533) = false := by simpa using h2
      by_cases h3 : r ≤ 32 ∨ r = 127
      · obtain ⟨u, rfl⟩ := Int.eq_ofNat_of_zero_le hr.1
        have C := Lib.hid (rformat_any u w hT (by show u < 16777216; omega))
        have hl := hexF_len 8 u
        have HP : Hid ((⟨#[92, 117, 123]⟩ : ByteArray) ++ ⟨(hexL u).toArray⟩ ++ ⟨#[125]⟩ = Z) := Lib.hid (by
          rw [hZ, hz, if_pos h3, bytes_add [92, 117, 123] (hexL u)]; exact bytes_add _ [125])
        have hsz : (⟨(hexL u).toArray⟩ : ByteArray).size ≤ 9 := by show (hexL u).toArray.size ≤ 9; simpa [hexL] using hl
        generalize (⟨(hexL u).toArray⟩ : ByteArray) = L at *
        have hsz2 : ((⟨#[92, 117, 123]⟩ : ByteArray) ++ L).size ≤ 12 := by rw [ByteArray.size_append]; show 3 + L.size ≤ 12; omega
        have hwr : RowKit.wrap64 ((u : Nat) : Int) = (u : Nat) := by unfold RowKit.wrap64; omega
        have h32 : (u : Int) ≤ 32 ∨ (u : Int) = 127 := by omega
        obtain ⟨z, hzz⟩ : ∃ z : Int, ((u : Nat) : Int) = z := ⟨_, rfl⟩
        rw [hzz] at C r0 hwr h32
        rw [hzz]
        clear hZ hT hln hno hz h1 h2 h3 hl hzz HS hr
        rcases h32 with h32 | h32
        · go_enter Tryz.func23, Tryz.ntmps23
          go_wp2_with fail
          refine C.out.mono ?_
          rintro e w' ⟨rfl, hb⟩
          have HB := Lib.hid hb
          clear hb
          go_wp2
          go_ret
          exact ⟨by rw [← HP.out]; rfl, HB.out⟩
        · subst h32
          go_enter Tryz.func23, Tryz.ntmps23
          go_wp2_with fail
          refine C.out.mono ?_
          rintro e w' ⟨rfl, hb⟩
          have HB := Lib.hid hb
          clear hb
          go_wp2
          go_ret
          exact ⟨by rw [← HP.out]; rfl, HB.out⟩
      · have r1 : ¬ r ≤ 32 := fun h => h3 (.inl h)
        have r1' : 32 < r := by omega
        have r2 : (r == 127) = false := by simp; exact fun h => h3 (.inr h)
        obtain ⟨sg, hsg⟩ : ∃ sg, isSgs r = sg := ⟨_, rfl⟩
        have hZ2 : Z = if sg = true then ⟨#[92]⟩ ++ t else t := by
          rw [hZ, hz, if_neg h3, hsg]
          split
          · rw [← bytes_add]
          · rfl
        rw [hsg] at HS
        clear hZ hT hln hno hz h1 h2 h3 hsg hr r1
        cases sg with
        | true =>
          have HZ : Hid ((⟨#[92]⟩ : ByteArray) ++ t = Z) := Lib.hid (by rw [hZ2]; rfl)
          clear hZ2
          go_enter Tryz.func23, Tryz.ntmps23
          go_wp2_with fail
          refine (HS.out _).mono ?_
          rintro e w' ⟨rfl, hb⟩
          have HB := Lib.hid hb
          clear hb
          go_wp2
          go_ret
          exact ⟨by rw [← HZ.out]; rfl, HB.out⟩
        | false =>
          have HZ : Hid (t = Z) := Lib.hid (by rw [hZ2]; rfl)
          clear hZ2
          go_enter Tryz.func23, Tryz.ntmps23
          go_wp2_with fail
          refine (HS.out _).mono ?_
          rintro e w' ⟨rfl, hb⟩
          have HB := Lib.hid hb
          clear hb
          go_wp2
          go_ret
          exact ⟨by rw [← HZ.out]; rfl, HB.out⟩
end Go.Proofs.YtbnnhbmnddaafaaGreatDoor
/- points.Places: the n-th of a kind. -/
namespace Go.Proofs.YtbnnhbmnddaafaaGreatDoor
open Go Go.RowKit Go.Kt Go.Shelf Go.Kt.Bits

theorem BTab.below {w w' : World} {n : Nat} (h : BTab w) (hn : 6 < n) (hb : Below n w w') : BTab w' := fun k hk => (hb.cell (p := ⟨6, k, none⟩) hn).trans (h k hk)

def NthOut (s : ByteArray) (k N : Nat) (w : World) (e : Ending) (w' : World) : Prop := ∃ x : Nat, IsNth (isK s k) N x ∧ x < s.size ∧ e = .returned (.int .i64 (x : Nat)) ∧ Below w.heap.size w w'

end Go.Proofs.YtbnnhbmnddaafaaGreatDoor
/- Scan's Quote. -/
namespace Go.Proofs.YtbnnhbmnddaafaaGreatDoor
open Go Go.RowKit Go.Kt Go.Kt.Rg Go.Shelf
attribute [local go_sem] Oper.semAt_some

def quoU (s : ByteArray) (i : Nat) : List UInt8 := escV (s.extract i (i + unitW s i)).data.toList (decP s (i : Nat)).1
def quoF (s : ByteArray) : Nat → Nat → List UInt8
  | 0, _ => []
  | f + 1, i => if i < s.size then quoU s i ++ quoF s f (i + unitW s i) else []
def quoV (s : ByteArray) : List UInt8 := if s.size = 0 then [39, 39] else quoF s s.size 0
theorem escV_len (u : List UInt8) (r : Int) (hu : u.length ≤ 4) : (escV u r).length ≤ 13 := by
  unfold escV
  have h1 := hexF_len 8 (u.getD 0 0).toNat
  have h2 := hexF_len 8 r.toNat
  split
  · simp only [List.length_append, List.length_cons, List.length_nil, hexL]; omega
  · split
    · simp only [List.length_append, List.length_cons, List.length_nil, hexL]; omega
    · split
      · simp only [List.length_append, List.length_cons, List.length_nil]; omega
      · omega

set_option maxRecDepth 100000 in
set_option maxHeartbeats 2000000 in
theorem quote_any (s : ByteArray) (w : World) (hE : SEnv w) (hB : BTab w) (hbt : 6 < w.heap.size) (hs : s.size ≤ 8796093022208) :
    Calls Tryz.prog 9 #[.string s] w fun e w' => e = .returned (.string ⟨(quoV s).toArray⟩) ∧ Below w.heap.size w w' := by
  by_cases h0 : s.size = 0
  · have hs0 : s = ⟨#[]⟩ := by
      apply ByteArray.ext
      exact Array.eq_empty_of_size_eq_zero h0
    subst hs0
    clear hE hB hbt hs h0
    go_enter Tryz.func9, Tryz.ntmps9
    go_wp2
    go_ret
    exact ⟨rfl, Below.refl _ _⟩
  · obtain ⟨R, hR⟩ : ∃ R, quoF s s.size 0 = R := ⟨_, rfl⟩
    have hQ : quoV s = R := by unfold quoV; rw [if_neg h0, hR]
    rw [hQ]
    have HR := Lib.hid hR
    have HE := Lib.hid hE
    have HB := Lib.hid hB
    have hne : s.toList.isEmpty = false := by
      rw [ByteArray.toList_eq, List.isEmpty_eq_false_iff]
      intro h
      apply h0
      rw [Lib.size_eq, h]; rfl
    clear hE hB hR hQ
    go_enter Tryz.func9, Tryz.ntmps9
    go_wp2
    go_loopw [] (fun wr => ∃ (pos f : Nat) (acc : List UInt8), acc ++ quoF s f pos = R ∧ s.size ≤ pos + f ∧ pos ≤ s.size ∧ acc.length ≤ 13 * pos ∧ Below w.heap.size w wr ∧ wr.heap[w.heap.size + 1]? = some (.stringIter s pos) ∧ Bld w.heap.size (fun b => w.heap.size + 2 ≤ b) acc wr)
      (fun wr => s.size - iterPos wr (w.heap.size + 1))
    case atStart =>
      have b0 : (w.alloc (.cells #[.pointer none, .slice none 0 0] 49 (0, 0))).heap[w.heap.size]? = some (.cells #[.pointer none, .slice none 0 0] 49 (0, 0)) := World.alloc_heap_new w _
      exact ⟨0, s.size, [], by simpa using HR.out, by omega, by omega, by simp, ((Below.refl _ w).alloc (Nat.le_refl _) _).alloc (by simp) _, alloc_at (by simp), ⟨_, _, .inl rfl, alloc_old b0, ⟨rfl, .inl ⟨rfl, rfl⟩⟩, by simp [Value.ownBlock], by simp [Value.ownBlock]⟩⟩
    case round =>
      obtain ⟨pos, f, acc, hp, hf, hps, hal, hb, hit, hbl⟩ := hrel
      have hlt : w.heap.size + 1 < wr.heap.size := (Array.getElem?_eq_some_iff.1 hit).1
      by_cases hpos : pos < s.size
      · obtain ⟨u1, u2, u3⟩ := unitW_bd s pos (by omega)
        have u3 := u3 hpos
        obtain ⟨f', rfl⟩ : ∃ f', f = f' + 1 := ⟨f - 1, by omega⟩
        have hun : quoF s (f' + 1) pos = quoU s pos ++ quoF s f' (pos + unitW s pos) := by rw [quoF, if_pos hpos]
        rw [hun] at hp
        have hdW : (Utf8.decode s pos).2 = unitW s pos := by unfold unitW; rw [if_pos hpos]
        have hdr : (decP s (pos : Nat)).1 = ((Utf8.decode s pos).1 : Int) := by rw [decP_in s pos hpos]
        have hdP : decP s (pos : Nat) = (((Utf8.decode s pos).1 : Int), ((unitW s pos : Nat) : Int)) := by rw [decP_in s pos hpos, hdW]
        have hrb : (Utf8.decode s pos).1 ≤ 2147483647 := decode_le s pos
        obtain ⟨W1, hW1⟩ : ∃ W1, wr.putObj (w.heap.size + 1) (.stringIter s (pos + unitW s pos)) = W1 := ⟨_, rfl⟩
        have hb1 : Below w.heap.size w W1 := by rw [← hW1]; exact hb.trans (below_putObj (by omega) _)
        have hit1 : W1.heap[w.heap.size + 1]? = some (.stringIter s (pos + unitW s pos)) := by rw [← hW1]; exact World.putObj_heap_same hlt
        have hk1 : Keep (fun b => b = w.heap.size + 1) wr W1 := by rw [← hW1]; exact Keep.putObj (X := fun b => b = w.heap.size + 1) (Keep.refl _ wr) (.inl rfl) _
        have hbl1 : Bld w.heap.size (fun b => w.heap.size + 2 ≤ b) acc W1 := hbl.keep hk1 (by omega) (fun b h1 h2 => by omega)
        have st1 := St.start hbl1
        have hnx : ∀ ty, (Instr.next (.pointer (some ⟨w.heap.size + 1, 0, none⟩)) true ty).run Tryz.prog wr = .ok (.tuple #[.bool true, .int .i64 pos, .int .i32 (Utf8.decode s pos).1]) W1 := fun ty => by
          rw [← hW1, ← hdW]; exact run_next_str wr (w.heap.size + 1) s pos ty hit hpos
        have hE1 := HE.out.below hb1
        have CD := Lib.hid (utfDecode_any s (pos : Nat) W1 hE1.tabs (by omega))
        rw [hdP] at CD
        have CE := Lib.hid (fun V (h : Below w.heap.size w V) => escaped_any (s.extract pos (pos + unitW s pos)) ((Utf8.decode s pos).1 : Nat) V (HB.out.below hbt h) ⟨by omega, by omega⟩ (by rw [ByteArray.size_extract]; omega))
        have HQU : Hid (escV (s.extract pos (pos + unitW s pos)).data.toList ((Utf8.decode s pos).1 : Nat) = quoU s pos) := Lib.hid (by unfold quoU; rw [hdr])
        rw [HQU.out] at CE
        have hql : (quoU s pos).length ≤ 13 := by rw [← HQU.out]; exact escV_len _ _ (by rw [← Lib.size_eq, ByteArray.size_extract]; omega)
        generalize quoU s pos = Q at *
        generalize (Utf8.decode s pos).1 = r at *
        generalize unitW s pos = v at *
        have HS1 := Lib.hid st1
        have HD := Lib.hid (And.intro hp (And.intro hal (And.intro hit (And.intro hit1 (And.intro hb1 (And.intro hf hql))))))
        have d1 : (pos : Int) ≤ pos + v := by omega
        have d2 : (pos : Int) + v ≤ s.size := by omega
        clear hp hal hit hit1 hb1 hf hql hun hdW hdr hdP hrb hW1 hk1 hbl1 hbl st1 hE1 HQU hb hlt
        have d3 : ((pos : Int) + (v : Int)).toNat = pos + v := by omega
        go_wp2_with fail
        refine CD.out.mono ?_
        rintro e w2 ⟨rfl, hb⟩
        have HS2 := Lib.hid (HS1.out.below hb)
        have HB2 := Lib.hid (HD.out.2.2.2.2.1.trans (hb.mono HD.out.2.2.2.2.1.size))
        clear hb
        go_wp2_with fail
        refine (CE.out _ HB2.out).mono ?_
        rintro e w3 ⟨rfl, hb⟩
        have HS3 := Lib.hid (HS2.out.below hb)
        have HB3 := Lib.hid (HB2.out.trans (hb.mono HB2.out.size))
        clear hb
        have CW := Lib.hid (HS3.out.ws Q (by have := HD.out; omega))
        go_wp2_with fail
        refine CW.out.mono ?_
        rintro e w4 ⟨rfl, hst⟩
        have HS4 := Lib.hid hst
        clear hst
        go_wp2
        go_roundw
        case rel =>
          obtain ⟨hp, hal, hit, hit1, hb1, hf, hql⟩ := HD.out
          have hz1 := hb1.size
          have hlt1 : w.heap.size + 1 < W1.heap.size := (Array.getElem?_eq_some_iff.1 hit1).1
          refine ⟨pos + v, f', acc ++ Q, by rw [List.append_assoc]; exact hp, by omega, by omega, by rw [List.length_append]; omega, ?_, ?_, ?_⟩
          · exact hb1.trans (HS4.out.2.below hz1 (by rintro b (h | h) <;> omega))
          · exact HS4.out.2.heap hit1 (by rintro (h | h) <;> omega)
          · exact HS4.out.1.weaken (by rintro b (h | h) <;> omega)
        case measure =>
          obtain ⟨hp, hal, hit, hit1, hb1, hf, hql⟩ := HD.out
          have h4 : w4.heap[w.heap.size + 1]? = some (.stringIter s (pos + v)) := HS4.out.2.heap hit1 (by rintro (h | h) <;> omega)
          rw [iterPos_eq h4, iterPos_eq hit]; omega
      · have hnx : ∀ ty, (Instr.next (.pointer (some ⟨w.heap.size + 1, 0, none⟩)) true ty).run Tryz.prog wr = .ok (.tuple #[.bool false]) wr := fun ty => run_next_str_end wr (w.heap.size + 1) s pos ty hit hpos
        have hqe : quoF s f pos = [] := by
          cases f with
          | zero => rfl
          | succ f => rw [quoF, if_neg hpos]
        have hRa : acc = R := by rw [← hp, hqe, List.append_nil]
        subst hRa
        have CS := Lib.hid (string_x w.heap.size _ acc wr hbl w.heap.size hb.size (Nat.le_refl _) (fun g h => by omega))
        have HB1 := Lib.hid hb
        clear hp hqe hbl hb hit hlt
        go_wp2_with fail
        refine CS.out.mono ?_
        rintro e w5 ⟨rfl, hb5, _⟩
        have HB5 := Lib.hid (HB1.out.trans hb5)
        clear hb5
        go_wp2
        go_ret
        exact ⟨rfl, HB5.out⟩
end Go.Proofs.YtbnnhbmnddaafaaGreatDoor
/- A file with a line end behind it: its units are the same. -/
namespace Go.Proofs.YtbnnhbmnddaafaaGreatDoor
open Go Go.RowKit Go.Kt Go.Shelf Go.Lib

abbrev nlB : ByteArray := ⟨#[10]⟩
theorem nl_size (s : ByteArray) : (s ++ nlB).size = s.size + 1 := by rw [ByteArray.size_append]; rfl
theorem nl_list (s : ByteArray) : (s ++ nlB).data.toList = s.data.toList ++ [10] := by simp [ByteArray.data_append]
theorem nl_B (s : ByteArray) (k : Nat) (h : k < s.size) : B (s ++ nlB) k = B s k := by
  unfold B
  rw [nl_list, List.getD_eq_getElem?_getD, List.getD_eq_getElem?_getD, List.getElem?_append_left (by simpa using h)]
theorem nl_at (s : ByteArray) : B (s ++ nlB) s.size = 10 := by
  unfold B
  rw [nl_list, List.getD_eq_getElem?_getD, List.getElem?_append_right (by simp)]
  simp
theorem decode_nl (s : ByteArray) (i : Nat) (hi : i < s.size) : Utf8.decode (s ++ nlB) i = Utf8.decode s i := by
  rw [decode_B, decode_B, nl_size, nl_B s i hi]
  generalize B s i = b0
  by_cases h1 : i + 1 < s.size
  · rw [nl_B s _ h1]
    generalize B s (i + 1) = b1
    by_cases h2 : i + 2 < s.size
    · rw [nl_B s _ h2]
      generalize B s (i + 2) = b2
      by_cases h3 : i + 3 < s.size
      · rw [nl_B s _ h3]
        generalize B s (i + 3) = b3
        unfold decodeN
        simp only [show 1 < s.size + 1 - i by omega, show 1 < s.size - i by omega, show 2 < s.size + 1 - i by omega, show 2 < s.size - i by omega, show 3 < s.size + 1 - i by omega, show 3 < s.size - i by omega]
      · have e : i + 3 = s.size := by omega
        rw [e, nl_at, B_out s s.size (Nat.le_refl _)]
        unfold decodeN
        simp only [show 1 < s.size + 1 - i by omega, show 1 < s.size - i by omega, show 2 < s.size + 1 - i by omega, show 2 < s.size - i by omega, show ¬ 3 < s.size - i by omega, show ¬ (10 / 64 = 2) by decide, and_false, if_false]
    · have e : i + 2 = s.size := by omega
      rw [e, nl_at, B_out s s.size (Nat.le_refl _)]
      unfold decodeN
      simp only [show 1 < s.size + 1 - i by omega, show 1 < s.size - i by omega, show ¬ 2 < s.size - i by omega, show ¬ (10 / 64 = 2) by decide, and_false, false_and, if_false]
  · have e : i + 1 = s.size := by omega
    rw [e, nl_at, B_out s s.size (Nat.le_refl _)]
    unfold decodeN
    simp only [show ¬ 1 < s.size - i by omega, show ¬ (10 / 64 = 2) by decide, and_false, false_and, if_false]
theorem decode_end (s : ByteArray) : Utf8.decode (s ++ nlB) s.size = (10, 1) := by
  rw [decode_B, nl_at, nl_size]
  unfold decodeN
  rw [if_pos (by decide)]
end Go.Proofs.YtbnnhbmnddaafaaGreatDoor
/- The scanner's step and its run, in plain words. -/
namespace Go.Proofs.YtbnnhbmnddaafaaGreatDoor
open Go Go.RowKit Go.Kt Go.Shelf Go.Lib

inductive PR where
  | took (c : Sc)
  | left (c : Sc)
  | bad (no : Nat) (p : Pl)
def unitL (s : ByteArray) (i : Nat) : List UInt8 := (s.extract i (i + unitW s i)).data.toList
def plainS (s : ByteArray) (c : Sc) (r : Int) : PR :=
  if r = 39 then .took { c with st := 5, quote := c.here }
  else if r = 92 then match unescV (s.extract c.here.2.2 s.size) with
    | none => .bad 9 c.here
    | some (t, k) => .took { c with st := 7, text := c.text ++ t, behind := c.here.2.2 + k }
  else if isBlk r = true then .left { c with st := 4 }
  else if isSgs r = true then .left { c with st := 4 }
  else .took { c with st := 4, text := c.text ++ unitL s c.here.2.2 }
def quotedS (s : ByteArray) (c : Sc) (r : Int) : PR :=
  if r = 39 then .took { c with st := 6 } else .took { c with text := c.text ++ unitL s c.here.2.2 }
def closingS (s : ByteArray) (c : Sc) (r : Int) : PR :=
  if r = 39 then .took { c with st := 5, text := c.text ++ [39] } else plainS s c r
def escapeS (s : ByteArray) (c : Sc) (r : Int) : PR :=
  if c.behind ≤ c.here.2.2 then plainS s c r else .took c
def pieceS (s : ByteArray) (c : Sc) (r : Int) : PR :=
  if c.st = 5 then quotedS s c r else if c.st = 6 then closingS s c r else if c.st = 7 then escapeS s c r else plainS s c r

inductive TR where
  | ok (c : Sc)
  | bad (no : Nat) (p : Pl)
def PR.out : PR → TR
  | .took c => .ok c
  | .left c => .ok c
  | .bad no p => .bad no p
def addT (c : Sc) (kind : Nat) (t : List UInt8) : Sc := { c with toks := c.toks ++ [⟨kind, t, c.from⟩] }
def encL (r : Int) : List UInt8 := (Utf8.encode r).data.toList
def sinceL (s : ByteArray) (c : Sc) : List UInt8 := (s.extract c.from.2.2 c.here.2.2).data.toList
def betweenS (s : ByteArray) (c : Sc) (r : Int) : TR :=
  if isBlk r = true then .ok { c with st := 0, «from» := c.here }
  else if r = 35 then .ok { c with st := 1, «from» := c.here }
  else if isSgn (encL r) = true then .ok { c with st := 2, «from» := c.here }
  else if r = 91 then .ok { c with st := 3, «from» := c.here }
  else if r = 93 then .bad 25 c.here
  else if r = 42 then .bad 4 c.here
  else (plainS s { c with st := 4, «from» := c.here, text := [] } r).out
def remarkS (s : ByteArray) (c : Sc) (r : Int) : TR :=
  if r = 10 then betweenS s { c with st := 1 } r else .ok { c with st := 1 }
def signS (s : ByteArray) (c : Sc) (r : Int) : TR :=
  if isSgn (sinceL s c ++ encL r) = true then .ok { c with st := 2 } else betweenS s (addT { c with st := 2 } 2 (sinceL s c)) r
def optionS (s : ByteArray) (c : Sc) (r : Int) : TR :=
  if r = 93 then .ok { addT { c with st := 3 } 3 (evnV (s.extract (c.from.2.2 + 1) c.here.2.2)) with st := 0 } else .ok { c with st := 3 }
def textS (s : ByteArray) (c : Sc) (r : Int) : TR := match pieceS s c r with
  | .took c => .ok c
  | .bad no p => .bad no p
  | .left c => betweenS s (addT c 1 c.text) r
def tokenS (s : ByteArray) (c : Sc) (r : Int) : TR :=
  if c.st = 0 then betweenS s c r else if c.st = 1 then remarkS s c r else if c.st = 2 then signS s c r else if c.st = 3 then optionS s c r else textS s c r

def runS (s : ByteArray) : Nat → Nat → Sc → TR
  | 0, _, c => .ok c
  | f + 1, i, c => if i < s.size + 1 then
      match tokenS s { c with here := plNext s c.here i } ((Utf8.decode (s ++ nlB) i).1 : Nat) with
      | .ok c' => runS s f (i + (Utf8.decode (s ++ nlB) i).2) c'
      | .bad no p => .bad no p
    else .ok c
def c0S : Sc := ⟨0, (1, 0, 0), (0, 0, 0), [], (0, 0, 0), 0, []⟩
inductive SR where
  | ok (l : List Tk)
  | bad (no line col : Nat)
def endS (c : Sc) : SR := if c.st = 3 then .bad 25 c.from.1 c.from.2.1 else if c.st = 5 then .bad 10 c.quote.1 c.quote.2.1 else .ok (c.toks ++ [⟨0, [], c.from⟩])
def scanS (s : ByteArray) : SR :=
  if 1048576 < s.size then .bad 5 0 0 else if 65536 ≤ nlN s then .bad 5 65537 1
  else match runS s (s.size + 1) 0 c0S with
    | .ok c => endS c
    | .bad no p => .bad no p.1 p.2.1

structure ScOk (s : ByteArray) (c : Sc) : Prop where
  f1 : c.from.2.2 ≤ c.here.2.2
  h1 : c.here.2.2 ≤ s.size
  opt : c.st = 3 → c.from.2.2 < c.here.2.2
  st : c.st ≤ 7
end Go.Proofs.YtbnnhbmnddaafaaGreatDoor
/- A SCOPE WHOSE JUMPS ARE WALKED ONE BY ONE: no invariant, no measure: at a goto the walk goes on at the label's rest with the very frame that the jump had; so many jumps at most. -/
namespace Go
def Exit.far (P : Program) (c : Code) (Q : Exit → Act → World → Prop) : Nat → Exit → Act → World → Prop
  | 0, .goto _, _, _ => False
  | n + 1, .goto l, a, w => ∃ rest, findLabel c l = some rest ∧ rest.wp P (Exit.far P c Q n) a w
  | _, e, a, w => Q e a w
section
variable {P : Program} {a : Act} {w : World} {Q : Exit → Act → World → Prop}
theorem Exit.far_of {c : Code} {e : Exit} (he : ∀ l, e ≠ .goto l) (h : Q e a w) : ∀ n, Exit.far P c Q n e a w := by
  intro n
  cases n <;> cases e <;> first | exact h | exact absurd rfl (he _)
theorem far_arrives {c : Code} {b : Frame} {k : List Item} {cs : List Frame} : ∀ (n : Nat) (X : Machine) (e : Exit) (a : Act) (w : World), Exit.far P c Q n e a w → Arrives P X b (.inScope c :: k) cs e a w → ∃ e' a' w', Q e' a' w' ∧ Arrives P X b k cs e' a' w' := by
  intro n
  induction n with
  | zero =>
    intro X e a w hq harr
    cases e with
    | normal => exact ⟨.normal, a, w, hq, Steps.trans harr (.one step_inScope)⟩
    | exit id => exact ⟨.exit id, a, w, hq, fun k' hk => harr k' (by simp [exitTo, hk])⟩
    | goto l => exact hq.elim
    | ret => exact ⟨_, a, w, hq, harr⟩
    | panic ch => exact ⟨_, a, w, hq, harr⟩
    | outgrown => exact ⟨_, a, w, hq, harr⟩
  | succ n ih =>
    intro X e a w hq harr
    cases e with
    | normal => exact ⟨.normal, a, w, hq, Steps.trans harr (.one step_inScope)⟩
    | exit id => exact ⟨.exit id, a, w, hq, fun k' hk => harr k' (by simp [exitTo, hk])⟩
    | goto l =>
      obtain ⟨rest, hf, hw⟩ := hq
      have hg : gotoIn l (.inScope c :: k) = some (.code rest :: .inScope c :: k) := by simp [gotoIn, hf]
      obtain ⟨e₃, a₃, w₃, hq₃, harr₃⟩ := hw b (.inScope c :: k) cs
      obtain ⟨e₂, a₂, w₂, hq₂, harr₂⟩ := ih _ e₃ a₃ w₃ hq₃ harr₃
      exact ⟨e₂, a₂, w₂, hq₂, .of_steps (harr _ hg) harr₂⟩
    | ret => exact ⟨_, a, w, hq, harr⟩
    | panic ch => exact ⟨_, a, w, hq, harr⟩
    | outgrown => exact ⟨_, a, w, hq, harr⟩
theorem wp_scope_far {c : Code} (N : Nat)
    (h : ∀ F : Nat → Exit → Act → World → Prop, (∀ n e a w, (∀ l, e ≠ .goto l) → Q e a w → F n e a w) → RowKit.Hid (∀ n l rest a w, findLabel c l = some rest → rest.wp P (F n) a w → F (n + 1) (.goto l) a w) → c.wp P (F N) a w) : (Code.scope c).wp P Q a w := by
  intro b k cs
  obtain ⟨e, a₁, w₁, hq, harr⟩ := h (Exit.far P c Q) (fun n e a w he hQ => Exit.far_of he hQ n) (Go.Lib.hid fun n l rest a w hf hw => ⟨rest, hf, hw⟩) b (.inScope c :: k) cs
  obtain ⟨e₂, a₂, w₂, hq₂, harr₂⟩ := far_arrives N _ e a₁ w₁ hq harr
  exact ⟨e₂, a₂, w₂, hq₂, .of_steps (.one step_scope) harr₂⟩
end
end Go
/- What is the same of any program: 'x.f = append(x.f, ..)' behind a pointer, in a drawn region (K12): block g holds the cells CS v, v the slice at the field; operation ia is the append, js the store, ib an element's block. -/
namespace Go.Kt
open Go Go.RowKit

section
variable {P : Program}
theorem wp_append_run {o : Oper} {a : Act} {w w' : World} {v y v' : Value} {K : Act → World → Prop} {Q : Exit → Act → World → Prop} {s x : Operand} {t u : TypeId}
    (ho : o.op = .call { callee := .builtin .append, args := #[s, x], argTypes := #[t, u] }) (hs : a.eval s = v) (hx : a.eval x = y) (hr : (Builtin.append_ #[t, u] o.type #[v, y]).run P w = .ok v' w') (h : K (a.put o.dst v') w') : o.wp P a w K Q := by
  unfold Oper.wp execOp
  simp only [ho, resolve, invoke, builtin, Sem.run_bind, Sem.run_pure, Result.andThen_ok, List.map_toArray, List.map_cons, List.map_nil, hs, hx, hr]
  exact h
end

structure FldR where
  g : Nat
  w : World
  kv : Value
  E : TypeId
  sz : Nat
  n : Nat
  m : Nat
  xs : List Value
  ys : List Value
  T : TypeId
  CS : Value → Array Value
  bs : Array Value
  ia : Nat
  js : Nat
  ib : Nat
  val : Nat → Option Value
variable {F : FldR}
def FldR.Row (F : FldR) (v : Value) (W : World) : Prop :=
  ∃ ao ln cp, v = .slice ao ln cp ∧ OwnS (fun b => (F.kv.ownBlock = some b ∨ F.w.heap.size ≤ b) ∧ b ≠ F.g) F.E F.sz v F.m F.ys W
theorem FldR.Row.keep {v : Value} {A B : World} {X : Nat → Prop} (h : F.Row v A) (hk : Keep X A B) (hX : ∀ b, X b → b = F.g) : F.Row v B := by
  obtain ⟨ao, ln, cp, e, ho⟩ := h
  exact ⟨ao, ln, cp, e, ho.keep hk (fun b hb hy => hy.2 (hX b hb))⟩
theorem FldR.Row.store {v u : Value} {A : World} {k : Nat} (h : F.Row v A) : F.Row v (A.setCell ⟨F.g, k, none⟩ u) :=
  h.keep (X := fun b => b = F.g) (Keep.setCell (X := fun b => b = F.g) (Keep.refl _ A) (p := ⟨F.g, k, none⟩) rfl u) (fun _ h => h)
theorem FldR.row_of {v' : Value} {ln : Nat} {W Y : World} (hz : F.w.heap.size ≤ W.heap.size) (hg : F.g < F.w.heap.size) (hkg : F.kv.ownBlock ≠ some F.g) (ho : OwnS (fun b => F.kv.ownBlock = some b ∨ W.heap.size ≤ b) F.E F.sz v' ln F.ys Y) (hm : ln = F.m) : F.Row v' Y := by
  subst hm
  have hY : OwnS (fun b => (F.kv.ownBlock = some b ∨ F.w.heap.size ≤ b) ∧ b ≠ F.g) F.E F.sz v' F.m F.ys Y := ho.weaken (by
    rintro b (h | h)
    · exact ⟨.inl h, fun e => hkg (e ▸ h)⟩
    · exact ⟨.inr (by omega), by omega⟩)
  rcases ho.shape with ⟨h, _⟩ | ⟨g', cap, h, _⟩
  · exact ⟨_, _, _, h, hY⟩
  · exact ⟨_, _, _, h, hY⟩
def FldR.S (F : FldR) (D : Nat → Bool) (X : World) : Prop :=
  (D F.js = false → X.heap[F.g]? = some (.cells (F.CS F.kv) F.T (0, 0))) ∧ (D F.ia = false → OwnS (fun b => b ≠ F.g) F.E F.sz F.kv F.n F.xs X) ∧ Keep (fun b => b = F.g ∨ F.kv.ownBlock = some b) F.w X
theorem orb_l {a b : Bool} (h : (a || b) = false) : a = false := by cases a <;> simp_all
variable {D : Nat → Bool} {X Y W : World} {i : Nat} {v u : Value}
theorem FldR.S.more (h : F.S D X) : F.S (fun j => D j || j == i) X := ⟨fun e => h.1 (orb_l e), fun e => h.2.1 (orb_l e), h.2.2⟩
theorem FldR.S.below (h : F.S D X) (hb : Below X.heap.size X Y) : F.S D Y :=
  ⟨fun e => (hb.block F.g (Array.getElem?_eq_some_iff.1 (h.1 e)).1).trans (h.1 e), fun e => (h.2.1 e).keep (X := fun _ => False) (Keep.of_all hb) (fun _ h => h.elim), h.2.2.then (hb.mono h.2.2.size)⟩
theorem FldR.S.app (h : F.S D X) (hkg : F.kv.ownBlock ≠ some F.g) (hj : D F.js = false) (hk : Keep (fun b => F.kv.ownBlock = some b) X Y) : F.S (fun j => D j || j == F.ia) Y :=
  ⟨fun _ => hk.heap (h.1 hj) hkg, fun e => by simp at e, h.2.2.trans (hk.weaken fun _ _ h => Or.inr h)⟩
theorem FldR.S.store {k : Nat} (h : F.S D X) : F.S (fun j => D j || j == F.js) (X.setCell ⟨F.g, k, none⟩ u) :=
  ⟨fun e => by simp at e, fun e => (h.2.1 (orb_l e)).keep (X := fun b => b = F.g) (Keep.setCell (X := fun b => b = F.g) (Keep.refl _ X) (p := ⟨F.g, k, none⟩) rfl u) (fun _ h1 h2 => h2 h1), h.2.2.setCell (Or.inl rfl) u⟩
def FldR.P (F : FldR) (i : Nat) (v : Value) (W : World) : Prop :=
  (∀ u, F.val i = some u → v = u) ∧ (i = F.ib → ∃ b, v = .slice (some ⟨b, 0, none⟩) 1 1 ∧ W.heap[b]? = some (.cells F.bs F.E (0, 0)) ∧ F.w.heap.size ≤ b) ∧ (i = F.ia → F.Row v W) ∧ (i = F.js → ∃ u, F.Row u W ∧ W.heap[F.g]? = some (.cells (F.CS u) F.T (0, 0)))
theorem FldR.P.is (h : F.P i v W) (e : F.val i = some u) : v = u := h.1 u e
theorem FldR.P.mk (e : F.val i = some v) (hi : i ≠ F.ib ∧ i ≠ F.ia ∧ i ≠ F.js) : F.P i v W :=
  ⟨fun u h => by rw [e] at h; exact Option.some.inj h, fun h => absurd h hi.1, fun h => absurd h hi.2.1, fun h => absurd h hi.2.2⟩
theorem FldR.P.bs (e : F.val F.ib = none) (hi : F.ib ≠ F.ia ∧ F.ib ≠ F.js) (h : ∃ b, v = .slice (some ⟨b, 0, none⟩) 1 1 ∧ W.heap[b]? = some (.cells F.bs F.E (0, 0)) ∧ F.w.heap.size ≤ b) : F.P F.ib v W :=
  ⟨fun u h => (by rw [e] at h; cases h), fun _ => h, fun h => absurd h hi.1, fun h => absurd h hi.2⟩
theorem FldR.P.row (e : F.val F.ia = none) (hi : F.ia ≠ F.ib ∧ F.ia ≠ F.js) (h : F.Row v W) : F.P F.ia v W :=
  ⟨fun u h => (by rw [e] at h; cases h), fun h => absurd h hi.1, fun _ => h, fun h => absurd h hi.2⟩
theorem FldR.P.last (e : F.val F.js = none) (hi : F.js ≠ F.ib ∧ F.js ≠ F.ia) (h : ∃ u, F.Row u W ∧ W.heap[F.g]? = some (.cells (F.CS u) F.T (0, 0))) : F.P F.js v W :=
  ⟨fun u h => (by rw [e] at h; cases h), fun h => absurd h hi.1, fun h => absurd h hi.2, fun _ => h⟩
theorem FldR.P.below (h : F.P i v W) (hb : Below W.heap.size W Y) : F.P i v Y := by
  have hk : Keep (fun _ => False) W Y := Keep.of_all hb
  refine ⟨h.1, fun e => ?_, fun e => (h.2.2.1 e).keep hk (fun _ h => h.elim), fun e => ?_⟩
  · obtain ⟨b, h1, h2, h3⟩ := h.2.1 e
    exact ⟨b, h1, hk.heap h2 (fun h => h), h3⟩
  · obtain ⟨u, h1, h2⟩ := h.2.2.2 e
    exact ⟨u, h1.keep hk (fun _ h => h.elim), hk.heap h2 (fun h => h)⟩
theorem FldR.P.app (h : F.P i v W) (hkv : ∀ b, F.kv.ownBlock = some b → b < F.w.heap.size) (hk : Keep (fun b => F.kv.ownBlock = some b) W Y) (ha : i ≠ F.ia) (hs : i ≠ F.js) : F.P i v Y := by
  refine ⟨h.1, fun e => ?_, fun e => absurd e ha, fun e => absurd e hs⟩
  obtain ⟨b, h1, h2, h3⟩ := h.2.1 e
  exact ⟨b, h1, hk.heap h2 (fun h => by have := hkv b h; omega), h3⟩
theorem FldR.P.store {k : Nat} (h : F.P i v W) (hgl : F.g < F.w.heap.size) (hs : i ≠ F.js) : F.P i v (W.setCell ⟨F.g, k, none⟩ u) := by
  have hk : Keep (fun b => b = F.g) W (W.setCell ⟨F.g, k, none⟩ u) := Keep.setCell (X := fun b => b = F.g) (Keep.refl _ W) (p := ⟨F.g, k, none⟩) rfl u
  refine ⟨h.1, fun e => ?_, fun e => (h.2.2.1 e).store, fun e => absurd e hs⟩
  obtain ⟨b, h1, h2, h3⟩ := h.2.1 e
  exact ⟨b, h1, hk.heap h2 (fun h => by omega), h3⟩
end Go.Kt
/- The scanner in memory, packed and unpacked: helpers for piece and token. -/
namespace Go.Proofs.YtbnnhbmnddaafaaGreatDoor
open Go Go.RowKit Go.Kt Go.Shelf Go.Lib

abbrev KeepG (D g : Nat) (A B : World) : Prop := Keep (fun b => b = g ∨ D ≤ b) A B
theorem toG {D g : Nat} {A B : World} (h : Below A.heap.size A B) : KeepG D g A B := Keep.of_all h

section
variable {D g : Nat} {w w' : World} {tv kv v' : Value} {n m n' m' : Nat} {xs ys xs' ys' : List Value} {T1 T2 : TypeId} {z1 z2 : Nat}
theorem own_text (hD : D ≤ w.heap.size) (hot : OwnS (fun b => D ≤ b ∧ b ≠ g) T1 z1 tv n xs w) (hok : OwnS (fun b => D ≤ b ∧ b ≠ g ∧ tv.ownBlock ≠ some b) T2 z2 kv m ys w)
    (hk : Keep (fun b => b = g ∨ tv.ownBlock = some b) w w') (ho : OwnS (fun b => (tv.ownBlock = some b ∨ w.heap.size ≤ b) ∧ b ≠ g) T1 z1 v' n' xs' w') :
    OwnS (fun b => D ≤ b ∧ b ≠ g) T1 z1 v' n' xs' w' ∧ OwnS (fun b => D ≤ b ∧ b ≠ g ∧ v'.ownBlock ≠ some b) T2 z2 kv m ys w' := by
  refine ⟨ho.weaken ?_, ?_⟩
  · rintro b ⟨h | h, h2⟩
    · exact ⟨(hot.2 b h).1, h2⟩
    · exact ⟨by omega, h2⟩
  · have h1 : OwnS (fun b => D ≤ b ∧ b ≠ g ∧ tv.ownBlock ≠ some b) T2 z2 kv m ys w' := hok.keep hk (fun b hx hb => by
      rcases hx with h | h
      · exact hb.2.1 h
      · exact hb.2.2 h)
    refine ⟨h1.1, fun b hb => ?_⟩
    obtain ⟨q1, q2, q3⟩ := h1.2 b hb
    refine ⟨q1, q2, fun e => ?_⟩
    obtain ⟨h | h, _⟩ := ho.2 b e
    · exact q3 h
    · have := (hok.1.lt b hb).2; omega
theorem own_toks (hD : D ≤ w.heap.size) (hot : OwnS (fun b => D ≤ b ∧ b ≠ g) T1 z1 tv n xs w) (hok : OwnS (fun b => D ≤ b ∧ b ≠ g ∧ tv.ownBlock ≠ some b) T2 z2 kv m ys w)
    (hk : Keep (fun b => b = g ∨ kv.ownBlock = some b) w w') (ho : OwnS (fun b => (kv.ownBlock = some b ∨ w.heap.size ≤ b) ∧ b ≠ g) T2 z2 v' m' ys' w') :
    OwnS (fun b => D ≤ b ∧ b ≠ g) T1 z1 tv n xs w' ∧ OwnS (fun b => D ≤ b ∧ b ≠ g ∧ tv.ownBlock ≠ some b) T2 z2 v' m' ys' w' := by
  refine ⟨?_, ?_⟩
  · exact hot.keepX hk (fun b hx hb => by
      rcases hx with h | h
      · exact (hot.2 b hb).2 h
      · exact (hok.2 b h).2.2 hb)
  · refine ⟨ho.1, fun b hb => ?_⟩
    obtain ⟨h | h, h2⟩ := ho.2 b hb
    · exact hok.2 b h
    · refine ⟨by omega, h2, fun e => ?_⟩
      have := (hot.1.lt b e).2; omega
end

section
variable {W : World} {g : Nat} {s : ByteArray} {st l1 c1 i1 l2 c2 i2 l3 c3 i3 bh : Int} {tv kv : Value} {T : TypeId}
theorem set_q {a b c : Int} (h : W.heap[g]? = some (.cells (scC s st l1 c1 i1 l2 c2 i2 tv l3 c3 i3 bh kv) T (0, 0))) :
    (((W.setCell ⟨g, 9, none⟩ (.int .i64 a)).setCell ⟨g, 10, none⟩ (.int .i64 b)).setCell ⟨g, 11, none⟩ (.int .i64 c)).heap[g]? = some (.cells (scC s st l1 c1 i1 l2 c2 i2 tv a b c bh kv) T (0, 0)) := by
  have hlt := (Array.getElem?_eq_some_iff.1 h).1
  have h' : W.heap[g] = .cells (scC s st l1 c1 i1 l2 c2 i2 tv l3 c3 i3 bh kv) T (0, 0) := by rw [Array.getElem?_eq_getElem hlt] at h; exact Option.some.inj h
  simp [World.setCell, hlt, Array.getElem_modify, h']
theorem set_f {a b c : Int} (h : W.heap[g]? = some (.cells (scC s st l1 c1 i1 l2 c2 i2 tv l3 c3 i3 bh kv) T (0, 0))) :
    (((W.setCell ⟨g, 5, none⟩ (.int .i64 a)).setCell ⟨g, 6, none⟩ (.int .i64 b)).setCell ⟨g, 7, none⟩ (.int .i64 c)).heap[g]? = some (.cells (scC s st l1 c1 i1 a b c tv l3 c3 i3 bh kv) T (0, 0)) := by
  have hlt := (Array.getElem?_eq_some_iff.1 h).1
  have h' : W.heap[g] = .cells (scC s st l1 c1 i1 l2 c2 i2 tv l3 c3 i3 bh kv) T (0, 0) := by rw [Array.getElem?_eq_getElem hlt] at h; exact Option.some.inj h
  simp [World.setCell, hlt, Array.getElem_modify, h']
theorem set_h {a b c : Int} (h : W.heap[g]? = some (.cells (scC s st l1 c1 i1 l2 c2 i2 tv l3 c3 i3 bh kv) T (0, 0))) :
    (((W.setCell ⟨g, 2, none⟩ (.int .i64 a)).setCell ⟨g, 3, none⟩ (.int .i64 b)).setCell ⟨g, 4, none⟩ (.int .i64 c)).heap[g]? = some (.cells (scC s st a b c l2 c2 i2 tv l3 c3 i3 bh kv) T (0, 0)) := by
  have hlt := (Array.getElem?_eq_some_iff.1 h).1
  have h' : W.heap[g] = .cells (scC s st l1 c1 i1 l2 c2 i2 tv l3 c3 i3 bh kv) T (0, 0) := by rw [Array.getElem?_eq_getElem hlt] at h; exact Option.some.inj h
  simp [World.setCell, hlt, Array.getElem_modify, h']
theorem keep_set {A B : World} {k : Nat} {u : Value} (h : Keep (fun b => b = g) A B) : Keep (fun b => b = g) A (B.setCell ⟨g, k, none⟩ u) := Keep.setCell (X := fun b => b = g) h (p := ⟨g, k, none⟩) rfl u
end
def Rows (D g : Nat) (tv kv : Value) (x : List UInt8) (l : List Tk) (w : World) : Prop :=
  OwnS (fun b => D ≤ b ∧ b ≠ g) 5 1 tv x.length (u8V x) w ∧ OwnS (fun b => D ≤ b ∧ b ≠ g ∧ tv.ownBlock ≠ some b) 30 5 kv l.length (tksC l) w
section
variable {D g : Nat} {w W : World} {tv kv v' : Value} {x x' : List UInt8} {l l' : List Tk}
theorem Rows.keepg (h : Rows D g tv kv x l w) (hk : Keep (fun b => b = g) w W) : Rows D g tv kv x l W :=
  ⟨h.1.keep hk (fun _ e hb => hb.2 e), h.2.keep hk (fun _ e hb => hb.2.1 e)⟩
theorem Rows.below (h : Rows D g tv kv x l w) (hb : Below w.heap.size w W) : Rows D g tv kv x l W :=
  ⟨h.1.keep (X := fun _ => False) (Keep.of_all hb) (fun _ h => h.elim), h.2.keep (X := fun _ => False) (Keep.of_all hb) (fun _ h => h.elim)⟩
theorem Rows.text (h : Rows D g tv kv x l w) (hD : D ≤ w.heap.size) (hk : Keep (fun b => b = g ∨ tv.ownBlock = some b) w W)
    (ho : OwnS (fun b => (tv.ownBlock = some b ∨ w.heap.size ≤ b) ∧ b ≠ g) 5 1 v' x'.length (u8V x') W) : Rows D g v' kv x' l W := own_text hD h.1 h.2 hk ho
theorem Rows.toks (h : Rows D g tv kv x l w) (hD : D ≤ w.heap.size) (hk : Keep (fun b => b = g ∨ kv.ownBlock = some b) w W)
    (ho : OwnS (fun b => (kv.ownBlock = some b ∨ w.heap.size ≤ b) ∧ b ≠ g) 30 5 v' l'.length (tksC l') W) : Rows D g tv v' x l' W := own_toks hD h.1 h.2 hk ho
theorem Rows.nil (h : Rows D g tv kv x l w) : Rows D g (.slice .none 0 0) kv [] l w := ⟨own_nil _ _ _ _, h.2.1, fun b hb => ⟨(h.2.2 b hb).1, (h.2.2 b hb).2.1, by simp [Value.ownBlock]⟩⟩
theorem Rows.belowg (_hD : D ≤ w.heap.size) (_hg : True) (hk : Keep (fun b => b = g) w W) : KeepG D g w W := hk.weaken fun _ _ e => .inl e
theorem Rows.belowt (h : Rows D g tv kv x l w) (_hD : D ≤ w.heap.size) (_hg : True) (hk : Keep (fun b => b = g ∨ tv.ownBlock = some b) w W) : KeepG D g w W :=
  hk.weaken fun b _ e => by rcases e with e | e; exact .inl e; exact .inr (h.1.2 b e).1
theorem Rows.belowk (h : Rows D g tv kv x l w) (_hD : D ≤ w.heap.size) (_hg : True) (hk : Keep (fun b => b = g ∨ kv.ownBlock = some b) w W) : KeepG D g w W :=
  hk.weaken fun b _ e => by rcases e with e | e; exact .inl e; exact .inr (h.2.2 b e).1
theorem ScAt.of {s : ByteArray} {c : Sc} (hg : w.heap[g]? = some (.cells (scA s c tv kv) 43 (0, 0))) (hD : True) (h : Rows D g tv kv c.text c.toks w) : ScAt D g s c w := ⟨tv, kv, hg, hD, h⟩
end

def PieceOut (D g : Nat) (s : ByteArray) (w : World) (o : PR) (e : Ending) (w' : World) : Prop := KeepG D g w w' ∧ match o with
  | .took c => e = .returned (.tuple #[.bool true, .nilIface]) ∧ ScAt D g s c w'
  | .left c => e = .returned (.tuple #[.bool false, .nilIface]) ∧ ScAt D g s c w'
  | .bad no p => e = .returned (.tuple #[.bool true, fltV no (p.1 : Nat) (p.2.1 : Nat)])
end Go.Proofs.YtbnnhbmnddaafaaGreatDoor
