/- ScanQuote: the document's Quote, point by point, is the program's: the mathematics; bytes appended. -/
import Derived.Test.YtbnnhbmnddaafaaGreatDoorGz15
import Derived.Test.YtbnnhbmnddaafaaGreatDoorGz12
import Derived.Deep.AppendLies
namespace Go.Proofs.YtbnnhbmnddaafaaGreatDoor
open Go Go.RowKit Go.Kt Go.Kt.Rg Go.Shelf Go.Lib

def qptV (c : Int) : List UInt8 :=
  if 1114112 ≤ c then [92, 120, hexD ((c % 256).toNat / 16), hexD ((c % 256).toNat % 16)]
  else if c ≤ 32 ∨ c = 127 then [92, 117, 123] ++ (if 16 ≤ c then [hexD ((c % 256).toNat / 16)] else []) ++ [hexD ((c % 256).toNat % 16), 125]
  else (if c < 128 ∧ isSgs c = true then [92] else []) ++ bytesP c
theorem hexL_hi : ∀ b, b < 256 → 16 ≤ b → hexL b = [hexD (b / 16), hexD (b % 16)] := by decide +kernel
theorem hexL_lo1 : ∀ b, b < 16 → hexL b = [hexD (b % 16)] := by decide +kernel
theorem quoU_pt (s : ByteArray) (i : Nat) (hi : i < s.size) : quoU s i = qptV ((ptU s i).1 : Nat) := by
  have hw := unitW_dec hi
  obtain ⟨d1, d2, d3⟩ := dec_width s i hi
  have hdP : (decP s (i : Nat)).1 = ((Utf8.decode s i).1 : Int) := by rw [decP_in s i hi]
  have hU : quoU s i = escV (seg s i (i + unitW s i)) ((Utf8.decode s i).1 : Nat) := by unfold quoU; rw [hdP]; rfl
  have hB := B_lt s i
  rw [hU]
  rcases ptU_cases s i hi with ⟨hd, hp, hb⟩ | ⟨w, w1, w4, hws, hwi, hne, hp, hw2, hc, hby⟩
  · have hw1 : unitW s i = 1 := by rw [hw, hd]
    rw [hw1, one_byte hi, hp]
    unfold escV qptV
    rw [if_pos ⟨by rw [hd]; rfl, rfl⟩, if_pos (by simp only; omega)]
    have e1 : (([UInt8.ofNat (B s i)] : List UInt8).getD 0 0).toNat = B s i := by simp; omega
    have e2 : ((((1114112 + B s i : Nat) : Int)) % 256).toNat = B s i := by omega
    rw [e1, hexL_hi _ hB (by omega)]
    simp only
    rw [e2]
    rfl
  · rw [hp]
    obtain ⟨r, hr⟩ : ∃ r, (Utf8.decode s i).1 = r := ⟨_, rfl⟩
    have hseg : seg s i (i + unitW s i) = bytesP (r : Nat) := by rw [hw, hw2, ← hr]; exact hby.symm
    have hcr : charB (r : Nat) = true := by rw [← hr]; exact hc
    have hcb := (charB_iff (r : Nat)).1 hcr
    have hn1 : ¬ (((r : Nat) : Int) = 65533 ∧ (seg s i (i + unitW s i)).length = 1) := by
      rintro ⟨h1, h2⟩
      rw [seg_len s i _ (by omega) (by omega)] at h2
      exact hne (Prod.ext (by rw [hr]; simp only; omega) (by simp only; omega))
    rw [hr]
    unfold escV qptV
    have hno : ¬ (1114112 : Int) ≤ ((r : Nat) : Int) := by omega
    rw [if_neg hn1]
    by_cases h2 : ((r : Nat) : Int) ≤ 32 ∨ ((r : Nat) : Int) = 127
    · rw [if_pos h2, if_neg hno, if_pos h2]
      have e2 : (((r : Nat) : Int) % 256).toNat = r := by omega
      rw [e2, Int.toNat_natCast]
      by_cases h16 : 16 ≤ r
      · rw [if_pos (by omega), hexL_hi r (by omega) h16]; rfl
      · rw [if_neg (by omega), hexL_lo1 r (by omega)]; rfl
    · rw [if_neg h2, if_neg hno, if_neg h2, hseg]
      by_cases h3 : isSgs (r : Nat) = true
      · have := sgs_lt h3
        rw [if_pos h3, if_pos ⟨by omega, h3⟩]
      · rw [if_neg h3, if_neg (fun h => h3 h.2)]; rfl
theorem quoF_pts (s : ByteArray) : ∀ (f i : Nat), i ≤ s.size → quoF s f i = (ptL s (unitsF s f i)).flatMap qptV := by
  intro f
  induction f with
  | zero => intro i _; rfl
  | succ f ih =>
    intro i hi
    rw [quoF, unitsF]
    split
    · rename_i h
      have hw := unitW_dec h
      have := (dec_width s i h).2.2
      rw [quoU_pt s i h, hw, ih _ (by omega)]
      simp [ptL]
    · simp [ptL]
theorem quoV_pts (s : ByteArray) (h : s.size ≠ 0) : quoV s = (pts s).flatMap qptV := by
  unfold quoV
  rw [if_neg h, quoF_pts s _ _ (Nat.zero_le _)]
  rfl
theorem qptV_len (c : Int) : (qptV c).length ≤ 7 := by
  have := bytesP_len c
  unfold qptV
  split
  · simp
  · split
    · split <;> simp
    · split <;> simp only [List.length_append, List.length_cons, List.length_nil] <;> omega

theorem append_bs (W : World) {Y : Nat → Prop} {v : Value} {n : Nat} {xs : List Value} (hown : OwnS Y 5 1 v n xs W) (news : List Value) (m : Nat) (hl : news.length = m) (h1 : ∀ u ∈ news, u.oneCell' = true) (hm : 0 < m) (h63 : n + m ≤ 140737488355328) :
    ∃ g cap w', (∀ ty, (Builtin.append_ #[35, 35] ty #[v, .slice (some ⟨W.heap.size, 0, none⟩) m m]).run Tryz.prog (W.alloc (.cells news.toArray 5)) = .ok (.slice (some ⟨g, 0, none⟩) (n + m) cap) w') ∧
      OwnS (fun b => v.ownBlock = some b ∨ W.heap.size ≤ b) 5 1 (.slice (some ⟨g, 0, none⟩) (n + m) cap) (n + m) (xs ++ news) w' ∧ Keep (fun b => v.ownBlock = some b) W w' := by
  obtain ⟨ti, hti, hz, hs1, hb1⟩ := info_parts tinfo5
  have hbl : (W.alloc (.cells news.toArray 5)).heap[W.heap.size]? = some (.cells news.toArray 5 (0, 0)) := World.alloc_heap_new W _
  have hc : ∀ j u, news[j]? = some u → (W.alloc (.cells news.toArray 5)).cell? ((⟨W.heap.size, 0, none⟩ : Addr).add j) = some u := fun j u hj => by
    rw [Addr.add_lit, Lib.cell_of_heap hbl]
    simpa using hj
  obtain ⟨g2, cap, w2, hr2, ho2, hgr, hat, _⟩ := run_append_lies (P := Tryz.prog) (W.alloc (.cells news.toArray 5)) 35 35 0 5 ti (.int .u8 0) 1 1 Tryz.underlying35 hti hz hs1 hb1 rfl (by decide) v n xs (hown.1.alloc _) ⟨W.heap.size, 0, none⟩ m m news (by omega) hc h1 hm (by unfold maxLen; omega) (by omega) (Nat.zero_le _) _ rfl
  refine ⟨g2, cap, w2, fun ty => hr2, ⟨ho2, fun b hb => ?_⟩, ((Keep.refl _ W).alloc _).trans (keep_grown hgr)⟩
  have : g2 = b := by simpa [Value.ownBlock] using hb
  subst this
  rcases hat with h | h
  · exact .inl h
  · exact .inr (by have : (W.alloc (.cells news.toArray 5)).heap.size = W.heap.size + 1 := by simp
                   omega)
end Go.Proofs.YtbnnhbmnddaafaaGreatDoor
