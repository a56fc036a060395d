/- The document's text of numbers. -/
import Derived.Test.YtpddpglccjbpfaaDoorCb
namespace Go.Proofs.YtpddpglccjbpfaaDoor
open Go Go.RowKit Go.Kt Go.Shelf

theorem conv1 (W : World) (x : Int) (hx : 0 ≤ x) (hx' : x < 256) :
    (convert 61 9 (.slice (some ⟨W.heap.size, 0, none⟩) 1 1)).run Tryd.prog (W.alloc (.cells #[.int .u8 x] 5)) = .ok (.string ⟨#[UInt8.ofNat x.toNat]⟩) (W.alloc (.cells #[.int .u8 x] 5)) := by
  have := run_convert_bytes_back (P := Tryd.prog) (W.alloc (.cells #[.int .u8 x] 5)) 61 9 5 ⟨W.heap.size, 0, none⟩ 1 [UInt8.ofNat x.toNat] Tryd.underlying61 Tryd.underlying5 Tryd.underlying9 (fun j hj => by
    simp at hj; subst hj
    rw [Addr.add_lit, Lib.cell_of_heap (World.alloc_heap_new W _)]
    simp; omega)
  simpa using this
theorem conv2 (W : World) (x y : Int) (hx : 0 ≤ x) (hx' : x < 256) (hy : 0 ≤ y) (hy' : y < 256) :
    (convert 61 9 (.slice (some ⟨W.heap.size, 0, none⟩) 2 2)).run Tryd.prog (W.alloc (.cells #[.int .u8 x, .int .u8 y] 5)) = .ok (.string ⟨#[UInt8.ofNat x.toNat, UInt8.ofNat y.toNat]⟩) (W.alloc (.cells #[.int .u8 x, .int .u8 y] 5)) := by
  have := run_convert_bytes_back (P := Tryd.prog) (W.alloc (.cells #[.int .u8 x, .int .u8 y] 5)) 61 9 5 ⟨W.heap.size, 0, none⟩ 2 [UInt8.ofNat x.toNat, UInt8.ofNat y.toNat] Tryd.underlying61 Tryd.underlying5 Tryd.underlying9 (fun j hj => by
    simp at hj
    rw [Addr.add_lit, Lib.cell_of_heap (World.alloc_heap_new W _)]
    rcases (by omega : j = 0 ∨ j = 1) with rfl | rfl <;> simp <;> omega)
  simpa using this
theorem conv3 (W : World) (x y z : Int) (hx : 0 ≤ x) (hx' : x < 256) (hy : 0 ≤ y) (hy' : y < 256) (hz : 0 ≤ z) (hz' : z < 256) :
    (convert 61 9 (.slice (some ⟨W.heap.size, 0, none⟩) 3 3)).run Tryd.prog (W.alloc (.cells #[.int .u8 x, .int .u8 y, .int .u8 z] 5)) = .ok (.string ⟨#[UInt8.ofNat x.toNat, UInt8.ofNat y.toNat, UInt8.ofNat z.toNat]⟩) (W.alloc (.cells #[.int .u8 x, .int .u8 y, .int .u8 z] 5)) := by
  have := run_convert_bytes_back (P := Tryd.prog) (W.alloc (.cells #[.int .u8 x, .int .u8 y, .int .u8 z] 5)) 61 9 5 ⟨W.heap.size, 0, none⟩ 3 [UInt8.ofNat x.toNat, UInt8.ofNat y.toNat, UInt8.ofNat z.toNat] Tryd.underlying61 Tryd.underlying5 Tryd.underlying9 (fun j hj => by
    simp at hj
    rw [Addr.add_lit, Lib.cell_of_heap (World.alloc_heap_new W _)]
    rcases (by omega : j = 0 ∨ j = 1 ∨ j = 2) with rfl | rfl | rfl <;> simp <;> omega)
  simpa using this
theorem conv4 (W : World) (x y z u : Int) (hx : 0 ≤ x) (hx' : x < 256) (hy : 0 ≤ y) (hy' : y < 256) (hz : 0 ≤ z) (hz' : z < 256) (hu : 0 ≤ u) (hu' : u < 256) :
    (convert 61 9 (.slice (some ⟨W.heap.size, 0, none⟩) 4 4)).run Tryd.prog (W.alloc (.cells #[.int .u8 x, .int .u8 y, .int .u8 z, .int .u8 u] 5)) = .ok (.string ⟨#[UInt8.ofNat x.toNat, UInt8.ofNat y.toNat, UInt8.ofNat z.toNat, UInt8.ofNat u.toNat]⟩) (W.alloc (.cells #[.int .u8 x, .int .u8 y, .int .u8 z, .int .u8 u] 5)) := by
  have := run_convert_bytes_back (P := Tryd.prog) (W.alloc (.cells #[.int .u8 x, .int .u8 y, .int .u8 z, .int .u8 u] 5)) 61 9 5 ⟨W.heap.size, 0, none⟩ 4 [UInt8.ofNat x.toNat, UInt8.ofNat y.toNat, UInt8.ofNat z.toNat, UInt8.ofNat u.toNat] Tryd.underlying61 Tryd.underlying5 Tryd.underlying9 (fun j hj => by
    simp at hj
    rw [Addr.add_lit, Lib.cell_of_heap (World.alloc_heap_new W _)]
    rcases (by omega : j = 0 ∨ j = 1 ∨ j = 2 ∨ j = 3) with rfl | rfl | rfl | rfl <;> simp <;> omega)
  simpa using this

/-- The bytes of a character's number. -/
def encC (c : Int) : ByteArray :=
  if c < 128 then ⟨#[UInt8.ofNat c.toNat]⟩
  else if c < 2048 then ⟨#[UInt8.ofNat (192 + c / 64).toNat, UInt8.ofNat (128 + c % 64).toNat]⟩
  else if c < 65536 then ⟨#[UInt8.ofNat (224 + c / 4096).toNat, UInt8.ofNat (128 + c / 64 % 64).toNat, UInt8.ofNat (128 + c % 64).toNat]⟩
  else ⟨#[UInt8.ofNat (240 + c / 262144).toNat, UInt8.ofNat (128 + c / 4096 % 64).toNat, UInt8.ofNat (128 + c / 64 % 64).toNat, UInt8.ofNat (128 + c % 64).toNat]⟩
theorem encode_C (r : Int) : Utf8.encode r = encC (if Utf8.valid r then r else 65533) := by
  unfold Utf8.encode encC
  have hr : Utf8.valid r = true → 0 ≤ r ∧ r ≤ 1114111 := by unfold Utf8.valid; simp; omega
  by_cases h : Utf8.valid r = true
  · obtain ⟨h0, h1⟩ := hr h
    obtain ⟨c, rfl⟩ := Int.eq_ofNat_of_zero_le h0
    simp only [h, if_true, Int.toNat_natCast]
    by_cases a1 : c < 128
    · rw [if_pos a1, if_pos (show (c : Int) < 128 by omega)]
    · rw [if_neg a1, if_neg (show ¬ (c : Int) < 128 by omega)]
      by_cases a2 : c < 2048
      · rw [if_pos a2, if_pos (show (c : Int) < 2048 by omega)]
        congr 5
      · rw [if_neg a2, if_neg (show ¬ (c : Int) < 2048 by omega)]
        by_cases a3 : c < 65536
        · rw [if_pos a3, if_pos (show (c : Int) < 65536 by omega)]
          congr 5
        · rw [if_neg a3, if_neg (show ¬ (c : Int) < 65536 by omega)]
          congr 5
  · simp only [h, if_false, Bool.false_eq_true]
    rfl

end Go.Proofs.YtpddpglccjbpfaaDoor
