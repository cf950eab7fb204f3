/-
  The walk of the reference's splitting of a line. A premise: the text is no longer than 65536 bytes.
-/
import Derived.Test.YtjidopgohdlfdaaGreatDoorLH
import Derived.Test.YtjidopgohdlfdaaGreatDoorLI
import Derived.StillTailTactics
import Derived.Lib.BufferRead
namespace Go.Proofs.YtjidopgohdlfdaaGreatDoor.S4
open Go.RowKit Ln

theorem conv_one (w : World) (x : Int) (h0 : 0 ≤ x) (h1 : x < 256) : (convert 45 9 (.slice (some ⟨w.heap.size, 0, none⟩) 1 1)).run Tryz.prog (w.alloc (.cells #[.int .u8 x] 5)) = .ok (.string ⟨#[UInt8.ofNat x.toNat]⟩) (w.alloc (.cells #[.int .u8 x] 5)) := by
  refine run_convert_bytes_back _ 45 9 5 ⟨w.heap.size, 0, none⟩ 1 [UInt8.ofNat x.toNat] Tryz.underlying45 Tryz.underlying5 Tryz.underlying9 (Lib.bytes_of_row (heap_alloc_new w _) ?_)
  have e : ((UInt8.ofNat x.toNat).toNat : Int) = x := by simp; omega
  simp only [Lib.byteCells, List.map_cons, List.map_nil, e]
  rfl
/-! ### What the reference's reader does at one byte -/
section
variable {out : List (List UInt8)} {q c : UInt8} {op cl : Bool} {now t : List UInt8}
theorem rs_dead (h1 : cl = true) (h2 : gapC c = false) : go out q op cl now 0 (c :: t) = none := by
  rw [go, if_pos ⟨h1, h2⟩]
theorem rs_gap (h1 : gapC c = true) : go out 0 op cl now 0 (c :: t) = go (if op then out ++ [now] else out) 0 false false [] 0 t := by
  rw [go, if_neg (by simp [h1]), if_pos rfl, if_pos h1]
theorem rs_open (h1 : cl = false) (h2 : quoteC c = true) : go out 0 op cl now 0 (c :: t) = go out c true false now 0 t := by
  rw [go, if_neg (by simp [h1]), if_pos rfl, if_neg (by simp [quote_not_blank h2]), if_pos h2]
theorem rs_bare (h1 : cl = false) (h2 : gapC c = false) (h3 : quoteC c = false) : go out 0 op cl now 0 (c :: t) = go out 0 true false (now ++ [c]) 0 t := by
  rw [go, if_neg (by simp [h1]), if_pos rfl, if_neg (by simp [h2]), if_neg (by simp [h3])]
theorem rs_close (h0 : q ≠ 0) (h1 : cl = true → gapC c = true) (h2 : c = q) : go out q op cl now 0 (c :: t) = go out 0 op true now 0 t := by
  rw [go, if_neg (by rintro ⟨a, b⟩; rw [h1 a] at b; cases b), if_neg h0, if_pos h2]
theorem rs_in (h0 : q ≠ 0) (h1 : cl = true → gapC c = true) (h2 : c ≠ q) : go out q op cl now 0 (c :: t) = go out q op false (now ++ [(meantF q c t).1]) 0 (t.drop ((meantF q c t).2 - 1)) := by
  rw [go, if_neg (by rintro ⟨a, b⟩; rw [h1 a] at b; cases b), if_neg h0, if_neg h2, go_skip]
  have := meantF_pos q c t
  omega
end
end Go.Proofs.YtjidopgohdlfdaaGreatDoor.S4
