/-
  The document's Seal. No condition but the lengths that Go's own strings have.
-/
import Derived.Test.YtbbhjhnfjkfklaaDoorB
import Derived.Laws.BytesString
import Derived.Lib.BufferRead
namespace Go.Proofs.YtbbhjhnfjkfklaaDoor
open Go.RowKit

def sumB (v : Nat) : ByteArray := ⟨#[UInt8.ofNat v, UInt8.ofNat (v / 256), UInt8.ofNat (v / 65536), UInt8.ofNat (v / 16777216)]⟩
def sealB (s : ByteArray) : ByteArray := s ++ sumB (ofN (bt s))
theorem conv4 (w : World) (x0 x1 x2 x3 : Int) (h0 : 0 ≤ x0 ∧ x0 < 256) (h1 : 0 ≤ x1 ∧ x1 < 256) (h2 : 0 ≤ x2 ∧ x2 < 256) (h3 : 0 ≤ x3 ∧ x3 < 256) : (convert 34 9 (.slice (some ⟨w.heap.size, 0, none⟩) 4 4)).run Tryd.prog (w.alloc (.cells #[.int .u8 x0, .int .u8 x1, .int .u8 x2, .int .u8 x3] 5)) =
    .ok (.string ⟨#[UInt8.ofNat x0.toNat, UInt8.ofNat x1.toNat, UInt8.ofNat x2.toNat, UInt8.ofNat x3.toNat]⟩) (w.alloc (.cells #[.int .u8 x0, .int .u8 x1, .int .u8 x2, .int .u8 x3] 5)) := by
  refine run_convert_bytes_back _ 34 9 5 ⟨w.heap.size, 0, none⟩ 4 [UInt8.ofNat x0.toNat, UInt8.ofNat x1.toNat, UInt8.ofNat x2.toNat, UInt8.ofNat x3.toNat] Tryd.underlying34 Tryd.underlying5 Tryd.underlying9 (Lib.bytes_of_row (heap_alloc_new w _) ?_)
  have e : ∀ x : Int, 0 ≤ x ∧ x < 256 → ((UInt8.ofNat x.toNat).toNat : Int) = x := fun x hx => by simp; omega
  simp only [Lib.byteCells, List.map_cons, List.map_nil, e x0 h0, e x1 h1, e x2 h2, e x3 h3]
  rfl
theorem sumB_eq {v : Nat} {x0 x1 x2 x3 : Int} (h0 : x0 = (v : Int) % 256) (h1 : x1 = (v : Int) / 256 % 256) (h2 : x2 = (v : Int) / 65536 % 256) (h3 : x3 = (v : Int) / 16777216 % 256) : (⟨#[UInt8.ofNat x0.toNat, UInt8.ofNat x1.toNat, UInt8.ofNat x2.toNat, UInt8.ofNat x3.toNat]⟩ : ByteArray) = sumB v := by
  have e : ∀ (m : Nat), UInt8.ofNat ((m : Int) % 256).toNat = UInt8.ofNat m := fun m => by
    apply UInt8.toNat_inj.1
    simp
    omega
  subst h0 h1 h2 h3
  unfold sumB
  rw [e v, show ((v : Int) / 256) = ((v / 256 : Nat) : Int) by omega, show ((v : Int) / 65536) = ((v / 65536 : Nat) : Int) by omega, show ((v : Int) / 16777216) = ((v / 16777216 : Nat) : Int) by omega, e, e, e]
set_option maxHeartbeats 4000000 in
theorem rseal_any (s : ByteArray) (hs : s.size ≤ 1099511627776) (w : World) : Calls Tryd.prog 8 #[.string s] w fun e w' => e = .returned (.string (sealB s)) ∧ Only [] w w' := by
  have hO := Lib.hid (rof_any s (by unfold maxLen; omega) w)
  unfold sealB

  generalize ofN (bt s) = v at *
  have hc := conv4 w ((v : Int) % 256) ((v : Int) / 256 % 256) ((v : Int) / 65536 % 256) ((v : Int) / 16777216 % 256) (by omega) (by omega) (by omega) (by omega)
  rw [sumB_eq (v := v) rfl rfl rfl rfl] at hc
  have hz : (sumB v).size = 4 := rfl
  have hb : s.size + 4 ≤ 9223372036854775807 := by omega

  go_enter Tryd.func8, Tryd.ntmps8
  go_wp2_with (go_at_call 14; (with_reducible refine (hO.out).mono ?_); rintro e w1 ⟨rfl, rfl⟩)
  go_ret
  exact ⟨rfl, (Only.refl [] _).alloc _⟩
end Go.Proofs.YtbbhjhnfjkfklaaDoor
