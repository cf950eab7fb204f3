/-
  The walk of the small question whether an argument ends here. No condition.
-/
import Derived.Test.YtjidopgohdlfdaaGreatDoorLE
import Derived.Test.YtjidopgohdlfdaaGreatDoorLMathB
namespace Go.Proofs.YtjidopgohdlfdaaGreatDoor.S4
open Go.RowKit Ln

theorem toNat_byte (c : UInt8) : ((c.toNat : Int)).toNat.toUInt8 = c := by simp
theorem idx_gap (c : UInt8) (w : World) (h : Hid (gapC c = true)) : Calls Tryz.prog 87 #[.string ⟨#[32, 9]⟩, .int .u8 (c.toNat : Int)] w fun e w' => (∃ x : Int, e = .returned (.int .i64 x) ∧ 0 ≤ x) ∧ w = w' := by
  refine (Tryz.strings_IndexByte ⟨#[32, 9]⟩ (c.toNat : Int) w).mono fun e w' ⟨he, hw⟩ => ⟨⟨_, he, ?_⟩, hw.symm⟩
  rw [toNat_byte]
  rcases blank_cases h.out with rfl | rfl <;> decide
theorem idx_not (c : UInt8) (w : World) (h : Hid (gapC c = false)) : Calls Tryz.prog 87 #[.string ⟨#[32, 9]⟩, .int .u8 (c.toNat : Int)] w fun e w' => e = .returned (.int .i64 (-1)) ∧ w = w' := by
  refine (Tryz.strings_IndexByte ⟨#[32, 9]⟩ (c.toNat : Int) w).mono fun e w' ⟨he, hw⟩ => ⟨?_, hw.symm⟩
  rw [he, toNat_byte]
  have h1 := h.out
  unfold gapC at h1
  simp only [Bool.or_eq_false_iff, beq_eq_false_iff_ne] at h1
  have b1 : ((32 : UInt8) == c) = false := by simpa using Ne.symm h1.1
  have b2 : ((9 : UInt8) == c) = false := by simpa using Ne.symm h1.2
  show Ending.returned (.int .i64 (Lib.indexByte [32, 9] c)) = _
  simp [Lib.indexByte, b1, b2]

set_option maxHeartbeats 1000000 in
theorem ends_yes (s : ByteArray) (n g : Nat) (w : World) (hn : n ≤ s.size) (hc : w.cell? ⟨g, 0, none⟩ = some (.string s)) (h : Hid (ends (s.data.toList.drop n) = true)) :
    Calls Tryz.prog 120 #[.int .i64 n, .pointer (some ⟨g, 0, none⟩)] w fun e w' => e = .returned (.bool true) ∧ w = w' := by
  by_cases hlt : n < s.size
  · have hg : Hid (gapC s[n] = true) := Lib.hid (by
      have := h.out
      rw [str_cons s n hlt] at this
      exact this)
    have hq : ((n : Int) == s.size) = false := beq_eq_false_iff_ne.2 (by omega)
    go_enter Tryz.func120, Tryz.ntmps120
    go_wp2_with (go_at_call 87; ((with_reducible refine (idx_gap s[n] _ hg).mono ?_); rintro e w' ⟨⟨x, rfl, hx⟩, rfl⟩))
    go_ret
    exact ⟨rfl, rfl⟩
  · have hq : ((n : Int) == s.size) = true := by simp; omega
    go_enter Tryz.func120, Tryz.ntmps120
    go_wp2
    go_ret
    exact ⟨rfl, rfl⟩
set_option maxHeartbeats 1000000 in
theorem ends_no (s : ByteArray) (n g : Nat) (w : World) (hn : n ≤ s.size) (hc : w.cell? ⟨g, 0, none⟩ = some (.string s)) (h : Hid (ends (s.data.toList.drop n) = false)) :
    Calls Tryz.prog 120 #[.int .i64 n, .pointer (some ⟨g, 0, none⟩)] w fun e w' => e = .returned (.bool false) ∧ w = w' := by
  by_cases hlt : n < s.size
  · have hg : Hid (gapC s[n] = false) := Lib.hid (by
      have := h.out
      rw [str_cons s n hlt] at this
      exact this)
    have hq : ((n : Int) == s.size) = false := beq_eq_false_iff_ne.2 (by omega)
    go_enter Tryz.func120, Tryz.ntmps120
    go_wp2_with (go_at_call 87; ((with_reducible refine (idx_not s[n] _ hg).mono ?_); rintro e w' ⟨rfl, rfl⟩))
    go_ret
    exact ⟨rfl, rfl⟩
  · exfalso
    have := h.out
    rw [List.drop_eq_nil_of_le (by simp; omega)] at this
    cases this
theorem ends_any (s : ByteArray) (n g : Nat) (w : World) (hn : n ≤ s.size) (hc : w.cell? ⟨g, 0, none⟩ = some (.string s)) (b : Bool) (h : Hid (ends (s.data.toList.drop n) = b)) :
    Calls Tryz.prog 120 #[.int .i64 n, .pointer (some ⟨g, 0, none⟩)] w fun e w' => e = .returned (.bool b) ∧ w = w' := by
  cases b with
  | true => exact ends_yes s n g w hn hc h
  | false => exact ends_no s n g w hn hc h
end Go.Proofs.YtjidopgohdlfdaaGreatDoor.S4
