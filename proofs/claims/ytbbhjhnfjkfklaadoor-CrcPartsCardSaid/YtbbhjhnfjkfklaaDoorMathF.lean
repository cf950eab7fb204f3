/-
  What four shifts make of a number, by a table of sixteen. Mathematics; no program, no condition.
-/
import Derived.Test.YtbbhjhnfjkfklaaDoorMath
namespace Go.Proofs.YtbbhjhnfjkfklaaDoor

theorem shs_xor : ∀ (k a b : Nat), shs k (a ^^^ b) = shs k a ^^^ shs k b
  | 0, _, _ => rfl
  | k + 1, a, b => by rw [shs, sh_xor, shs_xor k]; rfl
theorem shs_up : ∀ (k c : Nat), shs k (2 ^ k * c) = c
  | 0, c => by simp [shs]
  | k + 1, c => by
    rw [shs, show 2 ^ (k + 1) * c = 2 * (2 ^ k * c) by rw [Nat.pow_succ, Nat.mul_comm (2 ^ k) 2, Nat.mul_assoc], sh_two, shs_up k c]
theorem split_16 (m : Nat) : m = (m % 16) ^^^ (2 ^ 4 * (m / 16)) := by
  apply Nat.eq_of_testBit_eq
  intro i
  rw [Nat.testBit_xor, show (16 : Nat) = 2 ^ 4 from rfl, Nat.testBit_mod_two_pow, Nat.testBit_two_pow_mul, Nat.testBit_div_two_pow]
  by_cases h : i < 4
  · rw [decide_eq_true h, decide_eq_false (by omega)]
    simp
  · rw [decide_eq_false h, decide_eq_true (by omega), show i - 4 + 4 = i by omega]
    simp
/-- What four shifts make of a number: what is left of it, turned by what they make of the four bits that go. -/
theorem fold_row (m : Nat) : shs 4 m = (m / 16) ^^^ shs 4 (m % 16) := by
  conv => lhs; rw [split_16 m]
  rw [shs_xor, shs_up, Nat.xor_comm]
theorem byte_folds (n b : Nat) : byteN n b = shs 4 (shs 4 (n ^^^ b)) := rfl
def folds : List Int := [0, 498536548, 997073096, 651767980, 1994146192, 1802195444, 1303535960, 1342533948, 3988292384, 4027552580, 3604390888, 3412177804, 2607071920, 2262029012, 2685067896, 3183342108]
theorem folds_are : ∀ i : Nat, i < 16 → folds.getD i 0 = ((shs 4 i : Nat) : Int) := by decide +kernel
end Go.Proofs.YtbbhjhnfjkfklaaDoor
