/-
  The walks of hash.Turn and hash.Next, as at stage 6. Untried at this seat: taken out of stage 6's texts by a program.
-/
import Derived.Test.YtdldgiicblmknaaDoorHA
import Derived.Test.YtdldgiicblmknaaDoorSA
namespace Go.Proofs.YtdldgiicblmknaaDoor
open Go.RowKit

theorem div_pow_div (n k : Nat) : n / 2 ^ k / 2 = n / 2 ^ (k + 1) := by rw [Nat.div_div_eq_div_mul, Nat.pow_succ]
theorem rev_pw (k n : Nat) : rev k n < pw k := rev_lt k n
/-- What is left of a number, of which so many bits were taken. -/
def hi (n k : Nat) : Nat := n / 2 ^ k
theorem hi_zero (n : Nat) : hi n 0 = n := by unfold hi; simp
theorem hi_le (n k : Nat) : hi n k ≤ n := Nat.div_le_self _ _
theorem hi_succ (n k : Nat) : hi n k / 2 = hi n (k + 1) := div_pow_div n k
theorem rev_succ (n k : Nat) : rev (k + 1) n = 2 * rev k n + hi n k % 2 := rfl
theorem or_bit (a b : Nat) (hb : b < 2) : (2 * a) ||| b = 2 * a + b := by
  rw [← Nat.two_pow_add_eq_or_of_lt (i := 1) (by simpa using hb) a]

set_option maxHeartbeats 400000 in
theorem turn_any (n : Nat) (b : Int) (hn : n < 18446744073709551616) (w : World) : Calls Tryd.prog 56 #[.int .u64 n, .int .i64 b] w fun e w' => e = .returned (.int .u64 ((rev (szN b) n : Nat) : Int)) ∧ w = w' := by
  have hk := szN_le b
  generalize hz : szN b = K at hk
  go_enter Tryd.func56, Tryd.ntmps56
  have hc : ∀ w, Calls Tryd.prog 57 #[.int .i64 b] w fun e w' => e = .returned (.int .i64 (K : Nat)) ∧ w = w' := fun w => by rw [← hz]; exact size_any b w
  clear hz
  go_wp2_with (go_at_call 57; refine (hc _).mono ?_; rintro e w' ⟨rfl, rfl⟩)
  go_loop [0, 5, 8] (fun m t i => ∃ k : Nat, k ≤ K ∧ i = .int .i64 k ∧ m = .int .u64 ((hi n k : Nat) : Int) ∧ t = .int .u64 ((rev k n : Nat) : Int)) (fun _ _ i => K - (intOf i).toNat)
  case atStart => exact ⟨0, Nat.zero_le _, rfl, by rw [hi_zero], rfl⟩
  case round =>
    obtain ⟨k, hkK, rfl, rfl, rfl⟩ := hrel
    have hp := pw_le (k := k) (by omega)
    have hr := rev_pw k n
    have hd := hi_le n k
    by_cases hlt : k < K
    · go_wp2
      go_round
      case rel =>
        refine ⟨k + 1, by omega, by go_num, ?_, ?_⟩
        · congr 1; have := hi_succ n k; omega
        · congr 1
          have h1 := bits_and_u64_nat (hi n k) 1 (by omega) (by omega)
          rw [Nat.and_one_is_mod] at h1
          have h2 := bits_or_u64_nat (2 * rev k n) (hi n k % 2) (by omega) (by omega)
          rw [or_bit _ _ (by omega)] at h2
          rw [show ((1 : Nat) : Int) = (1 : Int) from rfl] at h1
          rw [h1, show (((rev k n : Nat) : Int) * 2) = ((2 * rev k n : Nat) : Int) by omega, h2, rev_succ]
      case measure => simp [intOf]; omega
    · go_wp2
      go_ret
      exact ⟨ret_int (by rw [show k = K by omega]), rfl⟩

theorem rev_small (b : Int) (n : Nat) : rev (szN b) n < 65536 := by have := rev_pw (szN b) n; have := pw_le (szN_le b); omega

set_option maxHeartbeats 400000 in
theorem next_any (n : Nat) (b : Int) (hn : n < 18446744073709551616) (w : World) : Calls Tryd.prog 32 #[.int .u64 n, .int .i64 b] w fun e w' => e = .returned (.int .u64 ((nxt (szN b) n : Nat) : Int)) ∧ w = w' := by
  have hr := rev_small b n
  have h1 := fun w => turn_any n b hn w
  have h2 : ∀ w, Calls Tryd.prog 56 #[.int .u64 (((rev (szN b) n : Nat) : Int) + 1), .int .i64 b] w fun e w' => e = .returned (.int .u64 ((rev (szN b) (rev (szN b) n + 1) : Nat) : Int)) ∧ w = w' := fun w => turn_any (rev (szN b) n + 1) b (by omega) w
  have he : rev (szN b) (rev (szN b) n + 1) = nxt (szN b) n := rfl
  rw [he] at h2
  clear he
  generalize nxt (szN b) n = M at *
  generalize rev (szN b) n = R at *
  go_enter Tryd.func32, Tryd.ntmps32
  go_wp2_with (first | (go_at_call 56; ((with_reducible refine (h1 _).mono ?_); rintro e w' ⟨rfl, rfl⟩)) | (go_at_call 56; ((with_reducible refine (h2 _).mono ?_); rintro e w' ⟨rfl, rfl⟩)))
  all_goals go_ret
  all_goals exact ⟨rfl, rfl⟩


end Go.Proofs.YtdldgiicblmknaaDoor
