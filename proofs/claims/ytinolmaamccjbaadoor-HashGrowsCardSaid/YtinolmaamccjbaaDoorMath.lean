/-
  The mathematics of layer 6: numbers read from their other end, cursors, walks. No condition.
-/
import Derived.Lib.Hide
namespace Go.Proofs.YtinolmaamccjbaaDoor

/-- n's lowest k bits, the lowest first as the highest. -/
def rev : Nat → Nat → Nat
  | 0, _ => 0
  | k + 1, n => 2 * rev k n + n / 2 ^ k % 2

theorem rev_lt (k n : Nat) : rev k n < 2 ^ k := by
  induction k with
  | zero => simp [rev]
  | succ k ih => rw [rev, Nat.pow_succ]; omega

/-- The same from the other end. -/
theorem rev_low (k n : Nat) : rev (k + 1) n = 2 ^ k * (n % 2) + rev k (n / 2) := by
  induction k with
  | zero => simp [rev]
  | succ k ih =>
    rw [rev, ih, rev]
    have : n / 2 / 2 ^ k = n / 2 ^ (k + 1) := by rw [Nat.div_div_eq_div_mul, Nat.pow_succ, Nat.mul_comm 2]
    rw [this, Nat.pow_succ, Nat.mul_right_comm]
    omega

theorem rev_mod (k n : Nat) : rev k (n % 2 ^ k) = rev k n := by
  suffices h : ∀ j, j ≤ k → rev j (n % 2 ^ k) = rev j n from h k (Nat.le_refl _)
  intro j
  induction j with
  | zero => intro _; rfl
  | succ j ih =>
    intro hj
    rw [rev, rev, ih (by omega)]
    congr 1
    have e : 2 ^ k = 2 ^ j * (2 * 2 ^ (k - j - 1)) := by
      rw [← Nat.pow_succ', ← Nat.pow_add]; congr 1; omega
    rw [e, Nat.mod_mul_right_div_self, Nat.mod_mul_right_mod]

theorem rev_rev (k n : Nat) : rev k (rev k n) = n % 2 ^ k := by
  induction k generalizing n with
  | zero => simp [rev, Nat.mod_one]
  | succ k ih =>
    rw [rev_low k (rev (k + 1) n)]
    have h1 : rev (k + 1) n % 2 = n / 2 ^ k % 2 := by rw [rev]; omega
    have h2 : rev (k + 1) n / 2 = rev k n := by rw [rev]; omega
    rw [h1, h2, ih, Nat.mod_pow_succ]
    omega

theorem rev_inj (k : Nat) {a b : Nat} (ha : a < 2 ^ k) (hb : b < 2 ^ k) (h : rev k a = rev k b) : a = b := by
  have := congrArg (rev k) h
  rwa [rev_rev, rev_rev, Nat.mod_eq_of_lt ha, Nat.mod_eq_of_lt hb] at this
theorem rev_zero (k : Nat) : rev k 0 = 0 := by
  induction k with
  | zero => rfl
  | succ k ih => rw [rev, ih]; simp
theorem rev_pow (k : Nat) : rev k (2 ^ k) = 0 := by rw [← rev_mod, Nat.mod_self, rev_zero]

/-- The cursor behind one. -/
def nxt (k c : Nat) : Nat := rev k (rev k c + 1)
theorem nxt_lt (k c : Nat) : nxt k c < 2 ^ k := rev_lt _ _
theorem nxt_mod (k c : Nat) : nxt k (c % 2 ^ k) = nxt k c := by unfold nxt; rw [rev_mod]
theorem nxt_rev (k i : Nat) (h : i < 2 ^ k) : nxt k (rev k i) = rev k (i + 1) := by
  unfold nxt; rw [rev_rev, Nat.mod_eq_of_lt h]
theorem rev_ne (k i : Nat) (h0 : 0 < i) (h : i < 2 ^ k) : rev k i ≠ 0 := by
  intro e
  have := rev_inj k h (Nat.pos_of_ne_zero (by simp)) (e.trans (rev_zero k).symm)
  omega

/-- One is added at the highest bit, what passes goes down. -/
theorem top_one {k c : Nat} (hb : c / 2 ^ k % 2 = 1) : 2 ^ k ≤ c := by
  by_cases h : 2 ^ k ≤ c
  · exact h
  · rw [Nat.div_eq_of_lt (by omega)] at hb; omega
theorem nxt_one (k c : Nat) (hc : c < 2 ^ (k + 1)) (hb : c / 2 ^ k % 2 = 1) : nxt (k + 1) c = nxt k (c - 2 ^ k) := by
  have hle := top_one hb
  have e : c - 2 ^ k = c % 2 ^ k := by
    rw [Nat.pow_succ] at hc
    rw [Nat.mod_eq_sub_mod hle, Nat.mod_eq_of_lt (by omega)]
  rw [e, nxt_mod]
  unfold nxt
  rw [rev_low, rev, hb, show (2 * rev k c + 1 + 1) % 2 = 0 by omega, show (2 * rev k c + 1 + 1) / 2 = rev k c + 1 by omega]
  omega
theorem nxt_none (k c : Nat) (hc : c < 2 ^ (k + 1)) (hb : c / 2 ^ k % 2 ≠ 1) : nxt (k + 1) c = c + 2 ^ k := by
  have hlt : c < 2 ^ k := by
    rw [Nat.pow_succ] at hc
    by_cases h : 2 ^ k ≤ c
    · have h1 : 1 ≤ c / 2 ^ k := (Nat.le_div_iff_mul_le (Nat.pos_of_ne_zero (by simp))).2 (by omega)
      have h2 : c / 2 ^ k < 2 := Nat.div_lt_of_lt_mul (by omega)
      omega
    · omega
  unfold nxt
  rw [rev_low, rev, show c / 2 ^ k % 2 = 0 by omega, show (2 * rev k c + 0 + 1) % 2 = 1 by omega, show (2 * rev k c + 0 + 1) / 2 = rev k c by omega, rev_rev, Nat.mod_eq_of_lt hlt]
  omega
theorem nxt_end (c : Nat) : nxt 0 c = 0 := rfl

/-- What a size counts as. -/
def szN (b : Int) : Nat := (min (max b 0) 16).toNat
theorem szN_le (b : Int) : szN b ≤ 16 := by unfold szN; omega
theorem szN_int (b : Int) : ((szN b : Nat) : Int) = min (max b 0) 16 := by unfold szN; omega
theorem pow_le16 {k : Nat} (h : k ≤ 16) : 2 ^ k ≤ 65536 := Nat.pow_le_pow_right (by decide) h
theorem pow_pos2 (k : Nat) : 0 < 2 ^ k := Nat.pos_of_ne_zero (by simp)
theorem div_pow_div (n k : Nat) : n / 2 ^ k / 2 = n / 2 ^ (k + 1) := by rw [Nat.div_div_eq_div_mul, Nat.pow_succ]

/-- How many places a table of a size has. -/
def pw (k : Nat) : Nat := 2 ^ k
theorem pw_zero : pw 0 = 1 := rfl
theorem pw_succ (k : Nat) : pw (k + 1) = 2 * pw k := by unfold pw; rw [Nat.pow_succ, Nat.mul_comm]
theorem pw_le {k : Nat} (h : k ≤ 16) : pw k ≤ 65536 := pow_le16 h
theorem pw_pos (k : Nat) : 0 < pw k := pow_pos2 k
theorem rev_pw (k n : Nat) : rev k n < pw k := rev_lt k n
/-- What is left of a number, of which so many bits were taken. -/
def hi (n k : Nat) : Nat := n / 2 ^ k
theorem hi_zero (n : Nat) : hi n 0 = n := by unfold hi; simp
theorem hi_le (n k : Nat) : hi n k ≤ n := Nat.div_le_self _ _
theorem hi_succ (n k : Nat) : hi n k / 2 = hi n (k + 1) := div_pow_div n k
theorem rev_succ (n k : Nat) : rev (k + 1) n = 2 * rev k n + hi n k % 2 := rfl
theorem or_bit (a b : Nat) (hb : b < 2) : (2 * a) ||| b = 2 * a + b := by
  rw [← Nat.two_pow_add_eq_or_of_lt (i := 1) (by simpa using hb) a]

/-- The loop that goes down, as a cursor and a bit: what is left of a cursor below 2^k, at the bit of k. -/
def top (c k : Nat) : Nat := c / 2 ^ k % 2
theorem nxtw_one (k c : Nat) (hc : c < pw (k + 1)) (hb : top c k = 1) : pw k ≤ c ∧ c - pw k < pw k ∧ nxt (k + 1) c = nxt k (c - pw k) := by
  have h1 := top_one hb
  have h2 := pw_succ k
  refine ⟨h1, ?_, nxt_one k c hc hb⟩
  unfold pw at *
  omega
theorem nxtw_none (k c : Nat) (hc : c < pw (k + 1)) (hb : top c k ≠ 1) : nxt (k + 1) c = c + pw k := nxt_none k c hc hb
theorem div_pw (c k : Nat) : c / pw k % 2 = top c k := rfl

/-- The highest bit of a table of a size. -/
def bt (k : Nat) : Nat := pw k / 2
theorem bt_zero : bt 0 = 0 := rfl
theorem bt_succ (k : Nat) : bt (k + 1) = pw k := by unfold bt; have := pw_succ k; omega
theorem bt_half (k : Nat) : bt (k + 1) / 2 = bt k := by rw [bt_succ]; rfl
theorem nxt_zero (c : Nat) : nxt 0 c = 0 := rfl

/-- Of a table of twice the size. -/
theorem grows (k c p q : Nat) (hc : c < 2 ^ k) (hq : q % 2 ^ k = p) : (rev (k + 1) q < rev (k + 1) c) ↔ (rev k p < rev k c) := by
  rw [rev, rev, ← hq, rev_mod, Nat.div_eq_of_lt hc]
  omega

end Go.Proofs.YtinolmaamccjbaaDoor
