/-
  The mathematics of layer 8: numbers read from their other end, cursors, where a walk through a table stands whose size changes. No condition.
-/
import Derived.Lib.Hide
namespace Go.Proofs.YtdldgiicblmknaaDoor

/-- n's lowest k bits, the lowest first as the highest. -/
def rev : Nat → Nat → Nat
  | 0, _ => 0
  | k + 1, n => 2 * rev k n + n / 2 ^ k % 2

theorem rev_lt (k n : Nat) : rev k n < 2 ^ k := by
  induction k with
  | zero => simp [rev]
  | succ k ih => rw [rev, Nat.pow_succ]; omega

/-- The same from the other end. -/
theorem rev_low (k n : Nat) : rev (k + 1) n = 2 ^ k * (n % 2) + rev k (n / 2) := by
  induction k with
  | zero => simp [rev]
  | succ k ih =>
    rw [rev, ih, rev]
    have : n / 2 / 2 ^ k = n / 2 ^ (k + 1) := by rw [Nat.div_div_eq_div_mul, Nat.pow_succ, Nat.mul_comm 2]
    rw [this, Nat.pow_succ, Nat.mul_right_comm]
    omega

theorem rev_mod (k n : Nat) : rev k (n % 2 ^ k) = rev k n := by
  suffices h : ∀ j, j ≤ k → rev j (n % 2 ^ k) = rev j n from h k (Nat.le_refl _)
  intro j
  induction j with
  | zero => intro _; rfl
  | succ j ih =>
    intro hj
    rw [rev, rev, ih (by omega)]
    congr 1
    have e : 2 ^ k = 2 ^ j * (2 * 2 ^ (k - j - 1)) := by
      rw [← Nat.pow_succ', ← Nat.pow_add]; congr 1; omega
    rw [e, Nat.mod_mul_right_div_self, Nat.mod_mul_right_mod]

theorem rev_rev (k n : Nat) : rev k (rev k n) = n % 2 ^ k := by
  induction k generalizing n with
  | zero => simp [rev, Nat.mod_one]
  | succ k ih =>
    rw [rev_low k (rev (k + 1) n)]
    have h1 : rev (k + 1) n % 2 = n / 2 ^ k % 2 := by rw [rev]; omega
    have h2 : rev (k + 1) n / 2 = rev k n := by rw [rev]; omega
    rw [h1, h2, ih, Nat.mod_pow_succ]
    omega

theorem rev_inj (k : Nat) {a b : Nat} (ha : a < 2 ^ k) (hb : b < 2 ^ k) (h : rev k a = rev k b) : a = b := by
  have := congrArg (rev k) h
  rwa [rev_rev, rev_rev, Nat.mod_eq_of_lt ha, Nat.mod_eq_of_lt hb] at this
theorem rev_zero (k : Nat) : rev k 0 = 0 := by
  induction k with
  | zero => rfl
  | succ k ih => rw [rev, ih]; simp
theorem rev_pow (k : Nat) : rev k (2 ^ k) = 0 := by rw [← rev_mod, Nat.mod_self, rev_zero]

/-- The cursor behind one. -/
def nxt (k c : Nat) : Nat := rev k (rev k c + 1)
theorem nxt_lt (k c : Nat) : nxt k c < 2 ^ k := rev_lt _ _
theorem nxt_mod (k c : Nat) : nxt k (c % 2 ^ k) = nxt k c := by unfold nxt; rw [rev_mod]
theorem nxt_rev (k i : Nat) (h : i < 2 ^ k) : nxt k (rev k i) = rev k (i + 1) := by
  unfold nxt; rw [rev_rev, Nat.mod_eq_of_lt h]
theorem rev_ne (k i : Nat) (h0 : 0 < i) (h : i < 2 ^ k) : rev k i ≠ 0 := by
  intro e
  have := rev_inj k h (Nat.pos_of_ne_zero (by simp)) (e.trans (rev_zero k).symm)
  omega


/-- The reversed lowest bits of a number are the highest ones of its reversal. -/
theorem rev_top (d s h : Nat) : rev (s + d) h / 2 ^ d = rev s h := by
  induction d with
  | zero => simp
  | succ d ih =>
    rw [← Nat.add_assoc, Nat.pow_succ', ← Nat.div_div_eq_div_mul]
    have : rev (s + d + 1) h / 2 = rev (s + d) h := by rw [rev]; omega
    rw [this, ih]
/-- A number that is small has no higher bits. -/
theorem rev_small_up (d s c : Nat) (hc : c < 2 ^ s) : rev (s + d) c = rev s c * 2 ^ d := by
  induction d with
  | zero => simp
  | succ d ih =>
    rw [← Nat.add_assoc, rev, ih]
    have hlt : c < 2 ^ (s + d) := Nat.lt_of_lt_of_le hc (Nat.pow_le_pow_right (by decide) (by omega))
    rw [Nat.div_eq_of_lt hlt, Nat.pow_succ', Nat.mul_left_comm]
    simp
theorem rev_same {s a b : Nat} : rev s a = rev s b ↔ a % 2 ^ s = b % 2 ^ s := by
  constructor
  · intro h
    have := congrArg (rev s) h
    rwa [rev_rev, rev_rev] at this
  · intro h
    rw [← rev_mod s a, ← rev_mod s b, h]
/-- Where a walk stands, among 2^16 places: all below are told. -/
def pos (s c : Nat) : Nat := rev s c * 2 ^ (16 - s)
/-- How wide a turn is. -/
def wide (s : Nat) : Nat := 2 ^ (16 - s)
theorem wide_pos (s : Nat) : 0 < wide s := Nat.pos_of_ne_zero (by simp [wide])
theorem wide_all {s : Nat} (h : s ≤ 16) : 2 ^ s * wide s = 65536 := by
  unfold wide
  rw [← Nat.pow_add, show s + (16 - s) = 16 by omega]
theorem pos_zero (s : Nat) : pos s 0 = 0 := by unfold pos; rw [rev_zero]; simp
/-- What a turn at a cursor tells: the numbers of a stretch. -/
theorem told_iff {s : Nat} (hs : s ≤ 16) (h c : Nat) : h % 2 ^ s = c % 2 ^ s ↔ (pos s c ≤ rev 16 h ∧ rev 16 h < pos s c + wide s) := by
  have ht : rev 16 h / wide s = rev s h := by
    have := rev_top (16 - s) s h
    rw [show s + (16 - s) = 16 by omega] at this
    exact this
  rw [← rev_same]
  unfold pos
  have hw := wide_pos s
  show rev s h = rev s c ↔ (rev s c * wide s ≤ rev 16 h ∧ rev 16 h < rev s c * wide s + wide s)
  constructor
  · intro e
    rw [← e, ← ht]
    constructor
    · exact Nat.div_mul_le_self _ _
    · have := Nat.lt_div_mul_add (a := rev 16 h) hw
      exact this
  · rintro ⟨h1, h2⟩
    rw [← ht]
    apply Nat.le_antisymm
    · have : rev 16 h / wide s < rev s c + 1 := by rw [Nat.div_lt_iff_lt_mul hw, Nat.add_mul, Nat.one_mul]; exact h2
      omega
    · rwa [Nat.le_div_iff_mul_le hw]
/-- Behind a turn the walk has gone on by just what was told; or it is at its end. -/
theorem turn_pos {s : Nat} (hs : s ≤ 16) (c : Nat) : (nxt s c = 0 ∧ pos s c + wide s = 65536) ∨ (nxt s c ≠ 0 ∧ pos s (nxt s c) = pos s c + wide s) := by
  have hlt := rev_lt s c
  by_cases he : rev s c + 1 < 2 ^ s
  · right
    have hr : rev s (nxt s c) = rev s c + 1 := by unfold nxt; rw [rev_rev, Nat.mod_eq_of_lt he]
    refine ⟨rev_ne s _ (by omega) he, ?_⟩
    unfold pos
    rw [hr, Nat.add_mul, Nat.one_mul]
    rfl
  · left
    have h1 : rev s c + 1 = 2 ^ s := by omega
    refine ⟨by unfold nxt; rw [h1, rev_pow], ?_⟩
    have h2 : pos s c + wide s = (rev s c + 1) * wide s := by unfold pos; rw [Nat.add_mul, Nat.one_mul]; rfl
    rw [h2, h1, wide_all hs]
/-- A table that changes its size sets the walk back, or leaves it where it is: nothing is passed over. -/
theorem size_pos {s s' c : Nat} (hs : s ≤ 16) (hs' : s' ≤ 16) (hc : c < 2 ^ s) : pos s' c ≤ pos s c := by
  unfold pos
  by_cases h : s ≤ s'
  · obtain ⟨d, rfl⟩ : ∃ d, s' = s + d := ⟨s' - s, by omega⟩
    rw [rev_small_up d s c hc, Nat.mul_assoc, ← Nat.pow_add, show d + (16 - (s + d)) = 16 - s by omega]
    exact Nat.le_refl _
  · obtain ⟨d, rfl⟩ : ∃ d, s = s' + d := ⟨s - s', by omega⟩
    have h1 := rev_top d s' c
    rw [← h1, show 16 - s' = d + (16 - (s' + d)) by omega, Nat.pow_add, ← Nat.mul_assoc]
    exact Nat.mul_le_mul_right _ (Nat.div_mul_le_self _ _)
/-- The whole of a walk, as an invariant: all keys that stay and stand below are told. -/
theorem told_step {s c : Nat} (hs : s ≤ 16) {T T' : Nat → Prop} (hT : ∀ h, rev 16 h < pos s c → T h) (hm : ∀ h, T h → T' h) (ht : ∀ h, h % 2 ^ s = c % 2 ^ s → T' h) : (nxt s c = 0 ∧ ∀ h, T' h) ∨ (nxt s c ≠ 0 ∧ ∀ h, rev 16 h < pos s (nxt s c) → T' h) := by
  have key : ∀ h, rev 16 h < pos s c + wide s → T' h := fun h hh => by
    by_cases hb : rev 16 h < pos s c
    · exact hm h (hT h hb)
    · exact ht h ((told_iff hs h c).2 ⟨by omega, hh⟩)
  rcases turn_pos hs c with ⟨h1, h2⟩ | ⟨h1, h2⟩
  · exact Or.inl ⟨h1, fun h => key h (by rw [h2]; exact rev_lt 16 h)⟩
  · exact Or.inr ⟨h1, fun h hh => key h (by rw [← h2]; exact hh)⟩
theorem told_size {s s' c : Nat} (hs : s ≤ 16) (hs' : s' ≤ 16) (hc : c < 2 ^ s) {T : Nat → Prop} (hT : ∀ h, rev 16 h < pos s c → T h) : ∀ h, rev 16 h < pos s' c → T h :=
  fun h hh => hT h (Nat.lt_of_lt_of_le hh (size_pos hs hs' hc))
/-- How many turns are left, at most, of a table that keeps its size. -/
theorem turns_left {s : Nat} (c : Nat) (h : nxt s c ≠ 0) : 2 ^ s - rev s (nxt s c) + 1 = 2 ^ s - rev s c := by
  have hlt := rev_lt s c
  have he : rev s c + 1 < 2 ^ s := by
    rcases Nat.lt_or_ge (rev s c + 1) (2 ^ s) with h1 | h1
    · exact h1
    · exfalso
      apply h
      have : rev s c + 1 = 2 ^ s := by omega
      unfold nxt; rw [this, rev_pow]
  have hr : rev s (nxt s c) = rev s c + 1 := by unfold nxt; rw [rev_rev, Nat.mod_eq_of_lt he]
  omega

end Go.Proofs.YtdldgiicblmknaaDoor
