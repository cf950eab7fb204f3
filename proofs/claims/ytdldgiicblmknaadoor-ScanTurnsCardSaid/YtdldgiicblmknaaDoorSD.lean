/-
  Turns until there are so many keys: as a function, and what it tells of a whole walk. Mathematics; no condition.
-/
import Derived.Test.YtdldgiicblmknaaDoorSC
namespace Go.Proofs.YtdldgiicblmknaaDoor

/-- Turns, at most so many, until there are so many things or the walk is at its end. -/
def scanF {α : Type} (s : Nat) (L : Nat → List α) (count : Nat) : Nat → Nat → List α → Nat × List α
  | 0, c, acc => (c, acc)
  | f + 1, c, acc => if count ≤ (acc ++ L c).length ∨ nxt s c = 0 then (nxt s c, acc ++ L c) else scanF s L count f (nxt s c) (acc ++ L c)
theorem scanF_zero {α : Type} (s : Nat) (L : Nat → List α) (count c : Nat) (acc : List α) : scanF s L count 0 c acc = (c, acc) := rfl
theorem scanF_end {α : Type} {s : Nat} {L : Nat → List α} {count f c : Nat} {acc : List α} (h : count ≤ (acc ++ L c).length ∨ nxt s c = 0) : scanF s L count (f + 1) c acc = (nxt s c, acc ++ L c) := by rw [scanF, if_pos h]
theorem scanF_more {α : Type} {s : Nat} {L : Nat → List α} {count f c : Nat} {acc : List α} (h : ¬(count ≤ (acc ++ L c).length ∨ nxt s c = 0)) : scanF s L count (f + 1) c acc = scanF s L count f (nxt s c) (acc ++ L c) := by rw [scanF, if_neg h]
theorem scanF_map {α β : Type} (g : α → β) (s : Nat) (L : Nat → List α) (count : Nat) : ∀ (f c : Nat) (acc : List α), scanF s (fun c => (L c).map g) count f c (acc.map g) = ((scanF s L count f c acc).1, (scanF s L count f c acc).2.map g) := by
  intro f
  induction f with
  | zero => intro c acc; rfl
  | succ f ih =>
    intro c acc
    by_cases h : count ≤ (acc ++ L c).length ∨ nxt s c = 0
    · rw [scanF_end h, scanF_end (by simpa using h)]; simp
    · rw [scanF_more h, scanF_more (by simpa using h), ← List.map_append, ih]
/-- Of a walk: turns from one place on, to one further behind, or to the end. -/
theorem scanF_walk {α : Type} (s : Nat) (L : Nat → List α) (count : Nat) : ∀ (f i : Nat) (acc : List α), i < 2 ^ s →
    ∃ i', i ≤ i' ∧ (0 < f → i < i') ∧ i' ≤ 2 ^ s ∧ (0 < f ∨ i' < 2 ^ s) ∧ scanF s L count f (rev s i) acc = (rev s i', acc ++ (List.range' i (i' - i)).flatMap fun j => L (rev s j)) := by
  intro f
  induction f with
  | zero => intro i acc hi; exact ⟨i, Nat.le_refl _, fun h => absurd h (by omega), by omega, Or.inr hi, by simp [scanF_zero]⟩
  | succ f ih =>
    intro i acc hi
    obtain ⟨hw1, hw2⟩ := walk_at s i hi
    by_cases h : count ≤ (acc ++ L (rev s i)).length ∨ nxt s (rev s i) = 0
    · refine ⟨i + 1, by omega, fun _ => by omega, by omega, Or.inl (by omega), ?_⟩
      rw [scanF_end h, hw1]
      simp
    · have hi1 : i + 1 < 2 ^ s := by
        rcases Nat.lt_or_ge (i + 1) (2 ^ s) with h1 | h1
        · exact h1
        · exact absurd (Or.inr (hw2.2 (by omega))) h
      obtain ⟨i', h1, h2, h3, h4, h5⟩ := ih (i + 1) (acc ++ L (rev s i)) hi1
      refine ⟨i', by omega, fun _ => by omega, h3, Or.inl (by omega), ?_⟩
      rw [scanF_more h, hw1, h5, List.append_assoc]
      congr 2
      rw [show i' - i = (i' - (i + 1)) + 1 by omega, List.range'_succ]
      rfl
theorem range_split (i i' : Nat) (h : i ≤ i') : List.range i' = List.range i ++ List.range' i (i' - i) := by
  have h1 := List.range'_append_1 (s := 0) (m := i) (n := i' - i)
  rw [Nat.zero_add, show i + (i' - i) = i' by omega] at h1
  rw [List.range_eq_range', List.range_eq_range', h1]
theorem rev_zero_iff (s i : Nat) (h : i ≤ 2 ^ s) (h0 : 0 < i) : rev s i = 0 ↔ i = 2 ^ s := by
  constructor
  · intro h2
    rcases Nat.lt_or_ge i (2 ^ s) with h3 | h3
    · exact absurd h2 (rev_ne s _ h0 h3)
    · omega
  · intro h2; rw [h2, rev_pow]

end Go.Proofs.YtdldgiicblmknaaDoor
