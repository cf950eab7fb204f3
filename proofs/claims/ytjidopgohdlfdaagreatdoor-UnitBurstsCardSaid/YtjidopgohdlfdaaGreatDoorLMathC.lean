/-
  Plain mathematics of a line's arguments, no program in it: how long what a line is split into is. No condition.
-/
import Derived.Test.YtjidopgohdlfdaaGreatDoorLMath
namespace Go.Proofs.YtjidopgohdlfdaaGreatDoor.Ln

def tot (l : List (List UInt8)) : Nat := (l.map (·.length)).sum + l.length
theorem tot_snoc (l : List (List UInt8)) (a : List UInt8) : tot (l ++ [a]) = tot l + a.length + 1 := by
  simp [tot]; omega
theorem go_len (s : List UInt8) : ∀ (out a : List (List UInt8)) (q : UInt8) (op cl : Bool) (now : List UInt8) (k : Nat), go out q op cl now k s = some a → tot a ≤ tot out + now.length + (if op then 1 else 0) + 2 * s.length := by
  induction s with
  | nil =>
    intro out a q op cl now k h
    rw [go] at h
    split at h
    · cases op with
      | true => cases h; simp only [if_true, tot_snoc, List.length_nil]; omega
      | false => cases h; simp
    · cases h
  | cons c s ih =>
    intro out a q op cl now k h
    rw [List.length_cons]
    cases k with
    | succ k =>
      rw [go] at h
      have := ih _ _ _ _ _ _ _ h
      omega
    | zero =>
      rw [go] at h
      split at h
      · cases h
      · split at h
        · split at h
          · cases op with
            | true =>
              have := ih _ _ _ _ _ _ _ h
              simp only [if_true, tot_snoc, List.length_nil] at this
              simp only [if_true]
              simp at this
              omega
            | false =>
              have := ih _ _ _ _ _ _ _ h
              simp at this ⊢
              omega
          · split at h
            · have := ih _ _ _ _ _ _ _ h
              simp at this
              split <;> omega
            · have := ih _ _ _ _ _ _ _ h
              simp at this
              split <;> omega
        · split at h
          · have := ih _ _ _ _ _ _ _ h
            omega
          · have := ih _ _ _ _ _ _ _ h
            simp at this
            omega
theorem spl_len {s : List UInt8} {a : List (List UInt8)} (h : spl s = some a) : tot a ≤ 2 * s.length := by
  have := go_len s _ _ _ _ _ _ _ h
  simpa [tot] using this
end Go.Proofs.YtjidopgohdlfdaaGreatDoor.Ln
