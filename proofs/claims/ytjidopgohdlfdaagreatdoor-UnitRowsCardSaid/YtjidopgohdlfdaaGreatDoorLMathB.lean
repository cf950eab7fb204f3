/-
  Plain mathematics of a line's arguments, no program in it: the argument with which a text begins. No condition.
-/
import Derived.Test.YtjidopgohdlfdaaGreatDoorLMath
namespace Go.Proofs.YtjidopgohdlfdaaGreatDoor.Ln

/-! ### The argument with which a text begins -/
def bareC (c : UInt8) : Bool := !gapC c && !quoteC c
/-- The argument with which a text begins that goes on with bytes that are neither blanks nor quotes, and something else; and how many bytes it takes. -/
def argR (p r : List UInt8) : Option (List UInt8 × Nat) := match r with
  | [] => some (p, p.length)
  | c :: t => if gapC c then some (p, p.length) else match uq c 0 t with
    | none => none
    | some x => if ends (t.drop x.2) then some (p ++ x.1, p.length + (x.2 + 1)) else none
theorem uq_le (q : UInt8) (t : List UInt8) : ∀ k x, uq q k t = some x → 1 ≤ x.2 ∧ x.2 ≤ t.length := by
  induction t with
  | nil => intro k x h; cases k <;> simp [uq] at h
  | cons c t ih =>
    intro k x h
    cases k with
    | succ k =>
      rw [uq] at h
      cases hx : uq q k t with
      | none => rw [hx] at h; cases h
      | some y =>
        rw [hx] at h
        simp at h
        subst h
        have := ih k y hx
        exact ⟨by simp, by simp; omega⟩
    | zero =>
      rw [uq] at h
      split at h
      · simp at h; subst h; exact ⟨by simp, by simp⟩
      · cases hx : uq q ((meantF q c t).2 - 1) t with
        | none => rw [hx] at h; cases h
        | some y =>
          rw [hx] at h
          simp at h
          subst h
          have := ih _ y hx
          exact ⟨by simp, by simp; omega⟩
theorem argR_le {p r : List UInt8} {x : List UInt8 × Nat} (h : argR p r = some x) (hne : p ≠ [] ∨ ends r = false) : 1 ≤ x.2 ∧ x.2 ≤ p.length + r.length := by
  have hp : p ≠ [] → 1 ≤ p.length := fun h => List.length_pos_iff.2 h
  unfold argR at h
  split at h
  · cases h
    refine ⟨hp (hne.resolve_right (by simp [ends])), by simp⟩
  · rename_i c t
    split at h
    · rename_i hc
      cases h
      refine ⟨hp (hne.resolve_right (by simp [ends, hc])), by simp⟩
    · cases hu : uq c 0 t with
      | none => rw [hu] at h; cases h
      | some y =>
        rw [hu] at h
        simp only [] at h
        have := uq_le c t 0 y hu
        split at h
        · cases h; exact ⟨by simp only []; omega, by simp; omega⟩
        · cases h
/-- An argument more. -/
theorem go_arg (out : List (List UInt8)) (p r : List UInt8) (hp : ∀ c ∈ p, bareC c = true) (hr : ∀ c t, r = c :: t → bareC c = false) (hne : p ≠ [] ∨ ends r = false) :
    go out 0 false false [] 0 (p ++ r) = match argR p r with
      | none => none
      | some x => go (out ++ [x.1]) 0 false false [] 0 ((p ++ r).drop x.2) := by
  have hp' : ∀ c ∈ p, gapC c = false ∧ quoteC c = false := fun c hc => by
    have := hp c hc
    unfold bareC at this
    simpa using this
  rw [go_plain out p false false [] r rfl hp']
  simp only [Bool.false_or, List.nil_append]
  have hpe : p ≠ [] → (!p.isEmpty) = true := fun h => by cases p with
    | nil => exact absurd rfl h
    | cons _ _ => rfl
  cases r with
  | nil =>
    rw [hpe (hne.resolve_right (by simp [ends]))]
    rw [go_end _ _ _ _ rfl]
    simp [argR]
  | cons c t =>
    by_cases hc : gapC c = true
    · rw [hpe (hne.resolve_right (by simp [ends, hc])), go_end _ _ _ _ (show ends (c :: t) = true from hc)]
      simp only [argR, if_pos hc]
      rw [List.drop_left]
    · have hq : quoteC c = true := by
        have := hr c t rfl
        unfold bareC at this
        simp only [Bool.and_eq_false_iff, Bool.not_eq_false'] at this
        exact this.resolve_left hc
      rw [go, if_neg (by simp), if_pos rfl, if_neg hc, if_pos hq, go_quoted _ _ (quote_ne_zero hq)]
      simp only [argR, if_neg hc]
      cases hu : uq c 0 t with
      | none => rfl
      | some x =>
        simp only []
        cases he : ends (t.drop x.2) with
        | true =>
          rw [go_end _ _ _ _ he]
          simp only [if_true]
          congr 1
          rw [List.drop_length_add_append, List.drop_succ_cons]
        | false =>
          rw [go_behind _ _ _ _ he]
          rfl
theorem go_rst (out : List (List UInt8)) (l : List UInt8) : go out 0 false false [] 0 (l.dropWhile gapC) = go out 0 false false [] 0 l := by
  have h := go_blanks out (l.takeWhile gapC) (l.dropWhile gapC) (fun c hc => List.all_eq_true.1 (List.all_takeWhile (p := gapC) (l := l)) c hc)
  rw [List.takeWhile_append_dropWhile] at h
  exact h.symm
theorem rst_ends {l : List UInt8} (h : l.dropWhile gapC ≠ []) : ends (l.dropWhile gapC) = false := by
  cases hd : l.dropWhile gapC with
  | nil => exact absurd hd h
  | cons c t =>
    have := List.head?_dropWhile_not gapC l
    rw [hd] at this
    simpa [ends] using this
end Go.Proofs.YtjidopgohdlfdaaGreatDoor.Ln
