/-
  Plain mathematics of decimals, no program in it: the numeral of a whole number, and the number of a text ('numOf'): a text is a decimal just if it is the numeral of what it is read as. No condition.
-/
import Derived.Lib.ItoaNum
namespace Go.Proofs.YtjidopgohdlfdaaGreatDoor.Dec
open Go.Lib

/-- The number of a row of digits, behind a number that stands ahead of it. -/
def digsFrom (a : Nat) : List UInt8 → Option Nat
  | [] => some a
  | c :: l => if 48 ≤ c.toNat ∧ c.toNat ≤ 57 then digsFrom (a * 10 + (c.toNat - 48)) l else none
def digs (l : List UInt8) : Option Nat := digsFrom 0 l

theorem digsFrom_append (l m : List UInt8) (a : Nat) : digsFrom a (l ++ m) = (digsFrom a l).bind fun u => digsFrom u m := by
  induction l generalizing a with
  | nil => rfl
  | cons c l ih =>
    simp only [List.cons_append, digsFrom]
    split
    · exact ih _
    · rfl
theorem digsFrom_ge (l : List UInt8) (a u : Nat) (h : digsFrom a l = some u) : a ≤ u := by
  induction l generalizing a with
  | nil => simp [digsFrom] at h; omega
  | cons c l ih =>
    simp only [digsFrom] at h
    split at h
    · have := ih _ h; omega
    · cases h
theorem digs_snoc (l : List UInt8) (c : UInt8) :
    digs (l ++ [c]) = (digs l).bind fun u => if 48 ≤ c.toNat ∧ c.toNat ≤ 57 then some (u * 10 + (c.toNat - 48)) else none := by
  unfold digs
  rw [digsFrom_append]
  rfl
theorem digs_append_none (l m : List UInt8) (h : digs l = none) : digs (l ++ m) = none := by
  unfold digs at *
  rw [digsFrom_append, h]; rfl
theorem digs_append_ge (l m : List UInt8) (u v : Nat) (h : digs l = some u) (h2 : digs (l ++ m) = some v) : u ≤ v := by
  unfold digs at *
  rw [digsFrom_append, h] at h2
  exact digsFrom_ge m u v h2

theorem digs_dec (u : Nat) : digs (decDigits u) = some u := by
  induction u using Nat.strongRecOn with
  | _ u ih =>
    rw [decDigits]
    split
    · have e : (UInt8.ofNat (48 + u)).toNat = 48 + u := by simp; omega
      simp only [digs, digsFrom, e]
      rw [if_pos (by omega)]
      congr 1; omega
    · rw [digs_snoc, ih (u / 10) (by omega)]
      have e : (UInt8.ofNat (48 + u % 10)).toNat = 48 + u % 10 := by simp; omega
      simp only [Option.bind_some, e]
      rw [if_pos (by omega)]
      congr 1; omega
theorem dec_zero : decDigits 0 = [48] := by rw [decDigits]; rfl
theorem dec_ne (u : Nat) : decDigits u ≠ [] := by
  rw [decDigits]; split <;> simp
theorem dec_head (u : Nat) (h : 1 ≤ u) : (decDigits u).head? ≠ some 48 := by
  induction u using Nat.strongRecOn with
  | _ u ih =>
    rw [decDigits]
    split
    · simp only [List.head?_cons, ne_eq, Option.some.injEq]
      intro e
      have := congrArg UInt8.toNat e
      simp at this
      omega
    · have := ih (u / 10) (by omega) (by omega)
      rw [List.head?_append]
      cases hd : (decDigits (u / 10)).head? with
      | none => exact absurd (List.head?_eq_none_iff.1 hd) (dec_ne _)
      | some x => rw [hd] at this; simpa using this

/-- A row of digits without a zero ahead is the numeral of its number. -/
theorem dec_digs (l : List UInt8) : ∀ u, digs l = some u → l ≠ [] → l.head? ≠ some 48 → decDigits u = l := by
  induction hn : l.length generalizing l with
  | zero => intro u _ h; exact absurd (List.length_eq_zero_iff.1 hn) h
  | succ n ih =>
    intro u hu hne hh
    obtain ⟨m, c, rfl⟩ : ∃ m c, l = m ++ [c] := ⟨l.dropLast, l.getLast hne, (List.dropLast_concat_getLast hne).symm⟩
    have hm : m.length = n := by simpa using hn
    rw [digs_snoc] at hu
    cases hv : digs m with
    | none => rw [hv] at hu; cases hu
    | some v =>
      rw [hv] at hu
      simp only [Option.bind_some] at hu
      split at hu
      · rename_i hc
        have hu' : v * 10 + (c.toNat - 48) = u := by simpa using hu
        have hcc : ∀ d, d = c.toNat - 48 → UInt8.ofNat (48 + d) = c := by
          intro d hd
          apply UInt8.toNat.inj
          simp; omega
        by_cases hm0 : m = []
        · subst hm0
          have hv0 : v = 0 := by simp [digs, digsFrom] at hv; omega
          subst hv0
          rw [decDigits, dif_pos (by omega)]
          simp only [List.nil_append]
          rw [hcc u (by omega)]
        · have hh' : m.head? ≠ some 48 := by
            cases m with
            | nil => exact absurd rfl hm0
            | cons x t => simpa using hh
          have e := ih m hm v hv hm0 hh'
          have hv1 : 1 ≤ v := by
            rcases Nat.eq_zero_or_pos v with hz | hz
            · subst hz
              rw [dec_zero] at e
              subst e
              exact absurd rfl hh'
            · exact hz
          rw [decDigits, dif_neg (by omega), show u / 10 = v by omega, e, hcc (u % 10) (by omega)]
      · cases hu

def minus (s : List UInt8) : Bool := s.head? == some 45
def rest (s : List UInt8) : List UInt8 := if minus s then s.tail else s
def signed (s : List UInt8) (u : Nat) : Int := if minus s then -(u : Int) else u

/-- THE NUMBER OF WHICH A TEXT IS THE DECIMAL, from -2^63 to 2^63 - 1; none: it is none. -/
def numOf (s : List UInt8) : Option Int := match digs (rest s) with
  | none => none
  | some u => if -9223372036854775808 ≤ signed s u ∧ signed s u ≤ 9223372036854775807 ∧ itoa (signed s u) = s then some (signed s u) else none

theorem itoa_neg (u : Nat) (h : 1 ≤ u) : itoa (-(u : Int)) = 45 :: decDigits u := by
  unfold itoa
  rw [if_pos (by omega)]
  congr 2
  omega
theorem itoa_nat (u : Nat) : itoa (u : Int) = decDigits u := by
  unfold itoa
  rw [if_neg (by omega)]
  congr 1
theorem dec_no_minus (u : Nat) : (decDigits u).head? ≠ some 45 := by
  intro h
  have hd := digs_dec u
  cases hl : decDigits u with
  | nil => exact absurd hl (dec_ne u)
  | cons c t =>
    rw [hl] at h hd
    have : c = 45 := by simpa using h
    subst this
    simp [digs, digsFrom] at hd

theorem numOf_itoa (n : Int) (h0 : -9223372036854775808 ≤ n) (h1 : n ≤ 9223372036854775807) : numOf (itoa n) = some n := by
  unfold numOf
  by_cases h : n < 0
  · obtain ⟨u, hu1, rfl⟩ : ∃ u : Nat, 1 ≤ u ∧ n = -(u : Int) := ⟨n.natAbs, by omega, by omega⟩
    have e := itoa_neg u hu1
    have hm : minus (itoa (-(u : Int))) = true := by rw [e]; rfl
    have hr : rest (itoa (-(u : Int))) = decDigits u := by unfold rest; rw [if_pos hm, e]; rfl
    have hs : signed (itoa (-(u : Int))) u = -(u : Int) := by unfold signed; rw [if_pos hm]
    rw [hr, digs_dec]
    simp only [hs]
    rw [if_pos ⟨h0, h1, trivial⟩]
  · obtain ⟨u, rfl⟩ : ∃ u : Nat, n = (u : Int) := ⟨n.toNat, by omega⟩
    have e := itoa_nat u
    have hm : minus (itoa (u : Int)) = false := by
      rw [e]; unfold minus
      cases hb : (decDigits u).head? == some 45 with
      | false => rfl
      | true => exact absurd (by simpa using hb) (dec_no_minus u)
    have hr : rest (itoa (u : Int)) = decDigits u := by unfold rest; rw [hm, e]; rfl
    have hs : signed (itoa (u : Int)) u = (u : Int) := by unfold signed; rw [hm]; rfl
    rw [hr, digs_dec]
    simp only [hs]
    rw [if_pos ⟨h0, h1, trivial⟩]
theorem numOf_some (s : List UInt8) (n : Int) (h : numOf s = some n) : itoa n = s ∧ -9223372036854775808 ≤ n ∧ n ≤ 9223372036854775807 := by
  unfold numOf at h
  split at h
  · cases h
  · split at h
    · rename_i hc
      obtain rfl := Option.some.inj h
      exact ⟨hc.2.2, hc.1, hc.2.1⟩
    · cases h

/-- A row of digits read as a number below 0, as 'negated' reads it. -/
def negOf (l : List UInt8) : Option Nat :=
  if l = [] ∨ l.head? = some 48 then none else match digs l with
    | none => none
    | some u => if u ≤ 9223372036854775808 then some u else none
theorem negOf_pos (l : List UInt8) (u : Nat) (h : negOf l = some u) : 1 ≤ u ∧ u ≤ 9223372036854775808 ∧ decDigits u = l := by
  unfold negOf at h
  split at h
  · cases h
  · rename_i hc
    have hc1 : l ≠ [] := fun e => hc (Or.inl e)
    have hc2 : l.head? ≠ some 48 := fun e => hc (Or.inr e)
    split at h
    · cases h
    · rename_i v hv
      split at h
      · rename_i hle
        obtain rfl := Option.some.inj h
        have e := dec_digs l v hv hc1 hc2
        refine ⟨?_, hle, e⟩
        rcases Nat.eq_zero_or_pos v with hz | hz
        · subst hz; rw [dec_zero] at e; subst e; exact absurd rfl hc2
        · exact hz
      · cases h
theorem negOf_dec (u : Nat) (h1 : 1 ≤ u) (h2 : u ≤ 9223372036854775808) : negOf (decDigits u) = some u := by
  unfold negOf
  rw [if_neg (by intro h; rcases h with h | h; exact dec_ne u h; exact dec_head u h1 h), digs_dec]
  simp only []
  rw [if_pos h2]

theorem numOf_minus_zero : numOf [45, 48] = none := by decide +kernel
theorem numOf_zero : numOf [48] = some 0 := by decide +kernel

/-- With a '-' ahead, whatever stands behind but '0': the digits behind it, read below 0. -/
theorem numOf_minus (l : List UInt8) (_h : l ≠ [48]) : numOf (45 :: l) = (negOf l).map fun u => -(u : Int) := by
  cases hn : negOf l with
  | some u =>
    obtain ⟨h1, h2, rfl⟩ := negOf_pos l u hn
    rw [← itoa_neg u h1, numOf_itoa _ (by omega) (by omega)]; rfl
  | none =>
    cases hm : numOf (45 :: l) with
    | none => rfl
    | some n =>
      obtain ⟨e, h0, h1⟩ := numOf_some _ _ hm
      by_cases hneg : n < 0
      · obtain ⟨u, hu1, rfl⟩ : ∃ u : Nat, 1 ≤ u ∧ n = -(u : Int) := ⟨n.natAbs, by omega, by omega⟩
        rw [itoa_neg u hu1] at e
        have e2 : decDigits u = l := by simpa using e
        rw [← e2, negOf_dec u hu1 (by omega)] at hn
        cases hn
      · obtain ⟨u, rfl⟩ : ∃ u : Nat, n = (u : Int) := ⟨n.toNat, by omega⟩
        rw [itoa_nat] at e
        exact absurd (by rw [e]; rfl) (dec_no_minus u)
/-- Without a '-' ahead, whatever but '0'. -/
theorem numOf_plain (s : List UInt8) (hm : s.head? ≠ some 45) (h : s ≠ [48]) :
    numOf s = (negOf s).bind fun u => if u ≤ 9223372036854775807 then some (u : Int) else none := by
  cases hn : negOf s with
  | some u =>
    obtain ⟨h1, h2, rfl⟩ := negOf_pos s u hn
    simp only [Option.bind_some]
    split
    · rw [← itoa_nat u, numOf_itoa _ (by omega) (by omega)]
    · cases hx : numOf (decDigits u) with
      | none => rfl
      | some n =>
        obtain ⟨e, h0, h3⟩ := numOf_some _ _ hx
        by_cases hneg : n < 0
        · obtain ⟨v, hv1, rfl⟩ : ∃ u : Nat, 1 ≤ u ∧ n = -(u : Int) := ⟨n.natAbs, by omega, by omega⟩
          rw [itoa_neg v hv1] at e
          exact absurd (by rw [← e]; rfl) hm
        · obtain ⟨v, rfl⟩ : ∃ u : Nat, n = (u : Int) := ⟨n.toNat, by omega⟩
          rw [itoa_nat] at e
          have : some v = some u := by rw [← digs_dec v, ← digs_dec u, e]
          have := Option.some.inj this
          omega
  | none =>
    cases hx : numOf s with
    | none => rfl
    | some n =>
      obtain ⟨e, h0, h1⟩ := numOf_some _ _ hx
      by_cases hneg : n < 0
      · obtain ⟨u, hu1, rfl⟩ : ∃ u : Nat, 1 ≤ u ∧ n = -(u : Int) := ⟨n.natAbs, by omega, by omega⟩
        rw [itoa_neg u hu1] at e
        exact absurd (by rw [← e]; rfl) hm
      · obtain ⟨u, rfl⟩ : ∃ u : Nat, n = (u : Int) := ⟨n.toNat, by omega⟩
        rw [itoa_nat] at e
        rcases Nat.eq_zero_or_pos u with hz | hz
        · subst hz; rw [dec_zero] at e; exact absurd e.symm h
        · rw [← e, negOf_dec u hz (by omega)] at hn
          cases hn

end Go.Proofs.YtjidopgohdlfdaaGreatDoor.Dec
