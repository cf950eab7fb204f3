/-
  Plain mathematics of requests among bytes: the ways at one byte of a decimal, what stands behind it, where a line ends. A premise where it is written: the most is at most 1048576.
-/
import Derived.Test.YtjidopgohdlfdaaGreatDoorPMathC
import Derived.Lib.Bytealg
namespace Go.Proofs.YtjidopgohdlfdaaGreatDoor.Pq
open Go.Lib Dec

theorem dg_form {c : UInt8} (h : dg c = true) : ∃ d, d < 10 ∧ c = UInt8.ofNat (48 + d) := by
  unfold dg at h
  have h2 := of_decide_eq_true h
  refine ⟨c.toNat - 48, by omega, ?_⟩
  apply UInt8.toNat_inj.1
  simp
  omega
theorem num_next {l : List UInt8} {c : UInt8} {m : Int} (hn : numOf l = some m) (h0 : 1 ≤ m) (h1 : m ≤ 1048576) (hc : dg c = true) : ∃ n, numOf (l ++ [c]) = some n ∧ 0 ≤ n := by
  obtain ⟨d, hd, rfl⟩ := dg_form hc
  obtain ⟨hl, _, _⟩ := numOf_some _ _ hn
  obtain ⟨u, rfl⟩ : ∃ u : Nat, m = (u : Int) := ⟨m.toNat, by omega⟩
  refine ⟨((u * 10 + d : Nat) : Int), ?_, by omega⟩
  have e : Lib.itoa ((u * 10 + d : Nat) : Int) = l ++ [UInt8.ofNat (48 + d)] := by
    rw [← hl, itoa_nat, itoa_nat, Lib.decDigits, dif_neg (by omega), show (u * 10 + d) / 10 = u by omega, show (u * 10 + d) % 10 = d by omega]
  rw [← e]
  exact numOf_itoa _ (by omega) (by omega)
theorem num_one {c : UInt8} (hc : dg c = true) : ∃ n, numOf [c] = some n ∧ 0 ≤ n := by
  obtain ⟨d, hd, rfl⟩ := dg_form hc
  refine ⟨(d : Int), ?_, by omega⟩
  have e : Lib.itoa (d : Int) = [UInt8.ofNat (48 + d)] := by rw [itoa_nat]; exact Lib.decDigits_one hd
  rw [← e]
  exact numOf_itoa _ (by omega) (by omega)
/-- What was read of a decimal. -/
def Pre (most : Int) (pre : List UInt8) : Prop := pre = [] ∨ ∃ m : Int, numOf pre = some m ∧ 0 ≤ m ∧ m ≤ most
theorem pre_next {most n : Int} {pre : List UInt8} {c : UInt8} (hm : most ≤ 1048576) (hp : Pre most pre) (hc : dg c = true) (hn : numOf (pre ++ [c]) = some n) : 0 ≤ n := by
  rcases hp with rfl | ⟨m, h1, h0, h2⟩
  · obtain ⟨k, hk, h⟩ := num_one hc
    rw [List.nil_append, hk] at hn
    rw [← Option.some.inj hn]; exact h
  · by_cases hz : 1 ≤ m
    · obtain ⟨k, hk, h⟩ := num_next h1 hz (by omega) hc
      rw [hk] at hn
      rw [← Option.some.inj hn]; exact h
    · obtain rfl : m = 0 := by omega
      obtain ⟨hl, _, _⟩ := numOf_some _ _ h1
      have e48 : pre = [48] := by rw [← hl, show (0 : Int) = ((0 : Nat) : Int) from rfl, itoa_nat, dec_zero]
      subst e48
      obtain ⟨hl, _, _⟩ := numOf_some _ _ hn
      by_cases hneg : n < 0
      · obtain ⟨u, hu, rfl⟩ : ∃ u : Nat, 1 ≤ u ∧ n = -(u : Int) := ⟨n.natAbs, by omega, by omega⟩
        rw [Dec.itoa_neg u hu] at hl
        simp at hl
      · omega
theorem fg_none {most over : Int} {pre t : List UInt8} {c : UInt8} (hm : most ≤ 1048576) (hp : Pre most pre) (hc : dg c = true) (hn : numOf (pre ++ [c]) = none) : (pre ++ [c]).head? = some 48 ∧ firstGo most over pre (c :: t) = .inl 5 := by
  have h48 : (pre ++ [c]).head? = some 48 := by
    rcases hp with rfl | ⟨m, h1, h0, h2⟩
    · obtain ⟨k, hk, h⟩ := num_one hc
      rw [List.nil_append, hk] at hn
      cases hn
    · by_cases hz : 1 ≤ m
      · obtain ⟨k, hk, h⟩ := num_next h1 hz (by omega) hc
        rw [hk] at hn
        cases hn
      · obtain rfl : m = 0 := by omega
        obtain ⟨hl, _, _⟩ := numOf_some _ _ h1
        have e48 : pre = [48] := by rw [← hl, show (0 : Int) = ((0 : Nat) : Int) from rfl, itoa_nat, dec_zero]
        subst e48
        rfl
  refine ⟨h48, ?_⟩
  rw [firstGo, if_pos hc, hn]
  simp only []
  rw [if_pos h48]
theorem endsF_cases (l : List UInt8) : endsF l = 0 ∨ endsF l = -1 ∨ endsF l = 5 := by
  match l with
  | [] => exact Or.inr (Or.inl rfl)
  | [c] => rw [endsF]; split; exact Or.inr (Or.inr rfl); exact Or.inr (Or.inl rfl)
  | c :: d :: t =>
    rw [endsF, lfE]
    split
    · exact Or.inr (Or.inr rfl)
    · split
      · exact Or.inr (Or.inr rfl)
      · exact Or.inl rfl
/-- A text that does not go on with a digit. -/
def NoDig (r : List UInt8) : Prop := ∀ c t, r = c :: t → dg c = false
theorem fa_none {most over : Int} {r : List UInt8} (hd : NoDig r) (hr : r ≠ []) : firstGo most over [] r = .inl 5 := by
  cases r with
  | nil => exact absurd rfl hr
  | cons c t => rw [firstGo, if_neg (by rw [hd c t rfl]; decide), if_pos (Or.inl rfl)]
theorem fa_more {most over : Int} {pre r : List UInt8} (hd : NoDig r) (hp : pre ≠ [] ∨ r = []) (h : endsF r = -1) : firstGo most over pre r = .inl (-1) := by
  cases r with
  | nil => rw [firstGo]
  | cons c t =>
    have hp' : pre ≠ [] := hp.resolve_right (by simp)
    have h13 : ¬ c ≠ 13 := fun hc => by rw [endsF, if_pos hc] at h; exact absurd h (by decide)
    rw [endsF, if_neg h13] at h
    rw [firstGo, if_neg (by rw [hd c t rfl]; decide), if_neg (by intro hq; rcases hq with h1 | h1; exact hp' h1; exact h13 h1)]
    unfold lfE at h
    unfold lfF
    cases t with
    | nil => rfl
    | cons d t =>
      simp only [] at h
      split at h <;> exact absurd h (by decide)
theorem fa_bad {most over : Int} {pre r : List UInt8} (hd : NoDig r) (h : endsF r = 5) : firstGo most over pre r = .inl 5 := by
  cases r with
  | nil => exact absurd h (by decide)
  | cons c t =>
    rw [firstGo, if_neg (by rw [hd c t rfl]; decide)]
    by_cases hq : pre = [] ∨ c ≠ 13
    · rw [if_pos hq]
    · rw [if_neg hq]
      have h13 : ¬ c ≠ 13 := fun e => hq (Or.inr e)
      rw [endsF, if_neg h13] at h
      unfold lfE at h
      unfold lfF
      cases t with
      | nil => exact absurd h (by decide)
      | cons d t =>
        simp only [] at h ⊢
        by_cases hd2 : d ≠ 10
        · rw [if_pos hd2]
        · rw [if_neg hd2] at h; exact absurd h (by decide)
theorem fa_ok {most over n : Int} {pre r : List UInt8} (hd : NoDig r) (hp : pre ≠ []) (hn : numOf pre = some n) (h : endsF r = 0) : firstGo most over pre r = .inr (n.toNat, pre.length + 3) := by
  cases r with
  | nil => exact absurd h (by decide)
  | cons c t =>
    have h13 : ¬ c ≠ 13 := fun hc => by rw [endsF, if_pos hc] at h; exact absurd h (by decide)
    rw [endsF, if_neg h13] at h
    rw [firstGo, if_neg (by rw [hd c t rfl]; decide), if_neg (by intro hq; rcases hq with h1 | h1; exact hp h1; exact h13 h1)]
    unfold lfE at h
    unfold lfF
    cases t with
    | nil => exact absurd h (by decide)
    | cons d t =>
      simp only [] at h ⊢
      by_cases hd2 : d ≠ 10
      · rw [if_pos hd2] at h; exact absurd h (by decide)
      · rw [if_neg hd2, hn]; rfl
/-! ### Where a line ends -/
theorem line_idx {L : Nat} (l : List UInt8) : ∀ pre : List UInt8, pre.length ≤ L + 1 →
    (indexByte (l.take (L + 1 - pre.length)) 10 = -1 ∧ lineGo L pre l = (if L < pre.length + l.length then .inl 6 else .inl (-1))) ∨
    ∃ k : Nat, indexByte (l.take (L + 1 - pre.length)) 10 = k ∧ k < l.length ∧ pre.length + k ≤ L ∧ lineGo L pre l = .inr (pre ++ l.take k) := by
  induction l with
  | nil =>
    intro pre hp
    left
    rw [List.take_nil]
    exact ⟨rfl, by rw [lineGo]; simp⟩
  | cons c t ih =>
    intro pre hp
    by_cases hL : L < pre.length
    · left
      have e : L + 1 - pre.length = 0 := by omega
      rw [e, List.take_zero, lineGo, if_pos hL, if_pos (by omega)]
      exact ⟨rfl, rfl⟩
    · obtain ⟨m, hm⟩ : ∃ m, L + 1 - pre.length = m + 1 := ⟨L - pre.length, by omega⟩
      rw [hm, List.take_succ_cons, lineGo, if_neg hL]
      by_cases hc : c = 10
      · right
        refine ⟨0, by rw [indexByte, hc]; rfl, by simp, by omega, ?_⟩
        rw [if_pos hc]; simp
      · have hb : (c == (10 : UInt8)) = false := by simpa using hc
        have e2 : L + 1 - (pre ++ [c]).length = m := by simp; omega
        rcases ih (pre ++ [c]) (by simp; omega) with ⟨h1, h2⟩ | ⟨k, h1, h2, h3, h4⟩
        · left
          rw [e2] at h1
          rw [indexByte, hb, h1, if_neg hc, h2]
          refine ⟨rfl, ?_⟩
          simp only [List.length_append, List.length_cons, List.length_nil]
          congr 1
          exact propext ⟨fun h => by omega, fun h => by omega⟩
        · right
          rw [e2] at h1
          refine ⟨k + 1, ?_, by simp; omega, by simp at h3; omega, ?_⟩
          · rw [indexByte, hb, h1]
            have : ((k : Int) == -1) = false := beq_eq_false_iff_ne.2 (by omega)
            rw [this]; simp
          · rw [if_neg hc, h4]; simp
end Go.Proofs.YtjidopgohdlfdaaGreatDoor.Pq
