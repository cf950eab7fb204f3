/-
  Mathematics for the reference's reader of a length: what the decimal that goes on is, a digit more; the ways at one byte. A premise: what was read is at most 1048576.
-/
import Derived.Test.YtogbjhpkbdmllaaDoorRV
namespace Go.Proofs.YtogbjhpkbdmllaaDoor
open Go.RowKit Rp Dec

theorem dig_form {c : UInt8} (h : isDig c = true) : ∃ d, d < 10 ∧ c = UInt8.ofNat (48 + d) := by
  unfold isDig at h
  have h2 := of_decide_eq_true h
  refine ⟨c.toNat - 48, by omega, ?_⟩
  apply UInt8.toNat_inj.1
  simp
  omega
/-- A number without a minus, a digit more. -/
theorem num_next {l : List UInt8} {c : UInt8} {m : Int} (hn : numOf l = some m) (h0 : 1 ≤ m) (h1 : m ≤ 1048576) (hc : isDig c = true) : ∃ n, numOf (l ++ [c]) = some n := by
  obtain ⟨d, hd, rfl⟩ := dig_form hc
  obtain ⟨hl, _, _⟩ := numOf_some _ _ hn
  obtain ⟨u, rfl⟩ : ∃ u : Nat, m = (u : Int) := ⟨m.toNat, by omega⟩
  refine ⟨((u * 10 + d : Nat) : Int), ?_⟩
  have e : Lib.itoa ((u * 10 + d : Nat) : Int) = l ++ [UInt8.ofNat (48 + d)] := by
    rw [← hl, itoa_nat, itoa_nat, Lib.decDigits, dif_neg (by omega), show (u * 10 + d) / 10 = u by omega, show (u * 10 + d) % 10 = d by omega]
  rw [← e]
  exact numOf_itoa _ (by omega) (by omega)
theorem num_one {c : UInt8} (hc : isDig c = true) : ∃ n, numOf [c] = some n := by
  obtain ⟨d, hd, rfl⟩ := dig_form hc
  refine ⟨(d : Int), ?_⟩
  have e : Lib.itoa (d : Int) = [UInt8.ofNat (48 + d)] := by rw [itoa_nat]; exact Lib.decDigits_one hd
  rw [← e]
  exact numOf_itoa _ (by omega) (by omega)
/-- Behind a leading nought there is no number. -/
theorem num_nought {l : List UInt8} {c : UInt8} {n : Int} (h : l.head? = some 48) : numOf (l ++ [c]) ≠ some n := by
  intro hn
  obtain ⟨hl, _, _⟩ := numOf_some _ _ hn
  cases l with
  | nil => cases h
  | cons a l =>
    simp at h
    subst h
    by_cases hneg : n < 0
    · obtain ⟨u, hu, rfl⟩ : ∃ u : Nat, 1 ≤ u ∧ n = -(u : Int) := ⟨n.natAbs, by omega, by omega⟩
      rw [Dec.itoa_neg u hu] at hl
      simp at hl
    · obtain ⟨u, rfl⟩ : ∃ u : Nat, n = (u : Int) := ⟨n.toNat, by omega⟩
      rw [itoa_nat] at hl
      rcases Nat.eq_zero_or_pos u with h0 | h0
      · subst h0; rw [dec_zero] at hl; simp at hl
      · exact dec_head u h0 (by rw [hl]; rfl)
/-- A number's text begins with a minus where it is below nought, and there alone. -/
theorem num_minus {l : List UInt8} {n : Int} (hn : numOf l = some n) : l.head? = some 45 ↔ n < 0 := by
  obtain ⟨hl, _, _⟩ := numOf_some _ _ hn
  subst hl
  by_cases hneg : n < 0
  · obtain ⟨u, hu, rfl⟩ : ∃ u : Nat, 1 ≤ u ∧ n = -(u : Int) := ⟨n.natAbs, by omega, by omega⟩
    rw [Dec.itoa_neg u hu]
    simp; omega
  · obtain ⟨u, rfl⟩ : ∃ u : Nat, n = (u : Int) := ⟨n.toNat, by omega⟩
    rw [itoa_nat]
    constructor
    · intro h; exact absurd h (dec_no_minus u)
    · intro h; omega
section
variable {s : ByteArray} {k : Nat} {lo hi ab : Int}
theorem hd_none (h : k < s.size) (hc : s[k] = 13) (hn : numOf (s.data.toList.take k) = none) : decGo lo hi ab (s.data.toList.take k) (s.data.toList.drop k) = .inl 5 := by
  rw [line_drop h, decGo, hc, if_neg (by rw [isDig_cr]; decide), if_neg (by intro h; exact absurd h.1 (by decide)), hn]
theorem hd_end (h : k < s.size) (hc : s[k] = 13) {n : Int} (hn : numOf (s.data.toList.take k) = some n) (he : k + 1 = s.size) : decGo lo hi ab (s.data.toList.take k) (s.data.toList.drop k) = .inl 4 := by
  have hd : s.data.toList.drop (k + 1) = [] := List.drop_eq_nil_of_le (by simp; omega)
  rw [line_drop h, decGo, hc, if_neg (by rw [isDig_cr]; decide), if_neg (by intro h; exact absurd h.1 (by decide)), hn, hd]
  rfl
theorem hd_no (h : k < s.size) (hc : s[k] = 13) {n : Int} (hn : numOf (s.data.toList.take k) = some n) (h' : k + 1 < s.size) (hd : s[k + 1] ≠ 10) : decGo lo hi ab (s.data.toList.take k) (s.data.toList.drop k) = .inl 5 := by
  rw [line_drop h, decGo, hc, if_neg (by rw [isDig_cr]; decide), if_neg (by intro h; exact absurd h.1 (by decide)), hn, line_drop h']
  have : endF (13 :: s[k + 1] :: s.data.toList.drop (k + 1 + 1)) = 5 := by rw [endF, if_neg (fun e => hd e.2)]
  simp only [stopF, this]
  rfl
theorem hd_yes (h : k < s.size) (hc : s[k] = 13) {n : Int} (hn : numOf (s.data.toList.take k) = some n) (h' : k + 1 < s.size) (hd : s[k + 1] = 10) : decGo lo hi ab (s.data.toList.take k) (s.data.toList.drop k) = .inr (n, k + 2) := by
  rw [line_drop h, hc, line_drop h', hd, decGo_eol _ _ _ hn, take_len (by omega)]
theorem hd_more (h : k < s.size) {n : Int} (hn : numOf (s.data.toList.take (k + 1)) = some n) (h0 : lo ≤ n) (h1 : n ≤ hi) : decGo lo hi ab (s.data.toList.take k) (s.data.toList.drop k) = decGo lo hi ab (s.data.toList.take (k + 1)) (s.data.toList.drop (k + 1)) := by
  rw [line_take h] at hn
  rw [line_drop h, line_take h]
  exact decGo_dig (numOf_last hn) hn h0 h1
theorem hd_low (h : k < s.size) {n : Int} (hn : numOf (s.data.toList.take (k + 1)) = some n) (h0 : n < lo) : decGo lo hi ab (s.data.toList.take k) (s.data.toList.drop k) = .inl 5 := by
  rw [line_take h] at hn
  rw [line_drop h, decGo, if_pos (numOf_last hn), hn]
  simp only []
  rw [if_pos h0]
theorem hd_over (h : k < s.size) {n : Int} (hn : numOf (s.data.toList.take (k + 1)) = some n) (h0 : lo ≤ n) (h1 : hi < n) : decGo lo hi ab (s.data.toList.take k) (s.data.toList.drop k) = .inl ab := by
  rw [line_take h] at hn
  rw [line_drop h, decGo, if_pos (numOf_last hn), hn]
  simp only []
  rw [if_neg (by omega), if_pos h1]
theorem hd_minus (h : 0 < s.size) (hc : s[0] = 45) : decGo lo hi ab (s.data.toList.take 0) (s.data.toList.drop 0) = decGo lo hi ab (s.data.toList.take 1) (s.data.toList.drop 1) := by
  rw [line_drop h, line_take h, hc, decGo, if_neg (by decide), if_pos ⟨rfl, rfl⟩]
  rfl
theorem hd_bad (h : k < s.size) (hc : s[k] ≠ 13) (hm : ¬ (k = 0 ∧ s[k] = 45)) (hn : numOf (s.data.toList.take (k + 1)) = none) : decGo lo hi ab (s.data.toList.take k) (s.data.toList.drop k) = .inl 5 := by
  rw [line_take h] at hn
  rw [line_drop h, decGo]
  by_cases hd : isDig s[k] = true
  · rw [if_pos hd, hn]
  · rw [if_neg hd, if_neg (fun e => hm ⟨by
      have := congrArg List.length e.2
      rw [take_len (by omega)] at this
      exact this, e.1⟩)]
    cases numOf (s.data.toList.take k) with
    | none => rfl
    | some n =>
      have : endF (s[k] :: s.data.toList.drop (k + 1)) = 5 := by
        cases s.data.toList.drop (k + 1) with
        | nil => rw [endF, if_neg hc]
        | cons d t => rw [endF, if_neg (fun e => hc e.1)]
      simp only [stopF, this]
      rfl
end
end Go.Proofs.YtogbjhpkbdmllaaDoor
