/-
  The walks of the two readers of a decimal, of the reading between bounds, and of the law's own small look. A premise: the library's table of powers of ten holds what its initialiser lays.
-/
import Derived.Test.YtjidopgohdlfdaaGreatDoorWalksC
namespace Go.Proofs.YtjidopgohdlfdaaGreatDoor
open Go.RowKit Dec

/-- What a reader of a decimal answers. -/
def parN (l : List UInt8) : Int := (numOf l).getD 0
def parB (l : List UInt8) : Bool := (numOf l).isSome
theorem par_none {l : List UInt8} (h : numOf l = none) : parN l = 0 ∧ parB l = false := by unfold parN parB; rw [h]; exact ⟨rfl, rfl⟩
theorem par_some {l : List UInt8} {n : Int} (h : numOf l = some n) : parN l = n ∧ parB l = true := by unfold parN parB; rw [h]; exact ⟨rfl, rfl⟩
theorem par_range (l : List UInt8) : -9223372036854775808 ≤ parN l ∧ parN l ≤ 9223372036854775807 := by
  cases h : numOf l with
  | none => rw [(par_none h).1]; exact ⟨by omega, by omega⟩
  | some n => rw [(par_some h).1]; exact (numOf_some l n h).2

theorem cut_yes (s t : ByteArray) (w : World) (h : s.data.toList = 45 :: t.data.toList) :
    Calls Tryz.prog 113 #[.string s, .string ⟨#[45]⟩] w fun e w' => e = .returned (.tuple #[.string t, .bool true]) ∧ w' = w := by
  refine (Tryz.strings_CutPrefix s ⟨#[45]⟩ w).mono fun e w' ⟨he, hw⟩ => ⟨?_, hw⟩
  rw [he, h]
  have h1 : Lib.hasPrefix (45 :: t.data.toList) [45] = true := by simp [Lib.hasPrefix]
  have h2 : Lib.trimPrefix (45 :: t.data.toList) [45] = t.data.toList := by simp [Lib.trimPrefix, Lib.hasPrefix]
  show Ending.returned (.tuple #[.string ⟨(Lib.trimPrefix (45 :: t.data.toList) [45]).toArray⟩, .bool (Lib.hasPrefix (45 :: t.data.toList) [45])]) = _
  rw [h1, h2]
theorem cut_no (s : ByteArray) (w : World) (h : s.data.toList.head? ≠ some 45) :
    Calls Tryz.prog 113 #[.string s, .string ⟨#[45]⟩] w fun e w' => e = .returned (.tuple #[.string s, .bool false]) ∧ w' = w := by
  refine (Tryz.strings_CutPrefix s ⟨#[45]⟩ w).mono fun e w' ⟨he, hw⟩ => ⟨?_, hw⟩
  have h1 : Lib.hasPrefix s.data.toList [45] = false := by
    cases hs : s.data.toList with
    | nil => rfl
    | cons c l =>
      rw [hs] at h
      have h' : ¬ c = 45 := by simpa using h
      have h3 : ((45 : UInt8) == c) = false := by simpa using (Ne.symm h')
      simp [Lib.hasPrefix, List.isPrefixOf, h3]
  have h2 : Lib.trimPrefix s.data.toList [45] = s.data.toList := by simp [Lib.trimPrefix, h1]
  rw [he]
  show Ending.returned (.tuple #[.string ⟨(Lib.trimPrefix s.data.toList [45]).toArray⟩, .bool (Lib.hasPrefix s.data.toList [45])]) = _
  rw [h1, h2]

set_option maxHeartbeats 1000000 in
theorem parse_minus_zero (s t : ByteArray) (w : World) (h : Hid (s.data.toList = 45 :: t.data.toList)) (ht : t.toList = [48]) :
    Calls Tryz.prog 103 #[.string s] w fun e w' => e = .returned (.tuple #[.int .i64 0, .bool false]) ∧ w' = w := by
  go_enter Tryz.func103, Tryz.ntmps103
  go_wp2_with (go_at_call 113; refine (cut_yes s t _ h.out).mono ?_; rintro e w' ⟨rfl, rfl⟩)
  go_ret2
  exact ⟨rfl, rfl⟩
set_option maxHeartbeats 1000000 in
theorem parse_zero (s : ByteArray) (w : World) (h : Hid (s.data.toList.head? ≠ some 45)) (ht : s.toList = [48]) :
    Calls Tryz.prog 103 #[.string s] w fun e w' => e = .returned (.tuple #[.int .i64 0, .bool true]) ∧ w' = w := by
  go_enter Tryz.func103, Tryz.ntmps103
  go_wp2_with (go_at_call 113; refine (cut_no s _ h.out).mono ?_; rintro e w' ⟨rfl, rfl⟩)
  go_ret2
  exact ⟨rfl, rfl⟩
set_option maxHeartbeats 1000000 in
theorem parse_minus (s t : ByteArray) (w : World) (h : Hid (s.data.toList = 45 :: t.data.toList)) (ht : (t.toList == [48]) = false) (hs : t.size ≤ maxLen) :
    Calls Tryz.prog 103 #[.string s] w fun e w' => e = .returned (.tuple #[.int .i64 (negN t.data.toList), .bool (negB t.data.toList)]) ∧ w' = w := by
  go_enter Tryz.func103, Tryz.ntmps103
  go_wp2_with (first | (go_at_call 113; refine (cut_yes s t _ h.out).mono ?_; rintro e w' ⟨rfl, rfl⟩) | (go_at_call 114; refine (neg_any t hs _).mono ?_; rintro e w' ⟨rfl, rfl⟩))
  go_ret2
  exact ⟨rfl, rfl⟩
set_option maxHeartbeats 1000000 in
theorem parse_bad (s : ByteArray) (w : World) (h : Hid (s.data.toList.head? ≠ some 45)) (ht : (s.toList == [48]) = false) (hs : s.size ≤ maxLen) (hn : negN s.data.toList = 0) (hb : negB s.data.toList = false) :
    Calls Tryz.prog 103 #[.string s] w fun e w' => e = .returned (.tuple #[.int .i64 0, .bool false]) ∧ w' = w := by
  go_enter Tryz.func103, Tryz.ntmps103
  go_wp2_with (first | (go_at_call 113; refine (cut_no s _ h.out).mono ?_; rintro e w' ⟨rfl, rfl⟩) | (go_at_call 114; refine (neg_any s hs _).mono ?_; rintro e w' ⟨rfl, rfl⟩))
  go_ret2
  exact ⟨rfl, rfl⟩
set_option maxHeartbeats 1000000 in
theorem parse_good (s : ByteArray) (w : World) (h : Hid (s.data.toList.head? ≠ some 45)) (ht : (s.toList == [48]) = false) (hs : s.size ≤ maxLen) (u : Int) (hn : Hid (negN s.data.toList = u)) (hb : negB s.data.toList = true)
    (u0 : -9223372036854775808 ≤ u) (u1 : u ≤ 9223372036854775807) :
    Calls Tryz.prog 103 #[.string s] w fun e w' => e = .returned (.tuple #[.int .i64 (held (-u)), .bool (fits (-u))]) ∧ w' = w := by
  go_enter Tryz.func103, Tryz.ntmps103
  go_wp2_with (first | (go_at_call 113; refine (cut_no s _ h.out).mono ?_; rintro e w' ⟨rfl, rfl⟩) | (go_at_call 114; refine (neg_any s hs _).mono ?_; rintro e w' ⟨he, rfl⟩; rw [hn.out] at he; subst he) | (go_at_call 115; refine (sub_any 0 u _ (by omega) (by omega) u0 u1).mono ?_; rw [show (0 : Int) - u = -u by omega]; rintro e w' ⟨rfl, rfl⟩))
  go_ret2
  exact ⟨rfl, rfl⟩

theorem parse_any (s : ByteArray) (w : World) (hs : s.size ≤ maxLen) :
    Calls Tryz.prog 103 #[.string s] w fun e w' => e = .returned (.tuple #[.int .i64 (parN s.data.toList), .bool (parB s.data.toList)]) ∧ w' = w := by
  by_cases hm : s.data.toList.head? = some 45
  · obtain ⟨t, hst⟩ : ∃ t : ByteArray, s.data.toList = 45 :: t.data.toList := by
      cases hl : s.data.toList with
      | nil => rw [hl] at hm; cases hm
      | cons c l =>
        rw [hl] at hm
        obtain rfl : c = 45 := by simpa using hm
        exact ⟨⟨l.toArray⟩, by simp⟩
    have hsz : t.size ≤ s.size := by
      have := congrArg List.length hst
      simp at this
      have e1 : s.size = s.data.size := rfl
      have e2 : t.size = t.data.size := rfl
      omega
    by_cases h0 : t.data.toList = [48]
    · have hp := par_none (l := s.data.toList) (by rw [hst, h0]; exact numOf_minus_zero)
      rw [hp.1, hp.2]
      exact parse_minus_zero s t w (Lib.hid hst) (by rw [Lib.toList_data]; exact h0)
    · have hp := numOf_minus t.data.toList h0
      rw [← hst] at hp
      have hx := parse_minus s t w (Lib.hid hst) (by rw [Lib.toList_data]; simpa using h0) (by omega)
      cases hn : negOf t.data.toList with
      | none =>
        rw [hn] at hp
        rw [(par_none hp).1, (par_none hp).2]
        rw [(neg_of_none hn).1, (neg_of_none hn).2] at hx
        exact hx
      | some u =>
        rw [hn] at hp
        rw [(par_some hp).1, (par_some hp).2]
        rw [(neg_of_some hn).1, (neg_of_some hn).2] at hx
        exact hx
  · by_cases h0 : s.data.toList = [48]
    · have hp := par_some (l := s.data.toList) (by rw [h0]; exact numOf_zero)
      rw [hp.1, hp.2]
      exact parse_zero s w (Lib.hid hm) (by rw [Lib.toList_data]; exact h0)
    · have hp := numOf_plain s.data.toList hm h0
      cases hn : negOf s.data.toList with
      | none =>
        rw [hn] at hp
        rw [(par_none hp).1, (par_none hp).2]
        exact parse_bad s w (Lib.hid hm) (by rw [Lib.toList_data]; simpa using h0) hs (neg_of_none hn).1 (neg_of_none hn).2
      | some u =>
        have hu := negOf_pos _ _ hn
        rw [hn] at hp
        simp only [Option.bind_some] at hp
        have hx := parse_good s w (Lib.hid hm) (by rw [Lib.toList_data]; simpa using h0) hs (-(u : Int)) (Lib.hid (neg_of_some hn).1) (neg_of_some hn).2 (by omega) (by omega)
        by_cases hb : u ≤ 9223372036854775807
        · rw [if_pos hb] at hp
          rw [(par_some hp).1, (par_some hp).2]
          rw [held_yes (by omega) (by omega), fits_yes (by omega) (by omega)] at hx
          rw [show - -(u : Int) = u by omega] at hx
          exact hx
        · rw [if_neg hb] at hp
          rw [(par_none hp).1, (par_none hp).2]
          rw [held_no (by omega), fits_no (by omega)] at hx
          exact hx

end Go.Proofs.YtjidopgohdlfdaaGreatDoor
