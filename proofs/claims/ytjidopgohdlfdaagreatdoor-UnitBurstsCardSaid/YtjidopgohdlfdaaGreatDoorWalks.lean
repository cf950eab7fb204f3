/-
  The walks of package num's functions. No condition but the lengths that Go's own strings have.
-/
import Derived.Test.YtjidopgohdlfdaaGreatDoorChecked
import Derived.Test.YtjidopgohdlfdaaGreatDoorMath
import Derived.WalkKit
import Derived.WalkSpells
import Derived.WalkLawsBesides
import Derived.Deep.QuietTactic
import Derived.BigQuiet
import Derived.Lib.Hide
import Derived.Lib.Strings
import Derived.Outline
namespace Go.Proofs.YtjidopgohdlfdaaGreatDoor
open Go.RowKit Dec



theorem take_snoc (s : ByteArray) (k : Nat) (h : k < s.size) : s.data.toList.take (k + 1) = s.data.toList.take k ++ [s[k]] := by
  rw [List.take_succ_eq_append_getElem (by simpa using h)]; rfl

/-- What 'negated' answers. -/
def negN (l : List UInt8) : Int := match negOf l with | some u => -(u : Int) | none => 0
def negB (l : List UInt8) : Bool := (negOf l).isSome
theorem neg_of_none {l : List UInt8} (h : negOf l = none) : negN l = 0 ∧ negB l = false := by unfold negN negB; rw [h]; exact ⟨rfl, rfl⟩
theorem neg_of_some {l : List UInt8} {u : Nat} (h : negOf l = some u) : negN l = -(u : Int) ∧ negB l = true := by unfold negN negB; rw [h]; exact ⟨rfl, rfl⟩
theorem negOf_none_digs {l : List UInt8} (h : digs l = none) : negOf l = none := by unfold negOf; split; rfl; rw [h]
theorem negOf_none_big {l : List UInt8} {u : Nat} (h : ∀ v, digs l = some v → u ≤ v) (hu : 9223372036854775808 < u) : negOf l = none := by
  unfold negOf; split; rfl
  cases hd : digs l with
  | none => rfl
  | some v => have := h v hd; simp only []; rw [if_neg (by omega)]
theorem room (u d : Nat) (hd : d ≤ 9) : (-(u : Int) < (-9223372036854775808 + (d : Int)).tdiv 10) ↔ 9223372036854775808 < u * 10 + d := by
  rw [show (-9223372036854775808 + (d : Int)) = -(9223372036854775808 - (d : Int)) by omega, Int.neg_tdiv, Int.tdiv_eq_ediv_of_nonneg (by omega)]
  omega

theorem split_at (s : ByteArray) (k : Nat) (_h : k < s.size) : s.data.toList = s.data.toList.take (k + 1) ++ s.data.toList.drop (k + 1) := (List.take_append_drop _ _).symm
theorem neg_bad (s : ByteArray) (k u : Nat) (h : k < s.size) (hd : digs (s.data.toList.take k) = some u) (hc : s[k].toNat < 48 ∨ 57 < s[k].toNat) : negOf s.data.toList = none := by
  apply negOf_none_digs
  rw [split_at s k h, take_snoc s k h]
  apply digs_append_none
  rw [digs_snoc, hd]
  simp only [Option.bind_some]
  rw [if_neg (by omega)]
theorem digs_next (s : ByteArray) (k u : Nat) (h : k < s.size) (hd : digs (s.data.toList.take k) = some u) (h1 : 48 ≤ s[k].toNat) (h2 : s[k].toNat ≤ 57) :
    digs (s.data.toList.take (k + 1)) = some (u * 10 + (s[k].toNat - 48)) := by
  rw [take_snoc s k h, digs_snoc, hd]
  simp only [Option.bind_some]
  rw [if_pos ⟨h1, h2⟩]
theorem neg_big (s : ByteArray) (k u : Nat) (h : k < s.size) (hd : digs (s.data.toList.take k) = some u) (h1 : 48 ≤ s[k].toNat) (h2 : s[k].toNat ≤ 57)
    (hb : 9223372036854775808 < u * 10 + (s[k].toNat - 48)) : negOf s.data.toList = none := by
  refine negOf_none_big (fun v hv => ?_) hb
  rw [split_at s k h] at hv
  exact digs_append_ge _ _ _ _ (digs_next s k u h hd h1 h2) hv
theorem neg_end (s : ByteArray) (u : Nat) (hne : s.data.toList ≠ []) (hh : s.data.toList.head? ≠ some 48) (hd : digs s.data.toList = some u) (hu : u ≤ 9223372036854775808) : negOf s.data.toList = some u := by
  unfold negOf
  rw [if_neg (by intro h; rcases h with h | h; exact hne h; exact hh h), hd]
  simp only []
  rw [if_pos hu]
theorem head_at (s : ByteArray) (h : 0 < s.size) : s.data.toList.head? = some s[0] := by
  have hl : 0 < s.data.toList.length := by simpa using h
  rw [List.head?_eq_getElem?, List.getElem?_eq_getElem hl]; rfl
theorem ret_two {a a' : Int} {b b' : Bool} (h1 : a = a') (h2 : b = b') : Ending.returned (.tuple #[.int .i64 a, .bool b]) = .returned (.tuple #[.int .i64 a', .bool b']) := by rw [h1, h2]

set_option maxHeartbeats 400000 in
theorem neg_empty (s : ByteArray) (h : s.toList = []) (w : World) :
    Calls Tryz.prog 114 #[.string s] w fun e w' => e = .returned (.tuple #[.int .i64 0, .bool false]) ∧ w' = w := by
  go_enter Tryz.func114, Tryz.ntmps114
  go_wp2
  go_ret2
  exact ⟨rfl, rfl⟩

set_option maxHeartbeats 400000 in
theorem neg_head (s : ByteArray) (h : 0 < s.size) (h2 : (s[0].toNat : Int) = 48) (w : World) :
    Calls Tryz.prog 114 #[.string s] w fun e w' => e = .returned (.tuple #[.int .i64 0, .bool false]) ∧ w' = w := by
  go_enter Tryz.func114, Tryz.ntmps114
  go_wp2
  all_goals go_ret2
  all_goals exact ⟨rfl, rfl⟩

set_option maxHeartbeats 1000000 in
theorem neg_loop (s : ByteArray) (hs : s.size ≤ maxLen) (h : 0 < s.size) (he : s.toList.isEmpty = false) (h2 : ((s[0].toNat : Int) == 48) = false)
    (hneH : Hid (s.data.toList ≠ [])) (hhH : Hid (s.data.toList.head? ≠ some 48)) (w : World) :
    Calls Tryz.prog 114 #[.string s] w fun e w' => e = .returned (.tuple #[.int .i64 (negN s.data.toList), .bool (negB s.data.toList)]) ∧ w' = w := by
  unfold maxLen at hs
  go_enter Tryz.func114, Tryz.ntmps114
  go_wp2
  go_loop [4, 17] (fun n i => ∃ k u : Nat, k ≤ s.size ∧ i = .int .i64 k ∧ digs (s.data.toList.take k) = some u ∧ u ≤ 9223372036854775808 ∧ n = .int .i64 (-(u : Int))) (fun _ i => s.size - (intOf i).toNat)
  case atStart => exact ⟨0, 0, Nat.zero_le _, rfl, rfl, by omega, rfl⟩
  case round =>
    obtain ⟨k, u, hk, rfl, hd, hu, rfl⟩ := hrel
    have hdh := Lib.hid hd
    clear hd
    go_wp2
    · have hn := neg_of_none (neg_bad s k u (by assumption) hdh.out (by omega))
      go_ret2
      exact ⟨ret_two hn.1.symm hn.2.symm, rfl⟩
    · have hq : -(u : Int) < (-9223372036854775808 + ((s[k].toNat : Int) - 48)).tdiv 10 := by assumption
      rw [show ((s[k].toNat : Int) - 48) = ((s[k].toNat - 48 : Nat) : Int) by omega, room u _ (by omega)] at hq
      have hn := neg_of_none (neg_big s k u (by assumption) hdh.out (by omega) (by omega) hq)
      go_ret2
      exact ⟨ret_two hn.1.symm hn.2.symm, rfl⟩
    · have hq : (-9223372036854775808 + ((s[k].toNat : Int) - 48)).tdiv 10 ≤ -(u : Int) := by assumption
      have hlt : k < s.size := by assumption
      have hq' : ¬ 9223372036854775808 < u * 10 + (s[k].toNat - 48) := by
        rw [← room u _ (by omega), show ((s[k].toNat - 48 : Nat) : Int) = ((s[k].toNat : Int) - 48) by omega]
        omega
      go_round
      case rel =>
        refine ⟨k + 1, u * 10 + (s[k].toNat - 48), by omega, by go_num, digs_next s k u hlt hdh.out (by omega) (by omega), by omega, ?_⟩
        rw [IntWalk.wrap64_in (-(u : Int) * 10) (by omega), IntWalk.wrap64_in _ (by omega)]
        congr 1
        omega
      case measure => simp [intOf]; omega
    · have hn := neg_of_none (neg_bad s k u (by assumption) hdh.out (by omega))
      go_ret2
      exact ⟨ret_two hn.1.symm hn.2.symm, rfl⟩
    · have hks : s.data.toList.take k = s.data.toList := List.take_of_length_le (by simp; omega)
      have hn := neg_of_some (neg_end s u hneH.out hhH.out (by rw [← hks]; exact hdh.out) hu)
      go_ret2
      exact ⟨ret_two hn.1.symm hn.2.symm, rfl⟩

theorem neg_any (s : ByteArray) (hs : s.size ≤ maxLen) (w : World) :
    Calls Tryz.prog 114 #[.string s] w fun e w' => e = .returned (.tuple #[.int .i64 (negN s.data.toList), .bool (negB s.data.toList)]) ∧ w' = w := by
  by_cases h0 : s.data.toList = []
  · have hn := neg_of_none (l := s.data.toList) (by unfold negOf; rw [if_pos (Or.inl h0)])
    rw [hn.1, hn.2]
    exact neg_empty s (by rw [Lib.toList_data]; exact h0) w
  · have hsz : 0 < s.size := by
      rcases Nat.eq_zero_or_pos s.size with hz | hz
      · exact absurd (List.eq_nil_of_length_eq_zero (by simpa using hz)) h0
      · exact hz
    have hh := head_at s hsz
    by_cases h48 : (s[0].toNat : Int) = 48
    · have h48' : s[0] = 48 := UInt8.toNat.inj (by show s[0].toNat = 48; omega)
      have hn := neg_of_none (l := s.data.toList) (by unfold negOf; rw [if_pos (Or.inr (by rw [hh, h48']))])
      rw [hn.1, hn.2]
      exact neg_head s hsz h48 w
    · refine neg_loop s hs hsz ?_ (by simpa using h48) (Lib.hid h0) (Lib.hid ?_) w
      · rw [Lib.toList_data]; simpa using h0
      · rw [hh]
        intro e
        apply h48
        have : s[0] = 48 := by simpa using e
        rw [this]; rfl

end Go.Proofs.YtjidopgohdlfdaaGreatDoor
