/-
  The walks of the reading between bounds, of a decimal's length, and of the laws' own small look. A premise: the library's table of powers of ten holds what its initialiser lays.
-/
import Derived.Test.YtkkfdemlilmapaaDoorWalksE
namespace Go.Proofs.YtkkfdemlilmapaaDoor
open Go.RowKit Dec

/-- The world of a call in between: what was there is as it was. -/
def On (w w' : World) : Prop := Below w.heap.size w w'
theorem On.refl (w : World) : On w w := Below.refl _ _
theorem On.step {w w1 w2 : World} (h : On w w1) (k : Below w1.heap.size w1 w2) : On w w2 := Below.trans h (k.mono (Below.size h))

theorem dec_size (n : Int) (h0 : -9223372036854775808 ≤ n) (h1 : n ≤ 9223372036854775807) : (dec n).size ≤ 21 := by
  have := Lib.itoa_length_le n h0 h1
  rw [← dec_data] at this
  simpa using this
set_option maxHeartbeats 1000000 in
theorem len_any (n : Int) (w : World) (h0 : -9223372036854775808 ≤ n) (h1 : n ≤ 9223372036854775807) (ht : Tab w) :
    Calls Tryd.prog 13 #[.int .i64 n] w fun e w' => e = .returned (.int .i64 ((dec n).size : Int)) ∧ Below w.heap.size w w' := by
  have hsz := dec_size n h0 h1
  go_enter Tryd.func13, Tryd.ntmps13
  go_wp2_with (go_at_call 11; refine (text_any _ _ h0 h1 (Lib.hid ht)).mono ?_; rintro e w' ⟨rfl, hb⟩)
  go_ret
  exact ⟨rfl, hb⟩

/-- What a reading between bounds answers. -/
def rdN (n : Int) (b : Bool) (lo hi : Int) : Int := if b then (if n < lo ∨ hi < n then 0 else n) else 0
def rdE (n : Int) (b : Bool) (lo hi : Int) : Int := if b then (if n < lo ∨ hi < n then 3 else 0) else 2

set_option maxHeartbeats 1000000 in
theorem read_any (s : ByteArray) (lo hi : Int) (w : World) (hs : s.size ≤ maxLen) :
    Calls Tryd.prog 20 #[.string s, .int .i64 lo, .int .i64 hi] w fun e w' =>
      e = .returned (.tuple #[.int .i64 (rdN (parN s.data.toList) (parB s.data.toList) lo hi), .int .i64 (rdE (parN s.data.toList) (parB s.data.toList) lo hi)]) ∧ w' = w := by
  unfold rdN rdE
  cases hb : parB s.data.toList with
  | false =>
    go_enter Tryd.func20, Tryd.ntmps20
    go_wp2_with (go_at_call 9; refine (parse_any s _ hs).mono ?_; rintro e w' ⟨rfl, rfl⟩)
    go_ret2
    exact ⟨rfl, rfl⟩
  | true =>
    by_cases hr : parN s.data.toList < lo ∨ hi < parN s.data.toList
    · rw [if_pos rfl, if_pos rfl, if_pos hr, if_pos hr]
      go_enter Tryd.func20, Tryd.ntmps20
      go_wp2_with (go_at_call 9; refine (parse_any s _ hs).mono ?_; rintro e w' ⟨rfl, rfl⟩)
      all_goals (go_ret2; exact ⟨rfl, rfl⟩)
    · rw [if_pos rfl, if_pos rfl, if_neg hr, if_neg hr]
      go_enter Tryd.func20, Tryd.ntmps20
      go_wp2_with (go_at_call 9; refine (parse_any s _ hs).mono ?_; rintro e w' ⟨rfl, rfl⟩)
      all_goals (go_ret2; exact ⟨rfl, rfl⟩)
set_option maxHeartbeats 1000000 in
theorem rread_any (s : ByteArray) (lo hi : Int) (w : World) (hs : s.size ≤ maxLen) :
    Calls Tryd.prog 21 #[.string s, .int .i64 lo, .int .i64 hi] w fun e w' =>
      e = .returned (.tuple #[.int .i64 (rdN (parN s.data.toList) (parB s.data.toList) lo hi), .int .i64 (rdE (parN s.data.toList) (parB s.data.toList) lo hi)]) ∧ Below w.heap.size w w' := by
  unfold rdN rdE
  cases hb : parB s.data.toList with
  | false =>
    go_enter Tryd.func21, Tryd.ntmps21
    go_wp2_with (go_at_call 10; refine (rparse_any s _ hs).mono ?_; rintro e w' ⟨rfl, hB⟩)
    go_ret2
    exact ⟨rfl, hB⟩
  | true =>
    by_cases hr : parN s.data.toList < lo ∨ hi < parN s.data.toList
    · rw [if_pos rfl, if_pos rfl, if_pos hr, if_pos hr]
      go_enter Tryd.func21, Tryd.ntmps21
      go_wp2_with (go_at_call 10; refine (rparse_any s _ hs).mono ?_; rintro e w' ⟨rfl, hB⟩)
      all_goals (go_ret2; exact ⟨rfl, hB⟩)
    · rw [if_pos rfl, if_pos rfl, if_neg hr, if_neg hr]
      go_enter Tryd.func21, Tryd.ntmps21
      go_wp2_with (go_at_call 10; refine (rparse_any s _ hs).mono ?_; rintro e w' ⟨rfl, hB⟩)
      all_goals (go_ret2; exact ⟨rfl, hB⟩)

theorem lit_size (l : List UInt8) (h : l.length ≤ 100) : (⟨l.toArray⟩ : ByteArray).size ≤ maxLen := by
  have e : (⟨l.toArray⟩ : ByteArray).size = l.length := by show l.toArray.size = _; simp
  unfold maxLen; omega
theorem parse_12 (w : World) : Calls Tryd.prog 9 #[.string ⟨#[45, 49, 50]⟩] w fun e w' => e = .returned (.tuple #[.int .i64 (-12), .bool true]) ∧ w' = w := by
  refine (parse_any ⟨#[45, 49, 50]⟩ w (lit_size [45, 49, 50] (by decide))).mono fun e w' ⟨he, hw⟩ => ⟨?_, hw⟩
  rw [he]
  have h := par_some (l := (⟨#[45, 49, 50]⟩ : ByteArray).data.toList) (n := -12) (by decide +kernel)
  rw [h.1, h.2]
theorem parse_m0 (w : World) : Calls Tryd.prog 9 #[.string ⟨#[45, 48]⟩] w fun e w' => e = .returned (.tuple #[.int .i64 0, .bool false]) ∧ w' = w := by
  refine (parse_any ⟨#[45, 48]⟩ w (lit_size [45, 48] (by decide))).mono fun e w' ⟨he, hw⟩ => ⟨?_, hw⟩
  rw [he]
  have h := par_none (l := (⟨#[45, 48]⟩ : ByteArray).data.toList) (by decide +kernel)
  rw [h.1, h.2]
theorem dec_min : dec (-9223372036854775808) = ⟨#[45, 57, 50, 50, 51, 51, 55, 50, 48, 51, 54, 56, 53, 52, 55, 55, 53, 56, 48, 56]⟩ := by
  apply bytes_eq
  rw [dec_data]
  have h : numOf [45, 57, 50, 50, 51, 51, 55, 50, 48, 51, 54, 56, 53, 52, 55, 55, 53, 56, 48, 56] = some (-9223372036854775808) := by decide +kernel
  exact (numOf_some _ _ h).1
theorem text_min (w : World) (ht : Tab w) :
    Calls Tryd.prog 11 #[.int .i64 (-9223372036854775808)] w fun e w' => e = .returned (.string ⟨#[45, 57, 50, 50, 51, 51, 55, 50, 48, 51, 54, 56, 53, 52, 55, 55, 53, 56, 48, 56]⟩) ∧ Below w.heap.size w w' := by
  have h := text_any (-9223372036854775808) w (by omega) (by omega) (Lib.hid ht)
  rw [dec_min] at h
  exact h
theorem clip_3 (w : World) : Calls Tryd.prog 18 #[.int .i64 (-2), .int .i64 5] w fun e w' => e = .returned (.int .i64 3) ∧ w' = w := clip_any (-2) 5 w (by omega) (by omega) (by omega) (by omega)

set_option maxHeartbeats 1000000 in
theorem alive_any (w : World) (hT : Tab w) : Calls Tryd.prog 8 #[] w fun e w' => e = .returned (.bool true) ∧ Below w.heap.size w w' := by
  go_enter Tryd.func8, Tryd.ntmps8
  go_wp2_with (first
    | (go_at_call 9; (with_reducible refine (parse_12 _).mono ?_); rintro e w' ⟨rfl, rfl⟩)
    | (go_at_call 9; (with_reducible refine (parse_m0 _).mono ?_); rintro e w' ⟨rfl, rfl⟩)
    | (go_at_call 11; (with_reducible refine (text_min _ (by assumption)).mono ?_); rintro e w' ⟨rfl, hB⟩)
    | (go_at_call 18; (with_reducible refine (clip_3 _).mono ?_); rintro e w' ⟨rfl, rfl⟩))
  go_ret
  exact ⟨rfl, hB⟩

end Go.Proofs.YtkkfdemlilmapaaDoor
