/-
  The walks of the five laws of package num: each returns true, whatever its arguments; what was there is as it was. A premise: the library's table of powers of ten holds what its initialiser lays (the row's own list gives it).
-/
import Derived.Test.YtkkfdemlilmapaaDoorWalksF
namespace Go.Proofs.YtkkfdemlilmapaaDoor
open Go.RowKit Dec

set_option maxHeartbeats 2000000 in
theorem adds_walk (a b : Int) (w : World) (a0 : -9223372036854775808 ≤ a) (a1 : a ≤ 9223372036854775807) (b0 : -9223372036854775808 ≤ b) (b1 : b ≤ 9223372036854775807) (hT : Tab w) :
    Calls Tryd.prog 4 #[.int .i64 a, .int .i64 b] w fun e w' => e = .returned (.bool true) ∧ Below w.heap.size w w' := by
  go_enter Tryd.func4, Tryd.ntmps4
  go_wp2_with (first
    | (go_at_call 14; (with_reducible refine (add_any a b _ a0 a1 b0 b1).mono ?_); rintro e w' ⟨rfl, rfl⟩)
    | (go_at_call 15; (with_reducible refine (radd_any a b _ a0 a1 b0 b1).mono ?_); rintro e w' ⟨rfl, rfl⟩)
    | (go_at_call 16; (with_reducible refine (sub_any a b _ a0 a1 b0 b1).mono ?_); rintro e w' ⟨rfl, rfl⟩)
    | (go_at_call 17; (with_reducible refine (rsub_any a b _ a0 a1 b0 b1).mono ?_); rintro e w' ⟨rfl, rfl⟩)
    | (go_at_call 18; (with_reducible refine (clip_any a b _ a0 a1 b0 b1).mono ?_); rintro e w' ⟨rfl, rfl⟩)
    | (go_at_call 19; (with_reducible refine (rclip_any a b _ a0 a1 b0 b1).mono ?_); rintro e w' ⟨rfl, rfl⟩)
    | (go_at_call 8; (with_reducible refine (alive_any _ (by assumption)).mono ?_); rintro e w' ⟨rfl, hB⟩))
  go_ret
  exact ⟨rfl, hB⟩

set_option maxHeartbeats 2000000 in
theorem reads_far (s : ByteArray) (lo hi : Int) (w : World) (hs : s.size ≤ maxLen) (hl : 1000 < s.size) (hT : Tab w) :
    Calls Tryd.prog 5 #[.string s, .int .i64 lo, .int .i64 hi] w fun e w' => e = .returned (.bool true) ∧ Below w.heap.size w w' := by
  unfold maxLen at hs
  go_enter Tryd.func5, Tryd.ntmps5
  go_wp2_with (go_at_call 8; (with_reducible refine (alive_any _ (by assumption)).mono ?_); rintro e w' ⟨rfl, hB⟩)
  go_ret
  exact ⟨rfl, hB⟩
set_option maxHeartbeats 2000000 in
theorem reads_near (s : ByteArray) (lo hi : Int) (w : World) (hs : s.size ≤ maxLen) (hl : s.size ≤ 1000) (hT : Tab w) :
    Calls Tryd.prog 5 #[.string s, .int .i64 lo, .int .i64 hi] w fun e w' => e = .returned (.bool true) ∧ Below w.heap.size w w' := by
  go_enter Tryd.func5, Tryd.ntmps5
  go_wp2_with (first
    | (go_at_call 20; (with_reducible refine (read_any s lo hi _ hs).mono ?_); rintro e w' ⟨rfl, rfl⟩)
    | (go_at_call 21; (with_reducible refine (rread_any s lo hi _ hs).mono ?_); rintro e w1 ⟨rfl, hB⟩; replace hT := hT.on hB)
    | (go_at_call 8; (with_reducible refine (alive_any _ (by assumption)).mono ?_); rintro e w' ⟨rfl, hB2⟩))
  go_ret
  exact ⟨rfl, On.step hB hB2⟩

set_option maxHeartbeats 2000000 in
theorem parses_far (s : ByteArray) (n : Int) (w : World) (hs : s.size ≤ maxLen) (hl : 1000 < s.size) (hT : Tab w) :
    Calls Tryd.prog 3 #[.string s, .int .i64 n] w fun e w' => e = .returned (.bool true) ∧ Below w.heap.size w w' := by
  unfold maxLen at hs
  go_enter Tryd.func3, Tryd.ntmps3
  go_wp2_with (go_at_call 8; (with_reducible refine (alive_any _ (by assumption)).mono ?_); rintro e w' ⟨rfl, hB⟩)
  go_ret
  exact ⟨rfl, hB⟩
set_option maxHeartbeats 2000000 in
theorem parses_near (s : ByteArray) (n : Int) (w : World) (hs : s.size ≤ maxLen) (hl : s.size ≤ 1000) (h0 : -9223372036854775808 ≤ n) (h1 : n ≤ 9223372036854775807) (hT : Tab w) :
    Calls Tryd.prog 3 #[.string s, .int .i64 n] w fun e w' => e = .returned (.bool true) ∧ Below w.heap.size w w' := by
  have hsz := dec_size n h0 h1
  have hOn : On w w := On.refl w
  go_enter Tryd.func3, Tryd.ntmps3
  go_wp2_with (first
    | (go_at_call 9; (with_reducible refine (parse_any s _ hs).mono ?_); rintro e w' ⟨rfl, rfl⟩)
    | (go_at_call 10; (with_reducible refine (rparse_any s _ hs).mono ?_); rintro e w' ⟨rfl, hB⟩; replace hT := hT.on hB; replace hOn := hOn.step hB; clear hB)
    | (go_at_call 11; (with_reducible refine (text_any n _ h0 h1 (Lib.hid hT)).mono ?_); rintro e w' ⟨rfl, hB⟩; replace hT := hT.on hB; replace hOn := hOn.step hB; clear hB)
    | (go_at_call 12; (with_reducible refine (rtext_any n _ h0 h1).mono ?_); rintro e w' ⟨rfl, hB⟩; replace hT := hT.on hB; replace hOn := hOn.step hB; clear hB)
    | (go_at_call 13; (with_reducible refine (len_any n _ h0 h1 hT).mono ?_); rintro e w' ⟨rfl, hB⟩; replace hT := hT.on hB; replace hOn := hOn.step hB; clear hB)
    | (go_at_call 8; (with_reducible refine (alive_any _ hT).mono ?_); rintro e w' ⟨rfl, hB⟩; replace hT := hT.on hB; replace hOn := hOn.step hB; clear hB))
  go_ret
  exact ⟨rfl, hOn⟩

/-! back -/
theorem parse_dec (n : Int) (w : World) (h0 : -9223372036854775808 ≤ n) (h1 : n ≤ 9223372036854775807) :
    Calls Tryd.prog 9 #[.string (dec n)] w fun e w' => e = .returned (.tuple #[.int .i64 n, .bool true]) ∧ w' = w := by
  refine (parse_any (dec n) w (by have := dec_size n h0 h1; unfold maxLen; omega)).mono fun e w' ⟨he, hw⟩ => ⟨?_, hw⟩
  have h := par_some (l := (dec n).data.toList) (n := n) (by rw [dec_data]; exact numOf_itoa n h0 h1)
  rw [he, h.1, h.2]
theorem numOf_zero_ahead (n : Int) : numOf (48 :: Lib.itoa n) = none := by
  cases h : numOf (48 :: Lib.itoa n) with
  | none => rfl
  | some m =>
    obtain ⟨e, _, _⟩ := numOf_some _ _ h
    exfalso
    by_cases hm : m < 0
    · obtain ⟨u, hu1, rfl⟩ : ∃ u : Nat, 1 ≤ u ∧ m = -(u : Int) := ⟨m.natAbs, by omega, by omega⟩
      rw [itoa_neg u hu1] at e
      simp at e
    · obtain ⟨u, rfl⟩ : ∃ u : Nat, m = (u : Int) := ⟨m.toNat, by omega⟩
      rw [itoa_nat] at e
      rcases Nat.eq_zero_or_pos u with hz | hz
      · subst hz
        rw [dec_zero] at e
        have e2 : Lib.itoa n = [] := by simpa using e.symm
        by_cases hn : n < 0
        · obtain ⟨v, hv1, rfl⟩ : ∃ u : Nat, 1 ≤ u ∧ n = -(u : Int) := ⟨n.natAbs, by omega, by omega⟩
          rw [itoa_neg v hv1] at e2
          cases e2
        · obtain ⟨v, rfl⟩ : ∃ u : Nat, n = (u : Int) := ⟨n.toNat, by omega⟩
          rw [itoa_nat] at e2
          exact dec_ne v e2
      · exact dec_head u hz (by rw [e]; rfl)
theorem parse_ahead (n : Int) (w : World) (h0 : -9223372036854775808 ≤ n) (h1 : n ≤ 9223372036854775807) :
    Calls Tryd.prog 9 #[.string (⟨#[48]⟩ ++ dec n)] w fun e w' => e = .returned (.tuple #[.int .i64 0, .bool false]) ∧ w' = w := by
  have hd : (⟨#[48]⟩ ++ dec n : ByteArray).data.toList = 48 :: Lib.itoa n := by rw [append_data, dec_data]; rfl
  have hs : (⟨#[48]⟩ ++ dec n : ByteArray).size ≤ maxLen := by
    have := Lib.itoa_length_le n h0 h1
    have e : (⟨#[48]⟩ ++ dec n : ByteArray).size = (48 :: Lib.itoa n).length := by rw [← hd, Array.length_toList]; rfl
    unfold maxLen
    rw [e, List.length_cons]
    omega
  refine (parse_any _ w hs).mono fun e w' ⟨he, hw⟩ => ⟨?_, hw⟩
  have h := par_none (l := (⟨#[48]⟩ ++ dec n : ByteArray).data.toList) (by rw [hd]; exact numOf_zero_ahead n)
  rw [he, h.1, h.2]

set_option maxHeartbeats 2000000 in
theorem back_far (n : Int) (s : ByteArray) (w : World) (hs : s.size ≤ maxLen) (hl : 1000 < s.size) (hT : Tab w) :
    Calls Tryd.prog 6 #[.int .i64 n, .string s] w fun e w' => e = .returned (.bool true) ∧ Below w.heap.size w w' := by
  unfold maxLen at hs
  go_enter Tryd.func6, Tryd.ntmps6
  go_wp2_with (go_at_call 8; (with_reducible refine (alive_any _ (by assumption)).mono ?_); rintro e w' ⟨rfl, hB⟩)
  go_ret
  exact ⟨rfl, hB⟩
set_option maxHeartbeats 2000000 in
theorem back_none (n : Int) (s : ByteArray) (w : World) (hs : s.size ≤ maxLen) (hl : s.size ≤ 1000) (h0 : -9223372036854775808 ≤ n) (h1 : n ≤ 9223372036854775807)
    (hp : parN s.data.toList = 0) (hq : parB s.data.toList = false) (hT : Tab w) :
    Calls Tryd.prog 6 #[.int .i64 n, .string s] w fun e w' => e = .returned (.bool true) ∧ Below w.heap.size w w' := by
  have hOn : On w w := On.refl w
  go_enter Tryd.func6, Tryd.ntmps6
  go_wp2_with (first
    | (go_at_call 11; (with_reducible refine (text_any n _ h0 h1 (Lib.hid hT)).mono ?_); rintro e w' ⟨rfl, hB⟩; replace hT := hT.on hB; replace hOn := hOn.step hB; clear hB)
    | (go_at_call 9; (with_reducible refine (parse_dec n _ h0 h1).mono ?_); rintro e w' ⟨rfl, rfl⟩)
    | (go_at_call 9; (with_reducible refine (parse_any s _ hs).mono ?_); rintro e w' ⟨rfl, rfl⟩)
    | (go_at_call 8; (with_reducible refine (alive_any _ hT).mono ?_); rintro e w' ⟨rfl, hB⟩; replace hT := hT.on hB; replace hOn := hOn.step hB; clear hB))
  go_ret
  exact ⟨rfl, hOn⟩
set_option maxHeartbeats 2000000 in
theorem back_some (n b : Int) (w : World) (hl : (dec b).size ≤ 1000) (h0 : -9223372036854775808 ≤ n) (h1 : n ≤ 9223372036854775807) (b0 : -9223372036854775808 ≤ b) (b1 : b ≤ 9223372036854775807) (hT : Tab w) :
    Calls Tryd.prog 6 #[.int .i64 n, .string (dec b)] w fun e w' => e = .returned (.bool true) ∧ Below w.heap.size w w' := by
  have hOn : On w w := On.refl w
  go_enter Tryd.func6, Tryd.ntmps6
  go_wp2_with (first
    | (go_at_call 11; (with_reducible refine (text_any n _ h0 h1 (Lib.hid hT)).mono ?_); rintro e w' ⟨rfl, hB⟩; replace hT := hT.on hB; replace hOn := hOn.step hB; clear hB)
    | (go_at_call 11; (with_reducible refine (text_any b _ b0 b1 (Lib.hid hT)).mono ?_); rintro e w' ⟨rfl, hB⟩; replace hT := hT.on hB; replace hOn := hOn.step hB; clear hB)
    | (go_at_call 9; (with_reducible refine (parse_dec n _ h0 h1).mono ?_); rintro e w' ⟨rfl, rfl⟩)
    | (go_at_call 9; (with_reducible refine (parse_dec b _ b0 b1).mono ?_); rintro e w' ⟨rfl, rfl⟩)
    | (go_at_call 9; (with_reducible refine (parse_ahead b _ b0 b1).mono ?_); rintro e w' ⟨rfl, rfl⟩)
    | (go_at_call 13; (with_reducible refine (len_any b _ b0 b1 hT).mono ?_); rintro e w' ⟨rfl, hB⟩; replace hT := hT.on hB; replace hOn := hOn.step hB; clear hB)
    | (go_at_call 8; (with_reducible refine (alive_any _ hT).mono ?_); rintro e w' ⟨rfl, hB⟩; replace hT := hT.on hB; replace hOn := hOn.step hB; clear hB))
  go_ret
  exact ⟨rfl, hOn⟩
theorem back_near (n : Int) (s : ByteArray) (w : World) (hs : s.size ≤ maxLen) (hl : s.size ≤ 1000) (h0 : -9223372036854775808 ≤ n) (h1 : n ≤ 9223372036854775807) (hT : Tab w) :
    Calls Tryd.prog 6 #[.int .i64 n, .string s] w fun e w' => e = .returned (.bool true) ∧ Below w.heap.size w w' := by
  cases h : numOf s.data.toList with
  | none => exact back_none n s w hs hl h0 h1 (par_none h).1 (par_none h).2 hT
  | some b =>
    obtain ⟨e, b0, b1⟩ := numOf_some _ _ h
    have hsb : s = dec b := bytes_eq (by rw [dec_data, e])
    subst hsb
    exact back_some n b w hl h0 h1 b0 b1 hT

/-! undo -/
theorem read_dec (k lo hi : Int) (w : World) (h0 : -9223372036854775808 ≤ k) (h1 : k ≤ 9223372036854775807) (h2 : lo ≤ k) (h3 : k ≤ hi) :
    Calls Tryd.prog 20 #[.string (dec k), .int .i64 lo, .int .i64 hi] w fun e w' => e = .returned (.tuple #[.int .i64 k, .int .i64 0]) ∧ w' = w := by
  refine (read_any (dec k) lo hi w (by have := dec_size k h0 h1; unfold maxLen; omega)).mono fun e w' ⟨he, hw⟩ => ⟨?_, hw⟩
  have h := par_some (l := (dec k).data.toList) (n := k) (by rw [dec_data]; exact numOf_itoa k h0 h1)
  rw [he, h.1, h.2]
  unfold rdN rdE
  rw [if_pos rfl, if_pos rfl, if_neg (by omega), if_neg (by omega)]
theorem clip_k (n size k : Int) (w : World) (a0 : -9223372036854775808 ≤ n) (a1 : n ≤ 9223372036854775807) (b0 : -9223372036854775808 ≤ size) (b1 : size ≤ 9223372036854775807) (hk : Hid (clip n size = k)) :
    Calls Tryd.prog 18 #[.int .i64 n, .int .i64 size] w fun e w' => e = .returned (.int .i64 k) ∧ w' = w := by
  rw [← hk.out]; exact clip_any n size w a0 a1 b0 b1
theorem add_fits (a b c : Int) (w : World) (a0 : -9223372036854775808 ≤ a) (a1 : a ≤ 9223372036854775807) (b0 : -9223372036854775808 ≤ b) (b1 : b ≤ 9223372036854775807) (hc : Hid (a + b = c)) (c0 : -9223372036854775808 ≤ c) (c1 : c ≤ 9223372036854775807) :
    Calls Tryd.prog 14 #[.int .i64 a, .int .i64 b] w fun e w' => e = .returned (.tuple #[.int .i64 c, .bool true]) ∧ w' = w := by
  have h := add_any a b w a0 a1 b0 b1
  rw [hc.out, held_yes c0 c1, fits_yes c0 c1] at h
  exact h
theorem add_over (a b : Int) (w : World) (a0 : -9223372036854775808 ≤ a) (a1 : a ≤ 9223372036854775807) (b0 : -9223372036854775808 ≤ b) (b1 : b ≤ 9223372036854775807) (hc : Hid (a + b < -9223372036854775808 ∨ 9223372036854775807 < a + b)) :
    Calls Tryd.prog 14 #[.int .i64 a, .int .i64 b] w fun e w' => e = .returned (.tuple #[.int .i64 0, .bool false]) ∧ w' = w := by
  have h := add_any a b w a0 a1 b0 b1
  rw [held_no hc.out, fits_no hc.out] at h
  exact h
theorem sub_fits (c b a : Int) (w : World) (a0 : -9223372036854775808 ≤ c) (a1 : c ≤ 9223372036854775807) (b0 : -9223372036854775808 ≤ b) (b1 : b ≤ 9223372036854775807) (hc : Hid (c - b = a)) (c0 : -9223372036854775808 ≤ a) (c1 : a ≤ 9223372036854775807) :
    Calls Tryd.prog 16 #[.int .i64 c, .int .i64 b] w fun e w' => e = .returned (.tuple #[.int .i64 a, .bool true]) ∧ w' = w := by
  have h := sub_any c b w a0 a1 b0 b1
  rw [hc.out, held_yes c0 c1, fits_yes c0 c1] at h
  exact h

set_option maxHeartbeats 2000000 in
theorem undo_fits (a b size c k : Int) (w : World) (a0 : -9223372036854775808 ≤ a) (a1 : a ≤ 9223372036854775807) (b0 : -9223372036854775808 ≤ b) (b1 : b ≤ 9223372036854775807) (s0 : -9223372036854775808 ≤ size) (s1 : size ≤ 9223372036854775807)
    (hc : Hid (a + b = c)) (hca : Hid (c - b = a)) (hcb : Hid (c - a = b)) (c0 : -9223372036854775808 ≤ c) (c1 : c ≤ 9223372036854775807) (hk : Hid (clip a size = k)) (k0 : 0 ≤ k) (k1 : k ≤ max 0 size) (k2 : k ≤ 9223372036854775807) (hT : Tab w) :
    Calls Tryd.prog 7 #[.int .i64 a, .int .i64 b, .int .i64 size] w fun e w' => e = .returned (.bool true) ∧ Below w.heap.size w w' := by
  have hOn : On w w := On.refl w
  go_enter Tryd.func7, Tryd.ntmps7
  go_wp2_with (first
    | (go_at_call 14; (with_reducible refine (add_fits a b c _ a0 a1 b0 b1 hc c0 c1).mono ?_); rintro e w' ⟨rfl, rfl⟩)
    | (go_at_call 16; (with_reducible refine (sub_fits c b a _ c0 c1 b0 b1 hca a0 a1).mono ?_); rintro e w' ⟨rfl, rfl⟩)
    | (go_at_call 16; (with_reducible refine (sub_fits c a b _ c0 c1 a0 a1 hcb b0 b1).mono ?_); rintro e w' ⟨rfl, rfl⟩)
    | (go_at_call 18; (with_reducible refine (clip_k a size k _ a0 a1 s0 s1 hk).mono ?_); rintro e w' ⟨rfl, rfl⟩)
    | (go_at_call 11; (with_reducible refine (text_any k _ (by omega) k2 (Lib.hid hT)).mono ?_); rintro e w' ⟨rfl, hB⟩; replace hT := hT.on hB; replace hOn := hOn.step hB; clear hB)
    | (go_at_call 20; (with_reducible refine (read_dec k 0 _ _ (by omega) k2 k0 k1).mono ?_); rintro e w' ⟨rfl, rfl⟩)
    | (go_at_call 8; (with_reducible refine (alive_any _ hT).mono ?_); rintro e w' ⟨rfl, hB⟩; replace hT := hT.on hB; replace hOn := hOn.step hB; clear hB))
  go_ret
  exact ⟨rfl, hOn⟩
set_option maxHeartbeats 2000000 in
theorem undo_over (a b size k : Int) (w : World) (a0 : -9223372036854775808 ≤ a) (a1 : a ≤ 9223372036854775807) (b0 : -9223372036854775808 ≤ b) (b1 : b ≤ 9223372036854775807) (s0 : -9223372036854775808 ≤ size) (s1 : size ≤ 9223372036854775807)
    (hc : Hid (a + b < -9223372036854775808 ∨ 9223372036854775807 < a + b)) (hab : (!decide (a < 0) == decide (b < 0)) = false) (hk : Hid (clip a size = k)) (k0 : 0 ≤ k) (k1 : k ≤ max 0 size) (k2 : k ≤ 9223372036854775807) (hT : Tab w) :
    Calls Tryd.prog 7 #[.int .i64 a, .int .i64 b, .int .i64 size] w fun e w' => e = .returned (.bool true) ∧ Below w.heap.size w w' := by
  have hOn : On w w := On.refl w
  all_goals
    go_enter Tryd.func7, Tryd.ntmps7
    go_wp2_with (first
      | (go_at_call 14; (with_reducible refine (add_over a b _ a0 a1 b0 b1 hc).mono ?_); rintro e w' ⟨rfl, rfl⟩)
      | (go_at_call 18; (with_reducible refine (clip_k a size k _ a0 a1 s0 s1 hk).mono ?_); rintro e w' ⟨rfl, rfl⟩)
      | (go_at_call 11; (with_reducible refine (text_any k _ (by omega) k2 (Lib.hid hT)).mono ?_); rintro e w' ⟨rfl, hB⟩; replace hT := hT.on hB; replace hOn := hOn.step hB; clear hB)
      | (go_at_call 20; (with_reducible refine (read_dec k 0 _ _ (by omega) k2 k0 k1).mono ?_); rintro e w' ⟨rfl, rfl⟩)
      | (go_at_call 8; (with_reducible refine (alive_any _ hT).mono ?_); rintro e w' ⟨rfl, hB⟩; replace hT := hT.on hB; replace hOn := hOn.step hB; clear hB))
    go_ret
    exact ⟨rfl, hOn⟩
theorem same_side {a b : Int} (hf : ¬ (-9223372036854775808 ≤ a + b ∧ a + b ≤ 9223372036854775807)) (a0 : -9223372036854775808 ≤ a) (a1 : a ≤ 9223372036854775807) (b0 : -9223372036854775808 ≤ b) (b1 : b ≤ 9223372036854775807) : (!decide (a < 0) == decide (b < 0)) = false := by
  by_cases ha : a < 0
  · rw [decide_eq_true ha, decide_eq_true (show b < 0 by omega)]; rfl
  · rw [decide_eq_false ha, decide_eq_false (show ¬ b < 0 by omega)]; rfl
theorem undo_walk (a b size : Int) (w : World) (a0 : -9223372036854775808 ≤ a) (a1 : a ≤ 9223372036854775807) (b0 : -9223372036854775808 ≤ b) (b1 : b ≤ 9223372036854775807) (s0 : -9223372036854775808 ≤ size) (s1 : size ≤ 9223372036854775807) (hT : Tab w) :
    Calls Tryd.prog 7 #[.int .i64 a, .int .i64 b, .int .i64 size] w fun e w' => e = .returned (.bool true) ∧ Below w.heap.size w w' := by
  have hcl := clip_in a size
  by_cases hf : -9223372036854775808 ≤ a + b ∧ a + b ≤ 9223372036854775807
  · exact undo_fits a b size (a + b) (clip a size) w a0 a1 b0 b1 s0 s1 (Lib.hid rfl) (Lib.hid (by omega)) (Lib.hid (by omega)) hf.1 hf.2 (Lib.hid rfl) hcl.1 (by omega) (by omega) hT
  · exact undo_over a b size (clip a size) w a0 a1 b0 b1 s0 s1 (Lib.hid (by omega)) (same_side hf a0 a1 b0 b1) (Lib.hid rfl) hcl.1 (by omega) (by omega) hT

end Go.Proofs.YtkkfdemlilmapaaDoor
