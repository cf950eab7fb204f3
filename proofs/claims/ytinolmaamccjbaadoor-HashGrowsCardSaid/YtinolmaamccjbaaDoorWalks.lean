/-
  The walks of package hash's sizes, places, numbers read from their other end, and of the reference's. No condition but the bounds that Go's own numbers have.
-/
import Derived.Test.YtinolmaamccjbaaDoorChecked
import Derived.Test.YtinolmaamccjbaaDoorMath
import Derived.WalkKit
import Derived.WalkSpells
import Derived.WalkLawsBesides
import Derived.Deep.QuietTactic
import Derived.BigQuiet
import Derived.Lib.Hide
import Derived.Outline
namespace Go.Proofs.YtinolmaamccjbaaDoor
open Go.RowKit

theorem mod_wrap (n P : Nat) (hp : 0 < P) (hP : P ≤ 65536) : wrap64 ((n : Int) % (P : Int)) = ((n % P : Nat) : Int) := by
  have := Nat.mod_lt n hp
  rw [← Int.natCast_emod]
  exact IntWalk.wrap64_in _ (by omega)
theorem wrap_two (k : Nat) (h : k ≤ 16) : IntKind.u64.wrap ((2 : Int) ^ k) = ((pw k : Nat) : Int) := by
  have := pw_le h
  rw [show ((2 : Int) ^ k) = ((pw k : Nat) : Int) by unfold pw; simp]
  exact IntWalk.u64_in _ (by omega)
theorem quo_wrap (c P : Nat) (hc : c < 18446744073709551616) : IntKind.u64.wrap ((c : Int) / (P : Int)) = ((c / P : Nat) : Int) := by
  have := Nat.div_le_self c P
  rw [← Int.natCast_ediv]
  generalize c / P = q at *
  exact IntWalk.u64_in _ (by omega)
theorem ret_int {k : IntKind} {a b : Int} (h : a = b) : Ending.returned (.int k a) = .returned (.int k b) := by rw [h]

set_option maxHeartbeats 400000 in
theorem size_any (b : Int) (w : World) : Calls Tryd.prog 19 #[.int .i64 b] w fun e w' => e = .returned (.int .i64 (szN b : Nat)) ∧ w = w' := by
  go_enter Tryd.func19, Tryd.ntmps19
  go_wp2
  all_goals go_ret
  all_goals exact ⟨ret_int (by have := szN_int b; omega), rfl⟩

set_option maxHeartbeats 400000 in
theorem rsize_any (b : Int) (w : World) : Calls Tryd.prog 20 #[.int .i64 b] w fun e w' => e = .returned (.int .i64 (szN b : Nat)) ∧ w = w' := by
  go_enter Tryd.func20, Tryd.ntmps20
  go_wp2
  all_goals go_ret
  all_goals exact ⟨ret_int (by have := szN_int b; omega), rfl⟩

set_option maxHeartbeats 400000 in
theorem rplaces_any (b : Int) (w : World) : Calls Tryd.prog 16 #[.int .i64 b] w fun e w' => e = .returned (.int .u64 ((pw (szN b) : Nat) : Int)) ∧ w = w' := by
  have hk := szN_le b
  generalize hz : szN b = K at hk
  go_enter Tryd.func16, Tryd.ntmps16
  have hc : ∀ w, Calls Tryd.prog 20 #[.int .i64 b] w fun e w' => e = .returned (.int .i64 (K : Nat)) ∧ w = w' := fun w => by rw [← hz]; exact rsize_any b w
  clear hz
  go_wp2
  go_loop [3, 4] (fun n i => ∃ k : Nat, k ≤ K ∧ i = .int .i64 k ∧ n = .int .u64 ((pw k : Nat) : Int)) (fun _ i => K - (intOf i).toNat)
  case atStart => exact ⟨0, Nat.zero_le _, rfl, rfl⟩
  case round =>
    obtain ⟨k, hkK, rfl, rfl⟩ := hrel
    have hp := pw_le (k := k) (by omega)
    by_cases hlt : k < K
    · go_wp2_with (go_at_call 20; refine (hc _).mono ?_; rintro e w' ⟨rfl, rfl⟩)
      go_round
      case rel => exact ⟨k + 1, by omega, by go_num, by have := pw_succ k; congr 1; first | done | omega⟩
      case measure => simp [intOf]; omega
    · go_wp2_with (go_at_call 20; refine (hc _).mono ?_; rintro e w' ⟨rfl, rfl⟩)
      go_ret
      exact ⟨ret_int (by rw [show k = K by omega]), rfl⟩

set_option maxHeartbeats 400000 in
theorem turn_any (n : Nat) (b : Int) (hn : n < 18446744073709551616) (w : World) : Calls Tryd.prog 12 #[.int .u64 n, .int .i64 b] w fun e w' => e = .returned (.int .u64 ((rev (szN b) n : Nat) : Int)) ∧ w = w' := by
  have hk := szN_le b
  generalize hz : szN b = K at hk
  go_enter Tryd.func12, Tryd.ntmps12
  have hc : ∀ w, Calls Tryd.prog 19 #[.int .i64 b] w fun e w' => e = .returned (.int .i64 (K : Nat)) ∧ w = w' := fun w => by rw [← hz]; exact size_any b w
  clear hz
  go_wp2_with (go_at_call 19; refine (hc _).mono ?_; rintro e w' ⟨rfl, rfl⟩)
  go_loop [0, 5, 8] (fun m t i => ∃ k : Nat, k ≤ K ∧ i = .int .i64 k ∧ m = .int .u64 ((hi n k : Nat) : Int) ∧ t = .int .u64 ((rev k n : Nat) : Int)) (fun _ _ i => K - (intOf i).toNat)
  case atStart => exact ⟨0, Nat.zero_le _, rfl, by rw [hi_zero], rfl⟩
  case round =>
    obtain ⟨k, hkK, rfl, rfl, rfl⟩ := hrel
    have hp := pw_le (k := k) (by omega)
    have hr := rev_pw k n
    have hd := hi_le n k
    by_cases hlt : k < K
    · go_wp2
      go_round
      case rel =>
        refine ⟨k + 1, by omega, by go_num, ?_, ?_⟩
        · congr 1; have := hi_succ n k; omega
        · congr 1
          have h1 := bits_and_u64_nat (hi n k) 1 (by omega) (by omega)
          rw [Nat.and_one_is_mod] at h1
          have h2 := bits_or_u64_nat (2 * rev k n) (hi n k % 2) (by omega) (by omega)
          rw [or_bit _ _ (by omega)] at h2
          rw [show ((1 : Nat) : Int) = (1 : Int) from rfl] at h1
          rw [h1, show (((rev k n : Nat) : Int) * 2) = ((2 * rev k n : Nat) : Int) by omega, h2, rev_succ]
      case measure => simp [intOf]; omega
    · go_wp2
      go_ret
      exact ⟨ret_int (by rw [show k = K by omega]), rfl⟩

set_option maxHeartbeats 400000 in
theorem rturn_any (n : Nat) (b : Int) (hn : n < 18446744073709551616) (w : World) : Calls Tryd.prog 13 #[.int .u64 n, .int .i64 b] w fun e w' => e = .returned (.int .u64 ((rev (szN b) n : Nat) : Int)) ∧ w = w' := by
  have hk := szN_le b
  generalize hz : szN b = K at hk
  go_enter Tryd.func13, Tryd.ntmps13
  have hc : ∀ w, Calls Tryd.prog 20 #[.int .i64 b] w fun e w' => e = .returned (.int .i64 (K : Nat)) ∧ w = w' := fun w => by rw [← hz]; exact rsize_any b w
  clear hz
  go_wp2
  go_loop [0, 5, 6] (fun m t i => ∃ k : Nat, k ≤ K ∧ i = .int .i64 k ∧ m = .int .u64 ((hi n k : Nat) : Int) ∧ t = .int .u64 ((rev k n : Nat) : Int)) (fun _ _ i => K - (intOf i).toNat)
  case atStart => exact ⟨0, Nat.zero_le _, rfl, by rw [hi_zero], rfl⟩
  case round =>
    obtain ⟨k, hkK, rfl, rfl, rfl⟩ := hrel
    have hp := pw_le (k := k) (by omega)
    have hr := rev_pw k n
    have hd := hi_le n k
    by_cases hlt : k < K
    · go_wp2_with (go_at_call 20; refine (hc _).mono ?_; rintro e w' ⟨rfl, rfl⟩)
      go_round
      case rel =>
        refine ⟨k + 1, by omega, by go_num, ?_, ?_⟩
        · congr 1; have := hi_succ n k; omega
        · congr 1; have := rev_succ n k; omega
      case measure => simp [intOf]; omega
    · go_wp2_with (go_at_call 20; refine (hc _).mono ?_; rintro e w' ⟨rfl, rfl⟩)
      go_ret
      exact ⟨ret_int (by rw [show k = K by omega]), rfl⟩

theorem rev_small (b : Int) (n : Nat) : rev (szN b) n < 65536 := by have := rev_pw (szN b) n; have := pw_le (szN_le b); omega

set_option maxHeartbeats 400000 in
theorem next_any (n : Nat) (b : Int) (hn : n < 18446744073709551616) (w : World) : Calls Tryd.prog 14 #[.int .u64 n, .int .i64 b] w fun e w' => e = .returned (.int .u64 ((nxt (szN b) n : Nat) : Int)) ∧ w = w' := by
  have hr := rev_small b n
  have h1 := fun w => turn_any n b hn w
  have h2 : ∀ w, Calls Tryd.prog 12 #[.int .u64 (((rev (szN b) n : Nat) : Int) + 1), .int .i64 b] w fun e w' => e = .returned (.int .u64 ((rev (szN b) (rev (szN b) n + 1) : Nat) : Int)) ∧ w = w' := fun w => turn_any (rev (szN b) n + 1) b (by omega) w
  have he : rev (szN b) (rev (szN b) n + 1) = nxt (szN b) n := rfl
  rw [he] at h2
  clear he
  generalize nxt (szN b) n = M at *
  generalize rev (szN b) n = R at *
  go_enter Tryd.func14, Tryd.ntmps14
  go_wp2_with (first | (go_at_call 12; ((with_reducible refine (h1 _).mono ?_); rintro e w' ⟨rfl, rfl⟩)) | (go_at_call 12; ((with_reducible refine (h2 _).mono ?_); rintro e w' ⟨rfl, rfl⟩)))
  all_goals go_ret
  all_goals exact ⟨rfl, rfl⟩

set_option maxHeartbeats 400000 in
theorem place_any (n : Nat) (b : Int) (hn : n < 18446744073709551616) (w : World) : Calls Tryd.prog 10 #[.int .u64 n, .int .i64 b] w fun e w' => e = .returned (.int .i64 ((n % pw (szN b) : Nat) : Int)) ∧ w = w' := by
  have hk := szN_le b
  generalize hz : szN b = K at hk
  have hc : ∀ w, Calls Tryd.prog 19 #[.int .i64 b] w fun e w' => e = .returned (.int .i64 (K : Nat)) ∧ w = w' := fun w => by rw [← hz]; exact size_any b w
  clear hz
  have he := wrap_two K hk
  have hp := pw_pos K
  have hpl := pw_le hk
  generalize pw K = P at *
  go_enter Tryd.func10, Tryd.ntmps10
  go_wp2_with (go_at_call 19; ((with_reducible refine (hc _).mono ?_); rintro e w' ⟨rfl, rfl⟩))
  all_goals go_ret
  all_goals exact ⟨ret_int (mod_wrap n P hp hpl), rfl⟩

set_option maxHeartbeats 400000 in
theorem rplace_any (n : Nat) (b : Int) (hn : n < 18446744073709551616) (w : World) : Calls Tryd.prog 11 #[.int .u64 n, .int .i64 b] w fun e w' => e = .returned (.int .i64 ((n % pw (szN b) : Nat) : Int)) ∧ w = w' := by
  have hk := pw_le (szN_le b)
  have hp := pw_pos (szN b)
  have hc : ∀ w, Calls Tryd.prog 16 #[.int .i64 b] w fun e w' => e = .returned (.int .u64 ((pw (szN b) : Nat) : Int)) ∧ w = w' := fun w => rplaces_any b w
  generalize pw (szN b) = P at *
  go_enter Tryd.func11, Tryd.ntmps11
  go_wp2_with (go_at_call 16; ((with_reducible refine (hc _).mono ?_); rintro e w' ⟨rfl, rfl⟩))
  all_goals go_ret
  all_goals exact ⟨ret_int (mod_wrap n P hp hk), rfl⟩

set_option maxHeartbeats 400000 in
theorem rnext_any (n : Nat) (b : Int) (hn : n < 18446744073709551616) (w : World) : Calls Tryd.prog 15 #[.int .u64 n, .int .i64 b] w fun e w' => e = .returned (.int .u64 ((nxt (szN b) n : Nat) : Int)) ∧ w = w' := by
  have hk := szN_le b
  have hm := nxt_mod (szN b) n
  have hc : ∀ w, Calls Tryd.prog 16 #[.int .i64 b] w fun e w' => e = .returned (.int .u64 ((pw (szN b) : Nat) : Int)) ∧ w = w' := fun w => rplaces_any b w
  have hx : n % pw (szN b) < pw (szN b) := Nat.mod_lt _ (pw_pos _)
  have hX : Hid (nxt (szN b) (n % pw (szN b)) = nxt (szN b) n) := Lib.hid (nxt_mod (szN b) n)
  clear hm
  generalize szN b = K at *
  have hp := pw_pos K
  have hpl := pw_le hk
  generalize nxt K n = N at *
  go_enter Tryd.func15, Tryd.ntmps15
  go_wp2_with (go_at_call 16; ((with_reducible refine (hc _).mono ?_); rintro e w' ⟨rfl, rfl⟩))
  go_loop [5, 6] (fun x y => ∃ k c : Nat, k ≤ K ∧ c < pw k ∧ x = .int .u64 (c : Int) ∧ y = .int .u64 ((bt k : Nat) : Int) ∧ Hid (nxt k c = N)) (fun _ y => (intOf y).toNat)
  case atStart => exact ⟨K, n % pw K, Nat.le_refl _, hx, rfl, rfl, hX⟩
  case round =>
    obtain ⟨k, c, hkK, hck, rfl, rfl, hN⟩ := hrel
    rcases k with _ | k
    · have hz : c = 0 := by have := pw_zero; omega
      have hN0 : Hid (0 = N) := Lib.hid (by have := hN.out; rw [nxt_zero] at this; exact this)
      subst hz
      have hb : ((bt 0 : Nat) : Int) = 0 := rfl
      rw [hb]
      clear hb
      go_wp2
      all_goals go_ret
      all_goals exact ⟨ret_int (by have := hN0.out; omega), rfl⟩
    · have hb := bt_succ k
      have hh := bt_half k
      rw [hb] at hh ⊢
      clear hb
      have hpk := pw_pos k
      have hpl2 := pw_le (k := k) (by omega)
      have hck2 := hck
      rw [pw_succ] at hck2
      have hw := quo_wrap c (pw k) (by omega)
      have hq : c / pw k % 2 = top c k := rfl
      generalize c / pw k = Q at hw hq
      by_cases ht : top c k = 1
      · obtain ⟨h1, h2, h3⟩ := nxtw_one k c hck ht
        have hN1 : Hid (nxt k (c - pw k) = N) := Lib.hid (by rw [← h3]; exact hN.out)
        clear h3 hN
        have hd : (((Q : Nat) : Int) % 2 == 1) = true := by rw [beq_iff_eq]; omega
        have hhH := Lib.hid hh
        have hP := Lib.hid (Eq.refl (pw k))
        clear hh ht hq
        generalize hPe : pw k = P at hw h1 h2 hN1 hhH hP hpk hpl2 hck2
        have hPH := Lib.hid hPe
        clear hPe hP
        go_wp2
        go_round
        case rel => exact ⟨k, c - P, by omega, by rw [hPH.out]; exact h2, by congr 1; omega, by rw [← hhH.out]; rfl, hN1⟩
        case measure => simp [intOf]; omega
      · have h3 := nxtw_none k c hck ht
        have hN1 : Hid (c + pw k = N) := Lib.hid (by rw [← h3]; exact hN.out)
        have ht0 : top c k = 0 := by unfold top at *; omega
        have hd : (((Q : Nat) : Int) % 2 == 1) = false := by rw [beq_eq_false_iff_ne]; omega
        clear h3 hN hh ht ht0 hq
        generalize pw k = P at hw hN1 hpk hpl2 hck2
        go_wp2
        all_goals go_ret
        all_goals exact ⟨ret_int (by have := hN1.out; omega), rfl⟩

end Go.Proofs.YtinolmaamccjbaaDoor
