/-
  The walks of the document's own hash, as at stage 6. No condition but the bounds that Go's own numbers have.
-/
import Derived.Test.YtdldgiicblmknaaDoorHA
import Derived.Test.YtdldgiicblmknaaDoorSB
namespace Go.Proofs.YtdldgiicblmknaaDoor
open Go.RowKit

/-- One is added at the highest bit, what passes goes down. -/
theorem top_one {k c : Nat} (hb : c / 2 ^ k % 2 = 1) : 2 ^ k ≤ c := by
  by_cases h : 2 ^ k ≤ c
  · exact h
  · rw [Nat.div_eq_of_lt (by omega)] at hb; omega
theorem nxt_one (k c : Nat) (hc : c < 2 ^ (k + 1)) (hb : c / 2 ^ k % 2 = 1) : nxt (k + 1) c = nxt k (c - 2 ^ k) := by
  have hle := top_one hb
  have e : c - 2 ^ k = c % 2 ^ k := by
    rw [Nat.pow_succ] at hc
    rw [Nat.mod_eq_sub_mod hle, Nat.mod_eq_of_lt (by omega)]
  rw [e, nxt_mod]
  unfold nxt
  rw [rev_low, rev, hb, show (2 * rev k c + 1 + 1) % 2 = 0 by omega, show (2 * rev k c + 1 + 1) / 2 = rev k c + 1 by omega]
  omega
theorem nxt_none (k c : Nat) (hc : c < 2 ^ (k + 1)) (hb : c / 2 ^ k % 2 ≠ 1) : nxt (k + 1) c = c + 2 ^ k := by
  have hlt : c < 2 ^ k := by
    rw [Nat.pow_succ] at hc
    by_cases h : 2 ^ k ≤ c
    · have h1 : 1 ≤ c / 2 ^ k := (Nat.le_div_iff_mul_le (Nat.pos_of_ne_zero (by simp))).2 (by omega)
      have h2 : c / 2 ^ k < 2 := Nat.div_lt_of_lt_mul (by omega)
      omega
    · omega
  unfold nxt
  rw [rev_low, rev, show c / 2 ^ k % 2 = 0 by omega, show (2 * rev k c + 0 + 1) % 2 = 1 by omega, show (2 * rev k c + 0 + 1) / 2 = rev k c by omega, rev_rev, Nat.mod_eq_of_lt hlt]
  omega
theorem nxt_end (c : Nat) : nxt 0 c = 0 := rfl

/-- The loop that goes down, as a cursor and a bit: what is left of a cursor below 2^k, at the bit of k. -/
def top (c k : Nat) : Nat := c / 2 ^ k % 2
theorem nxtw_one (k c : Nat) (hc : c < pw (k + 1)) (hb : top c k = 1) : pw k ≤ c ∧ c - pw k < pw k ∧ nxt (k + 1) c = nxt k (c - pw k) := by
  have h1 := top_one hb
  have h2 := pw_succ k
  refine ⟨h1, ?_, nxt_one k c hc hb⟩
  unfold pw at *
  omega
theorem nxtw_none (k c : Nat) (hc : c < pw (k + 1)) (hb : top c k ≠ 1) : nxt (k + 1) c = c + pw k := nxt_none k c hc hb
theorem div_pw (c k : Nat) : c / pw k % 2 = top c k := rfl

/-- The highest bit of a table of a size. -/
def bt (k : Nat) : Nat := pw k / 2
theorem bt_zero : bt 0 = 0 := rfl
theorem bt_succ (k : Nat) : bt (k + 1) = pw k := by unfold bt; have := pw_succ k; omega
theorem bt_half (k : Nat) : bt (k + 1) / 2 = bt k := by rw [bt_succ]; rfl
theorem nxt_zero (c : Nat) : nxt 0 c = 0 := rfl

theorem quo_wrap (c P : Nat) (hc : c < 18446744073709551616) : IntKind.u64.wrap ((c : Int) / (P : Int)) = ((c / P : Nat) : Int) := by
  have := Nat.div_le_self c P
  rw [← Int.natCast_ediv]
  generalize c / P = q at *
  exact IntWalk.u64_in _ (by omega)
set_option maxHeartbeats 400000 in
theorem rsize_any (b : Int) (w : World) : Calls Tryd.prog 59 #[.int .i64 b] w fun e w' => e = .returned (.int .i64 (szN b : Nat)) ∧ w = w' := by
  go_enter Tryd.func59, Tryd.ntmps59
  go_wp2
  all_goals go_ret
  all_goals exact ⟨ret_int (by have := szN_int b; omega), rfl⟩

set_option maxHeartbeats 400000 in
theorem rplaces_any (b : Int) (w : World) : Calls Tryd.prog 40 #[.int .i64 b] w fun e w' => e = .returned (.int .u64 ((pw (szN b) : Nat) : Int)) ∧ w = w' := by
  have hk := szN_le b
  generalize hz : szN b = K at hk
  go_enter Tryd.func40, Tryd.ntmps40
  have hc : ∀ w, Calls Tryd.prog 59 #[.int .i64 b] w fun e w' => e = .returned (.int .i64 (K : Nat)) ∧ w = w' := fun w => by rw [← hz]; exact rsize_any b w
  clear hz
  go_wp2
  go_loop [3, 4] (fun n i => ∃ k : Nat, k ≤ K ∧ i = .int .i64 k ∧ n = .int .u64 ((pw k : Nat) : Int)) (fun _ i => K - (intOf i).toNat)
  case atStart => exact ⟨0, Nat.zero_le _, rfl, rfl⟩
  case round =>
    obtain ⟨k, hkK, rfl, rfl⟩ := hrel
    have hp := pw_le (k := k) (by omega)
    by_cases hlt : k < K
    · go_wp2_with (go_at_call 59; refine (hc _).mono ?_; rintro e w' ⟨rfl, rfl⟩)
      go_round
      case rel => exact ⟨k + 1, by omega, by go_num, by have := pw_succ k; congr 1; first | done | omega⟩
      case measure => simp [intOf]; omega
    · go_wp2_with (go_at_call 59; refine (hc _).mono ?_; rintro e w' ⟨rfl, rfl⟩)
      go_ret
      exact ⟨ret_int (by rw [show k = K by omega]), rfl⟩

set_option maxHeartbeats 400000 in
theorem rplace_any (n : Nat) (b : Int) (hn : n < 18446744073709551616) (w : World) : Calls Tryd.prog 38 #[.int .u64 n, .int .i64 b] w fun e w' => e = .returned (.int .i64 ((n % pw (szN b) : Nat) : Int)) ∧ w = w' := by
  have hk := pw_le (szN_le b)
  have hp := pw_pos (szN b)
  have hc : ∀ w, Calls Tryd.prog 40 #[.int .i64 b] w fun e w' => e = .returned (.int .u64 ((pw (szN b) : Nat) : Int)) ∧ w = w' := fun w => rplaces_any b w
  generalize pw (szN b) = P at *
  go_enter Tryd.func38, Tryd.ntmps38
  go_wp2_with (go_at_call 40; ((with_reducible refine (hc _).mono ?_); rintro e w' ⟨rfl, rfl⟩))
  all_goals go_ret
  all_goals exact ⟨ret_int (mod_wrap n P hp hk), rfl⟩

set_option maxHeartbeats 400000 in
theorem rnext_any (n : Nat) (b : Int) (hn : n < 18446744073709551616) (w : World) : Calls Tryd.prog 36 #[.int .u64 n, .int .i64 b] w fun e w' => e = .returned (.int .u64 ((nxt (szN b) n : Nat) : Int)) ∧ w = w' := by
  have hk := szN_le b
  have hm := nxt_mod (szN b) n
  have hc : ∀ w, Calls Tryd.prog 40 #[.int .i64 b] w fun e w' => e = .returned (.int .u64 ((pw (szN b) : Nat) : Int)) ∧ w = w' := fun w => rplaces_any b w
  have hx : n % pw (szN b) < pw (szN b) := Nat.mod_lt _ (pw_pos _)
  have hX : Hid (nxt (szN b) (n % pw (szN b)) = nxt (szN b) n) := Lib.hid (nxt_mod (szN b) n)
  clear hm
  generalize szN b = K at *
  have hp := pw_pos K
  have hpl := pw_le hk
  generalize nxt K n = N at *
  go_enter Tryd.func36, Tryd.ntmps36
  go_wp2_with (go_at_call 40; ((with_reducible refine (hc _).mono ?_); rintro e w' ⟨rfl, rfl⟩))
  go_loop [5, 6] (fun x y => ∃ k c : Nat, k ≤ K ∧ c < pw k ∧ x = .int .u64 (c : Int) ∧ y = .int .u64 ((bt k : Nat) : Int) ∧ Hid (nxt k c = N)) (fun _ y => (intOf y).toNat)
  case atStart => exact ⟨K, n % pw K, Nat.le_refl _, hx, rfl, rfl, hX⟩
  case round =>
    obtain ⟨k, c, hkK, hck, rfl, rfl, hN⟩ := hrel
    rcases k with _ | k
    · have hz : c = 0 := by have := pw_zero; omega
      have hN0 : Hid (0 = N) := Lib.hid (by have := hN.out; rw [nxt_zero] at this; exact this)
      subst hz
      have hb : ((bt 0 : Nat) : Int) = 0 := rfl
      rw [hb]
      clear hb
      go_wp2
      all_goals go_ret
      all_goals exact ⟨ret_int (by have := hN0.out; omega), rfl⟩
    · have hb := bt_succ k
      have hh := bt_half k
      rw [hb] at hh ⊢
      clear hb
      have hpk := pw_pos k
      have hpl2 := pw_le (k := k) (by omega)
      have hck2 := hck
      rw [pw_succ] at hck2
      have hw := quo_wrap c (pw k) (by omega)
      have hq : c / pw k % 2 = top c k := rfl
      generalize c / pw k = Q at hw hq
      by_cases ht : top c k = 1
      · obtain ⟨h1, h2, h3⟩ := nxtw_one k c hck ht
        have hN1 : Hid (nxt k (c - pw k) = N) := Lib.hid (by rw [← h3]; exact hN.out)
        clear h3 hN
        have hd : (((Q : Nat) : Int) % 2 == 1) = true := by rw [beq_iff_eq]; omega
        have hhH := Lib.hid hh
        have hP := Lib.hid (Eq.refl (pw k))
        clear hh ht hq
        generalize hPe : pw k = P at hw h1 h2 hN1 hhH hP hpk hpl2 hck2
        have hPH := Lib.hid hPe
        clear hPe hP
        go_wp2
        go_round
        case rel => exact ⟨k, c - P, by omega, by rw [hPH.out]; exact h2, by congr 1; omega, by rw [← hhH.out]; rfl, hN1⟩
        case measure => simp [intOf]; omega
      · have h3 := nxtw_none k c hck ht
        have hN1 : Hid (c + pw k = N) := Lib.hid (by rw [← h3]; exact hN.out)
        have ht0 : top c k = 0 := by unfold top at *; omega
        have hd : (((Q : Nat) : Int) % 2 == 1) = false := by rw [beq_eq_false_iff_ne]; omega
        clear h3 hN hh ht ht0 hq
        generalize pw k = P at hw hN1 hpk hpl2 hck2
        go_wp2
        all_goals go_ret
        all_goals exact ⟨ret_int (by have := hN1.out; omega), rfl⟩
set_option maxHeartbeats 1000000 in
theorem rof_any (seed : Int) (s : ByteArray) (hU : U seed) (hs : s.size ≤ maxLen) (w : World) : Calls Tryd.prog 63 #[.int .u64 seed, .string s] w fun e w' => e = .returned (.int .u64 (textI seed s.data.toList)) ∧ w = w' := by
  unfold maxLen at hs
  obtain ⟨hU0, hU1⟩ := hU
  have hB := u_bits .xor 14695981039346656037 seed
  go_enter Tryd.func63, Tryd.ntmps63
  go_wp2
  go_loop [5, 6] (fun n i => ∃ k : Nat, k ≤ s.size ∧ i = .int .i64 k ∧ n = .int .u64 (ofI (bits .xor .u64 14695981039346656037 seed) (s.data.toList.take k))) (fun _ i => s.size - (intOf i).toNat)
  case atStart => exact ⟨0, Nat.zero_le _, rfl, rfl⟩
  case round =>
    obtain ⟨k, hk, rfl, rfl⟩ := hrel
    have hO := u_of _ hB (s.data.toList.take k)
    obtain ⟨hO0, hO1⟩ := hO
    by_cases hlt : k < s.size
    · have hsn : Hid (ofI (bits .xor .u64 14695981039346656037 seed) (s.data.toList.take (k + 1)) = stepI (ofI (bits .xor .u64 14695981039346656037 seed) (s.data.toList.take k)) s[k]) := Lib.hid (by rw [take_snoc s k hlt, ofI_snoc])
      generalize ofI (bits .xor .u64 14695981039346656037 seed) (s.data.toList.take k) = O at *
      go_wp2
      go_round
      case rel => exact ⟨k + 1, by omega, by go_num, by rw [hsn.out]; rfl⟩
      case measure => simp [intOf]; omega
    · have hks : s.data.toList.take k = s.data.toList := List.take_of_length_le (by simp; omega)
      rw [hks] at hO0 hO1 ⊢
      have hF : Hid (textI seed s.data.toList = foldI (mulI (foldI (mulI (foldI (ofI (bits .xor .u64 14695981039346656037 seed) s.data.toList)) 18397679294719823053)) 14181476777654086739)) := Lib.hid rfl
      generalize ofI (bits .xor .u64 14695981039346656037 seed) s.data.toList = O at *
      clear hks
      go_wp2
      go_ret
      exact ⟨ret_int (by rw [hF.out]; rfl), rfl⟩


end Go.Proofs.YtdldgiicblmknaaDoor
