/-
  The walks of three statements of layer 6: what they say is so, whatever comes in. The table of factors holds what the program's text lays.
-/
import Derived.Test.YtinolmaamccjbaaDoorWalksC
namespace Go.Proofs.YtinolmaamccjbaaDoor
open Go.RowKit

theorem place_lt (n : Nat) (b : Int) : n % pw (szN b) < pw (szN b) := Nat.mod_lt _ (pw_pos _)

set_option maxHeartbeats 1000000 in
theorem says_walk (seed : Int) (s : ByteArray) (b : Int) (hU : U seed) (hs : s.size ≤ maxLen) (w : World) (hFac : Fac w) (hz : 0 < w.heap.size) :
    Calls Tryd.prog 3 #[.int .u64 seed, .string s, .int .i64 b] w fun e w' => e = .returned (.bool true) ∧ Below w.heap.size w w' := by
  have ha := fun w hF hz => alive_any w hF hz
  have ho := fun w hF => of_any seed s hU hs w hF
  have hr := fun w => rof_any seed s hU hs w
  have hUt : U (textI seed s.data.toList) := u_fold _
  obtain ⟨T, hT⟩ : ∃ T : Nat, textI seed s.data.toList = (T : Int) := ⟨(textI seed s.data.toList).toNat, by have := hUt.1; omega⟩
  rw [hT] at hUt
  have hTl : T < 18446744073709551616 := by have := hUt.2; omega
  have hp := fun w => place_any T b hTl w
  have hq := fun w => rplace_any T b hTl w
  rw [hT] at hr
  simp only [hT] at ho
  clear hT hUt
  generalize T % pw (szN b) = Q at *
  unfold maxLen at hs
  go_enter Tryd.func3, Tryd.ntmps3
  go_wp2_with (first
    | (go_at_call 7; ((with_reducible refine (ha _ hFac hz).mono ?_); rintro e w' ⟨rfl, hb⟩))
    | (go_at_call 9; ((with_reducible refine (ho _ hFac).mono ?_); rintro e w' ⟨rfl, rfl⟩))
    | (go_at_call 8; ((with_reducible refine (hr _).mono ?_); rintro e w' ⟨rfl, rfl⟩))
    | (go_at_call 10; ((with_reducible refine (hp _).mono ?_); rintro e w' ⟨rfl, rfl⟩))
    | (go_at_call 11; ((with_reducible refine (hq _).mono ?_); rintro e w' ⟨rfl, rfl⟩)))
  all_goals go_ret
  all_goals exact ⟨rfl, hb⟩

set_option maxHeartbeats 1000000 in
theorem turns_walk (n : Nat) (b : Int) (hn : n < 18446744073709551616) (w : World) (hFac : Fac w) (hz : 0 < w.heap.size) :
    Calls Tryd.prog 4 #[.int .u64 n, .int .i64 b] w fun e w' => e = .returned (.bool true) ∧ Below w.heap.size w w' := by
  have ha := fun w hF hz => alive_any w hF hz
  have ht := fun w => turn_any n b hn w
  have hr := fun w => rturn_any n b hn w
  have hx := fun w => next_any n b hn w
  have hy := fun w => rnext_any n b hn w
  have hs := rev_small b n
  have ht2 := fun w => turn_any (rev (szN b) n) b (by omega) w
  have hP := fun w => rplaces_any b w
  have hpl := pw_le (szN_le b)
  have hpp := pw_pos (szN b)
  have e2 : rev (szN b) (rev (szN b) n) = n % pw (szN b) := rev_rev _ _
  rw [e2] at ht2
  have hq : ((n : Int) % ((pw (szN b) : Nat) : Int)) = ((n % pw (szN b) : Nat) : Int) := (Int.natCast_emod _ _).symm
  clear e2
  generalize n % pw (szN b) = Q at *
  generalize pw (szN b) = P at *
  generalize rev (szN b) n = R at *
  generalize nxt (szN b) n = M at *
  go_enter Tryd.func4, Tryd.ntmps4
  go_wp2_with (first
    | (go_at_call 7; ((with_reducible refine (ha _ hFac hz).mono ?_); rintro e w' ⟨rfl, hb⟩))
    | (go_at_call 12; ((with_reducible refine (ht _).mono ?_); rintro e w' ⟨rfl, rfl⟩))
    | (go_at_call 12; ((with_reducible refine (ht2 _).mono ?_); rintro e w' ⟨rfl, rfl⟩))
    | (go_at_call 13; ((with_reducible refine (hr _).mono ?_); rintro e w' ⟨rfl, rfl⟩))
    | (go_at_call 14; ((with_reducible refine (hx _).mono ?_); rintro e w' ⟨rfl, rfl⟩))
    | (go_at_call 15; ((with_reducible refine (hy _).mono ?_); rintro e w' ⟨rfl, rfl⟩))
    | (go_at_call 16; ((with_reducible refine (hP _).mono ?_); rintro e w' ⟨rfl, rfl⟩)))
  all_goals go_ret
  all_goals exact ⟨rfl, hb⟩

theorem szN_nat (B : Nat) (h : B ≤ 16) : szN (B : Int) = B := by unfold szN; omega
theorem size_of_b (b : Int) : ∃ B : Nat, B ≤ 15 ∧ wrap64 ((IntKind.u64.wrap b).tmod 16) = (B : Int) := by
  rw [IntKind.wrap_u64, tmod_of_emod]
  exact ⟨(b % 18446744073709551616 % 16).toNat, by omega, by rw [IntWalk.wrap64_in _ (by omega)]; omega⟩

set_option maxHeartbeats 1000000 in
theorem grows_walk (b : Int) (cursor h : Nat) (hcn : cursor < 18446744073709551616) (hh : h < 18446744073709551616) (w : World) (hFac : Fac w) (hz : 0 < w.heap.size) :
    Calls Tryd.prog 6 #[.int .i64 b, .int .u64 cursor, .int .u64 h] w fun e w' => e = .returned (.bool true) ∧ Below w.heap.size w w' := by
  have ha := fun w hF hz => alive_any w hF hz
  obtain ⟨B, hB, hbB⟩ := size_of_b b
  have e0 := szN_nat B (by omega)
  have e1 := szN_nat (B + 1) (by omega)
  have hP := fun w => rplaces_any (B : Int) w
  rw [e0] at hP
  have hp := fun w => place_any h (B : Int) hh w
  rw [e0] at hp
  have hq := fun w => place_any h ((B + 1 : Nat) : Int) hh w
  rw [e1, Int.natCast_succ] at hq
  have hpB := pw_pos B
  have hpl := pw_le (k := B) (by omega)
  have hql := pw_le (k := B + 1) (by omega)
  have hps := pw_succ B
  have hpP : h % pw B < pw B := Nat.mod_lt _ hpB
  have hpQ : h % pw (B + 1) < pw (B + 1) := Nat.mod_lt _ (pw_pos _)
  have hpC : cursor % pw B < pw B := Nat.mod_lt _ hpB
  have hqp : (((h % pw (B + 1) : Nat) : Int) % ((pw B : Nat) : Int)) = ((h % pw B : Nat) : Int) := by
    rw [← Int.natCast_emod]
    congr 1
    rw [pw_succ]
    exact Nat.mod_mul_left_mod h 2 (pw B)
  have hcc : ((cursor : Int) % ((pw B : Nat) : Int)) = ((cursor % pw B : Nat) : Int) := (Int.natCast_emod _ _).symm
  have hmod : h % pw (B + 1) % pw B = h % pw B := by rw [pw_succ]; exact Nat.mod_mul_left_mod h 2 (pw B)
  have hg := grows B (cursor % pw B) (h % pw B) (h % pw (B + 1)) hpC hmod
  clear hmod
  have t1 := fun w => turn_any (h % pw B) (B : Int) (by omega) w
  have t2 := fun w => turn_any (cursor % pw B) (B : Int) (by omega) w
  have t3 := fun w => turn_any (h % pw (B + 1)) ((B + 1 : Nat) : Int) (by omega) w
  have t4 := fun w => turn_any (cursor % pw B) ((B + 1 : Nat) : Int) (by omega) w
  rw [e0] at t1 t2
  rw [e1, Int.natCast_succ] at t3 t4
  clear e0 e1 hps
  have hgB : (decide (rev B (h % pw B) < rev B (cursor % pw B)) == decide (rev (B + 1) (h % pw (B + 1)) < rev (B + 1) (cursor % pw B))) = true := by
    simp only [beq_iff_eq, decide_eq_decide]
    exact hg.symm
  clear hg
  generalize rev B (h % pw B) = R1 at *
  generalize rev B (cursor % pw B) = R2 at *
  generalize rev (B + 1) (h % pw (B + 1)) = R3 at *
  generalize rev (B + 1) (cursor % pw B) = R4 at *
  generalize h % pw (B + 1) = Q at *
  generalize h % pw B = M at *
  generalize cursor % pw B = C at *
  generalize pw (B + 1) = P2 at *
  generalize pw B = P at *
  go_enter Tryd.func6, Tryd.ntmps6
  go_wp2_with (first
    | (go_at_call 7; ((with_reducible refine (ha _ hFac hz).mono ?_); rintro e w' ⟨rfl, hb⟩))
    | (go_at_call 16; ((with_reducible refine (hP _).mono ?_); rintro e w' ⟨rfl, rfl⟩))
    | (go_at_call 10; ((with_reducible refine (hp _).mono ?_); rintro e w' ⟨rfl, rfl⟩))
    | (go_at_call 10; ((with_reducible refine (hq _).mono ?_); rintro e w' ⟨rfl, rfl⟩))
    | (go_at_call 12; ((with_reducible refine (t1 _).mono ?_); rintro e w' ⟨rfl, rfl⟩))
    | (go_at_call 12; ((with_reducible refine (t2 _).mono ?_); rintro e w' ⟨rfl, rfl⟩))
    | (go_at_call 12; ((with_reducible refine (t3 _).mono ?_); rintro e w' ⟨rfl, rfl⟩))
    | (go_at_call 12; ((with_reducible refine (t4 _).mono ?_); rintro e w' ⟨rfl, rfl⟩)))
  all_goals go_ret
  all_goals exact ⟨rfl, hb⟩

end Go.Proofs.YtinolmaamccjbaaDoor
