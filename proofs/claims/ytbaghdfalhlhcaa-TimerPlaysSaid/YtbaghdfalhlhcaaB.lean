/-
  The walks of compare, parent, and what compare calls. No condition.
-/
import Derived.Test.YtbaghdfalhlhcaaM
import Derived.Lib.Small
import Derived.Laws.Cover1
namespace Go.Proofs.Ytbaghdfalhlhcaa
open Go.RowKit

theorem nanI_any (x : Int) (w : World) : Calls Try.prog 48 #[.int .i64 x] w fun e w' => e = .returned (.bool false) ∧ w = w' := by
  go_enter Try.func48, Try.ntmps48
  go_wp2
  go_ret
  exact ⟨ret_bool (by simp), rfl⟩
theorem nanS_any (x : ByteArray) (w : World) : Calls Try.prog 49 #[.string x] w fun e w' => e = .returned (.bool false) ∧ w = w' := by
  go_enter Try.func49, Try.ntmps49
  go_wp2
  go_ret
  exact ⟨ret_bool (by simp), rfl⟩
/-- Which of two texts is ahead, as a number. -/
def cmpT (a b : ByteArray) : Int := if Op.bytesLess a.toList b.toList = true then -1 else if (a.toList == b.toList) = true then 0 else 1
set_option maxHeartbeats 1000000 in
theorem cmpI_any (x y : Int) (w : World) : Calls Try.prog 36 #[.int .i64 x, .int .i64 y] w fun e w' => e = .returned (.int .i64 (Lib.compareInt x y)) ∧ w = w' := by
  go_enter Try.func36, Try.ntmps36
  go_wp2_with (go_at_call 48; ((with_reducible refine (nanI_any _ _).mono ?_); rintro e w' ⟨rfl, rfl⟩))
  all_goals (go_ret; refine ⟨ret_int ?_, rfl⟩; unfold Lib.compareInt; (repeat' split) <;> first | rfl | (exfalso; omega))
set_option maxHeartbeats 1000000 in
theorem cmpT_any (x y : ByteArray) (w : World) : Calls Try.prog 37 #[.string x, .string y] w fun e w' => e = .returned (.int .i64 (cmpT x y)) ∧ w = w' := by
  unfold cmpT
  have hd : Op.bytesLess x.toList y.toList = true ∨ Op.bytesLess x.toList y.toList = false := by cases Op.bytesLess x.toList y.toList <;> simp
  have he : (x.toList == y.toList) = true ∨ (x.toList == y.toList) = false := by cases (x.toList == y.toList) <;> simp
  rcases hd with hd | hd <;> rcases he with he | he
  all_goals
    go_enter Try.func37, Try.ntmps37
    go_wp2_with (go_at_call 49; ((with_reducible refine (nanS_any _ _).mono ?_); rintro e w' ⟨rfl, rfl⟩))
    all_goals (go_ret; exact ⟨ret_int (by first | rfl | ((rw [hd, he]) <;> rfl) | ((rw [hd]) <;> rfl)), rfl⟩)

/-- Which of two is ahead, as a number. -/
def cmpS (x y : Sc) : Int := if x.2 = y.2 then cmpT x.1 y.1 else Lib.compareInt x.2 y.2
theorem cmpS_less (x y : Sc) : decide (cmpS x y < 0) = lessS x y := by
  unfold cmpS lessS
  by_cases h : x.2 = y.2
  · rw [if_pos h, if_pos h]
    unfold cmpT
    cases Op.bytesLess x.1.toList y.1.toList with
    | true => simp
    | false => cases (x.1.toList == y.1.toList) <;> simp
  · rw [if_neg h, if_neg h]
    unfold Lib.compareInt
    by_cases h1 : x.2 < y.2
    · simp [h1]
    · by_cases h2 : x.2 > y.2
      · simp [h1, h2]
      · exfalso; omega
/-- Both lie as copies behind compare. -/
def two (w : World) (x y : Sc) : World := (w.alloc (.cells #[.string x.1, .int .i64 x.2] 44)).alloc (.cells #[.string y.1, .int .i64 y.2] 44)
theorem two_only (w : World) (x y : Sc) : Only [] w (two w x y) := ((Only.refl [] w).alloc _).alloc _
set_option maxHeartbeats 1000000 in
theorem compare_any (x y : Sc) (w : World) : Calls Try.prog 29 #[scV x, scV y] w fun e w' => e = .returned (.int .i64 (cmpS x y)) ∧ w' = two w x y := by
  obtain ⟨a, s⟩ := x
  obtain ⟨b, t⟩ := y
  unfold scV two cmpS
  have hI := Lib.hid (fun w => cmpI_any s t w)
  have hT := Lib.hid (fun w => cmpT_any a b w)
  by_cases h : s = t
  · have he : (s == t) = true := by simpa using h
    rw [if_pos h]
    subst h
    go_enter Try.func29, Try.ntmps29
    go_wp2_with (go_at_call 37; ((with_reducible refine (hT.out _).mono ?_); rintro e w' ⟨rfl, rfl⟩))
    all_goals go_ret
    exact ⟨rfl, rfl⟩
  · have he : (s == t) = false := by simpa using h
    rw [if_neg h]
    go_enter Try.func29, Try.ntmps29
    go_wp2_with (go_at_call 36; ((with_reducible refine (hI.out _).mono ?_); rintro e w' ⟨rfl, rfl⟩))
    all_goals go_ret
    exact ⟨rfl, rfl⟩
theorem parent_any (x : Int) (hx : 0 < x ∧ x ≤ 4000000) (w : World) : Calls Try.prog 31 #[.int .i64 x] w fun e w' => e = .returned (.int .i64 ((x - 1) / 2)) ∧ w = w' := by
  have h1 : (x - 1).tdiv 2 = (x - 1) / 2 := Int.tdiv_eq_ediv_of_nonneg (by omega)
  go_enter Try.func31, Try.ntmps31
  go_wp2
  go_ret
  exact ⟨ret_int (by first | rfl | exact h1), rfl⟩
end Go.Proofs.Ytbaghdfalhlhcaa
