/-
  Which of two places is ahead, and which child of a place: the walks of settle's function literal and of child. Premises: what lies of a timer; a box that holds the timer's pointer.
-/
import Derived.Test.YtbaghdfalhlhcaaD
namespace Go.Proofs.Ytbaghdfalhlhcaa
open Go.RowKit

/-- What both read: the head's first cell, the row. -/
structure Hv (w : World) (p : Nat) (g cap : Nat) (h : List Sc) : Prop where
  c0 : w.cell? ⟨p, 0, none⟩ = some (.slice (some ⟨g, 0, none⟩) h.length cap)
  cs : ∀ k x, h[k]? = some x → w.cell? ⟨g, k * 2, none⟩ = some (.string x.1) ∧ w.cell? ⟨g, k * 2 + 1, none⟩ = some (.int .i64 x.2)
  few : h.length ≤ 1000000
theorem Hv.keep {w w' : World} {p g cap : Nat} {h : List Sc} (k : Hv w p g cap h) (ho : Only [] w w') : Hv w' p g cap h :=
  ⟨cell_keep ho k.c0, fun i x hx => ⟨cell_keep ho (k.cs i x hx).1, cell_keep ho (k.cs i x hx).2⟩, k.few⟩
theorem Tg.hv {w : World} {p m c g cap : Nat} {h : List Sc} {f : ByteArray → Option Nat} (k : Tg w p (.slice (some ⟨g, 0, none⟩) h.length cap) m c h f) : Hv w p g cap h := by
  refine ⟨Lib.cell_of_heap k.head 0, fun i x hx => ?_, k.few⟩
  obtain ⟨_, _, _, C, hb, _, hC⟩ := rowS_block k.row
  rw [Joins.cell_of_block hb, Joins.cell_of_block hb]
  exact hC i x hx
set_option maxHeartbeats 4000000 in
theorem ahead_any {w : World} {p g cap b i j : Nat} {h : List Sc} (k : Hv w p g cap h) (hb : w.cell? ⟨b, 0, none⟩ = some (.pointer (some ⟨p, 0, none⟩))) (hi : i < h.length) (hj : j < h.length) :
    Calls Try.prog 30 #[.int .i64 (i : Int), .int .i64 (j : Int), .pointer (some ⟨b, 0, none⟩)] w fun e w' => e = .returned (.bool (lessS (el h i) (el h j))) ∧ Only [] w w' := by
  obtain ⟨s1, s2⟩ := k.cs i _ (el_get hi)
  obtain ⟨s3, s4⟩ := k.cs j _ (el_get hj)
  have c0 := k.c0
  have hix := run_ixS g i h.length cap hi
  have hjx := run_ixS g j h.length cap hj
  have hcm := Lib.hid (fun w => compare_any (el h i) (el h j) w)
  have hls := Lib.hid (cmpS_less (el h i) (el h j))
  generalize lessS (el h i) (el h j) = r at *
  generalize cmpS (el h i) (el h j) = c at *
  obtain ⟨n, hnn⟩ : ∃ n, n = h.length := ⟨_, rfl⟩
  rw [← hnn] at c0 hix hjx
  clear k hi hj hnn
  have htw := Lib.hid (fun w => two_only w (el h i) (el h j))
  generalize el h i = x at *
  generalize el h j = y at *
  obtain ⟨xa, xs⟩ := x
  obtain ⟨ya, ys⟩ := y
  unfold scV at hcm
  simp only at s1 s2 s3 s4 hcm
  go_enter Try.func30, Try.ntmps30
  go_wp2_with fail
  go_still_tail 14, (by kernel_rfl)
  change wpList _ _ _ _ _ w.drew
  have ho1 := Lib.hid ((Only.refl [] w).drew)
  generalize w.drew = W1 at *
  go_wp2_with (go_at_call 29; ((with_reducible refine (hcm.out _).mono ?_); rintro e w' ⟨rfl, rfl⟩))
  go_ret
  exact ⟨ret_bool hls.out, ho1.out.trans (htw.out _) (by simp)⟩
/-- The child that is ahead of the other one; 0: there is none. -/
def childF (h : List Sc) (i : Nat) : Nat := if h.length ≤ 2 * i + 1 then 0 else if 2 * i + 2 < h.length then (if lessS (el h (2 * i + 2)) (el h (2 * i + 1)) = true then 2 * i + 2 else 2 * i + 1) else 2 * i + 1
set_option maxHeartbeats 4000000 in
theorem child_any {w : World} {p g cap b i : Nat} {h : List Sc} (k : Hv w p g cap h) (hb : w.cell? ⟨b, 0, none⟩ = some (.pointer (some ⟨p, 0, none⟩))) (hi : i < h.length) :
    Calls Try.prog 33 #[.pointer (some ⟨p, 0, none⟩), .int .i64 (i : Int), .func (.func 30) #[] #[.pointer (some ⟨b, 0, none⟩)]] w fun e w' => e = .returned (.int .i64 (childF h i : Nat)) ∧ Only [] w w' := by
  have hfew := k.few
  have c0 := k.c0
  have i0 : (0 : Int) ≤ i := by omega
  have i1 : (i : Int) ≤ 1000000 := by omega
  unfold childF
  by_cases h1 : h.length ≤ 2 * i + 1
  · rw [if_pos h1]
    have hd : decide ((h.length : Int) ≤ 2 * (i : Int) + 1) = true := decide_eq_true (by omega)
    obtain ⟨n, hnn⟩ : ∃ n, n = h.length := ⟨_, rfl⟩
    rw [← hnn] at c0 hd
    clear k hi h1 hnn hfew
    go_enter Try.func33, Try.ntmps33
    go_wp2
    go_ret
    exact ⟨rfl, Only.refl _ _⟩
  · rw [if_neg h1]
    have hd : decide ((h.length : Int) ≤ 2 * (i : Int) + 1) = false := decide_eq_false (by omega)
    by_cases h2 : 2 * i + 2 < h.length
    · rw [if_pos h2]
      have hd2 : decide (2 * (i : Int) + 2 < (h.length : Int)) = true := decide_eq_true (by omega)
      have hc := ahead_any k hb (i := 2 * i + 2) (j := 2 * i + 1) h2 (by omega)
      rw [show ((2 * i + 2 : Nat) : Int) = 2 * (i : Int) + 2 by omega, show ((2 * i + 1 : Nat) : Int) = 2 * (i : Int) + 1 by omega] at hc
      obtain ⟨n, hnn⟩ : ∃ n, n = h.length := ⟨_, rfl⟩
      rw [← hnn] at c0 hd hd2
      generalize lessS (el h (2 * i + 2)) (el h (2 * i + 1)) = r at *
      have hcH := Lib.hid hc
      clear k hi h1 h2 hc hnn hfew
      cases r with
      | true =>
        go_enter Try.func33, Try.ntmps33
        go_wp2_with (go_at_call 30; ((with_reducible refine (hcH.out).mono ?_); rintro e w' ⟨rfl, hw⟩; have hwH := Lib.hid hw; clear hw))
        go_ret
        exact ⟨ret_int (by simp), hwH.out⟩
      | false =>
        go_enter Try.func33, Try.ntmps33
        go_wp2_with (go_at_call 30; ((with_reducible refine (hcH.out).mono ?_); rintro e w' ⟨rfl, hw⟩; have hwH := Lib.hid hw; clear hw))
        go_ret
        exact ⟨ret_int (by simp), hwH.out⟩
    · rw [if_neg h2]
      have hd2 : decide (2 * (i : Int) + 2 < (h.length : Int)) = false := decide_eq_false (by omega)
      obtain ⟨n, hnn⟩ : ∃ n, n = h.length := ⟨_, rfl⟩
      rw [← hnn] at c0 hd hd2
      clear k hi h1 h2 hnn hfew
      go_enter Try.func33, Try.ntmps33
      go_wp2
      go_ret
      exact ⟨ret_int (by simp), Only.refl _ _⟩
end Go.Proofs.Ytbaghdfalhlhcaa
