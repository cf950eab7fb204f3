/-
  The law Nobody: a book that is none; one that nobody made. No condition.
-/
import Derived.Test.YtpbmgaipeofpaaaW
namespace Go.Proofs.Ytpbmgaipeofpaaa
open Go.RowKit

theorem nobody_0 : allF ([] : List Sc) = [] := by decide +kernel
theorem nobody_1 (key : ByteArray) : tipF [] key = ([(key, 1)] : List Sc) ∧ upF (cntF [] key) = 1 ∧ hasF [] key = false ∧ goF [] key = [] := ⟨rfl, rfl, rfl, rfl⟩
theorem nobody_2 (key : ByteArray) : allF [(key, 1)] = [key] := by
  rw [← uptoF_all]
  have h : ∀ n : Nat, uptoF [(key, 1)] (n + 1) = [key] := fun n => by
    induction n with
    | zero => rfl
    | succ n ih =>
      rw [uptoF_succ, ih]
      have : rowF [(key, 1)] (((n + 1 : Nat) : Int) + 1) = [] := by
        unfold rowF
        rw [List.filter_cons, decide_eq_false (by simp; omega)]
        rfl
      rw [this]
      rfl
  exact h 254
set_option maxHeartbeats 4000000 in
theorem nobody_any (w : World) (key : ByteArray) (hk : key.size ≤ maxLen) : Calls Try.prog 6 #[.string key] w fun e w' => e = .returned (.bool true) ∧ Below w.heap.size w w' := by
  have hkH := Lib.hid hk
  have hA0 := Lib.hid (alive_any w)
  by_cases h2 : 200 < key.size
  · clear hk
    go_enter Try.func6, Try.ntmps6
    go_wp2_with (go_at_call 8; (with_reducible refine (hA0.out).mono ?_); rintro e w1 ⟨rfl, ho⟩)
    go_ret
    exact ⟨rfl, ho.below (Nat.le_refl _) (by simp)⟩
  · have hT := Lib.hid (btouch_nil w key)
    have hO := Lib.hid (least_nil w)
    have hD := Lib.hid (bdrop_nil w key)
    have hC := Lib.hid (count_nil w key)
    have hHv := Lib.hid (bhalve_nil w)
    have h2' : (key.size : Int) ≤ 200 := by omega
    clear hk h2
    go_enter Try.func6, Try.ntmps6
    go_upto_region 8 with (first
      | (go_at_call 20; (with_reducible refine (hO.out).mono ?_); rintro e w1 ⟨rfl, rfl⟩)
      | (go_at_call 10; (with_reducible refine (hT.out).mono ?_); rintro e w1 ⟨rfl, rfl⟩)
      | (go_at_call 12; (with_reducible refine (hD.out).mono ?_); rintro e w1 ⟨rfl, rfl⟩)
      | (go_at_call 17; (with_reducible refine (hC.out).mono ?_); rintro e w1 ⟨rfl, rfl⟩)
      | (go_at_call 14; (with_reducible refine (hHv.out).mono ?_); rintro e w1 ⟨rfl, ho1⟩; have ho1H := Lib.hid ho1; have hL := Lib.hid (blen_nil w1); have hA := Lib.hid (ball_nil w1); clear ho1)
      | (go_at_call 16; (with_reducible refine (hL.out).mono ?_); rintro e w2 ⟨rfl, rfl⟩)
      | (go_at_call 22; (with_reducible refine (hA.out).mono ?_); rintro e w3 ⟨v3, rfl, hr3, ho3⟩; obtain ⟨A3, c3, hve⟩ := hr3.len; simp only [List.length_nil] at hve; subst hve; have ho3H := Lib.hid (ho1H.out.trans ho3 (by simp)); clear hr3 ho3))
    have hP0 : Pl w (w3.alloc (.cells #[.map none, .map none, .pointer none, .int .i64 0] 55 (0, 0))) w3.heap.size [w3.heap.size] [] := pl_made ho3H.out
    generalize w3.alloc (.cells #[.map none, .map none, .pointer none, .int .i64 0] 55 (0, 0)) = W2 at *
    generalize w3.heap.size = p at *
    have hL2' := hP0.least
    rw [nobody_0] at hL2'
    have hL2 : Hid (Calls Try.prog 20 #[ptr p] W2 fun e w' => e = .returned (.tuple #[.string ⟨#[]⟩, .bool false]) ∧ Only [] W2 w') := Lib.hid hL2'
    clear hL2'
    have hP0H := Lib.hid hP0
    clear hP0 hO hT hD hC hHv hL hA
    go_wp2_with (first
      | (go_at_call 20; (with_reducible refine (hL2.out).mono ?_); rintro e w4 ⟨rfl, ho4⟩; have h4 := hP0H.out.same ho4; have hD4 := h4.drop key hkH.out; rw [(nobody_1 key).2.2.1, (nobody_1 key).2.2.2] at hD4; have hD4H := Lib.hid hD4; clear h4 ho4 hD4)
      | (go_at_call 12; (with_reducible refine (hD4H.out).mono ?_); rintro e w5 ⟨rfl, O5, h5, _⟩; have hV5 := h5.halve; rw [show lessF ([] : List Sc) = 0 from rfl, show halveF ([] : List Sc) = [] from rfl] at hV5; have hV5H := Lib.hid hV5; clear h5 hV5)
      | (go_at_call 14; (with_reducible refine (hV5H.out).mono ?_); rintro e w6 ⟨rfl, O6, h6, _⟩; have hT6 := Pl.touch (R := []) h6 (by simp) key hkH.out; rw [(nobody_1 key).1, (nobody_1 key).2.1] at hT6; have hT6H := Lib.hid hT6; clear h6 hT6)
      | (go_at_call 10; (with_reducible refine (hT6H.out).mono ?_); rintro e w7 ⟨rfl, O7, h7, _⟩; have hA7 := h7.all; rw [nobody_2] at hA7; have hA7H := Lib.hid hA7; have h7H := Lib.hid h7; clear h7 hA7)
      | (go_at_call 22; (with_reducible refine (hA7H.out).mono ?_); rintro e w8 ⟨v8, rfl, hr8, ho8⟩; obtain ⟨A8, c8, hve⟩ := hr8.len; simp only [List.length_cons, List.length_nil, Nat.zero_add] at hve; subst hve; have hal8 := Lib.hid ((Only.refl [] w8).alloc (.cells #[.string key] 9 (0, 0))); have hS8 := Lib.hid (tsame_any (hr8.same hal8.out) (rowT_one w8 key (Nat.le_refl _)) (by simp)); have h8H := Lib.hid ((h7H.out.same ho8).same hal8.out); clear hr8 ho8)
      | (go_at_call 21; (with_reducible refine (hS8.out).mono ?_); rintro e w9 ⟨rfl, ho9⟩; have h9 := h8H.out.same ho9; have hA9 := Lib.hid (alive_any w9); have h9H := Lib.hid h9; clear h9 ho9)
      | (go_at_call 8; (with_reducible refine (hA9.out).mono ?_); rintro e w10 ⟨rfl, ho10⟩))
    go_ret
    exact ⟨rfl, (h9H.out.most.trans ho10 (by simp)).below (Nat.le_refl _) (by simp)⟩
end Go.Proofs.Ytpbmgaipeofpaaa
