/-
  The law Nobody: an order that is none; one that nobody made. No condition.
-/
import Derived.Test.YtcpiaifaebpoaaaW
namespace Go.Proofs.Ytcpiaifaebpoaaa
open Go.RowKit

set_option maxHeartbeats 4000000 in
theorem nobody_any (w : World) (key : ByteArray) (hk : key.size ≤ maxLen) : Calls Try.prog 5 #[.string key] w fun e w' => e = .returned (.bool true) ∧ Below w.heap.size w w' := by
  have hkH := Lib.hid hk
  have hA0 := Lib.hid (alive_any w)
  by_cases h2 : 200 < key.size
  · clear hk
    go_enter Try.func5, Try.ntmps5
    go_wp2_with (go_at_call 7; (with_reducible refine (hA0.out).mono ?_); rintro e w1 ⟨rfl, ho⟩)
    go_ret
    exact ⟨rfl, ho.below (Nat.le_refl _) (by simp)⟩
  · have hO := Lib.hid (oldest_empty (len_nil w))
    have hT := Lib.hid (touch_nil w key)
    have hD := Lib.hid (drop_none key (has_empty key (len_nil w)))
    have hH := Lib.hid (has_empty key (len_nil w))
    have hL := Lib.hid (len_nil w)
    have hA := Lib.hid (all_nil w)
    have h2' : (key.size : Int) ≤ 200 := by omega
    clear hk h2
    go_enter Try.func5, Try.ntmps5
    go_upto_region 8 with (first
      | (go_at_call 13; (with_reducible refine (hO.out).mono ?_); rintro e w1 ⟨rfl, rfl⟩)
      | (go_at_call 11; (with_reducible refine (hT.out).mono ?_); rintro e w1 ⟨rfl, rfl⟩)
      | (go_at_call 9; (with_reducible refine (hD.out).mono ?_); rintro e w1 ⟨rfl, rfl⟩)
      | (go_at_call 17; (with_reducible refine (hH.out).mono ?_); rintro e w1 ⟨rfl, rfl⟩)
      | (go_at_call 14; (with_reducible refine (hL.out).mono ?_); rintro e w1 ⟨rfl, rfl⟩)
      | (go_at_call 16; (with_reducible refine (hA.out).mono ?_); rintro e w1 ⟨v1, rfl, hr1, ho1⟩; obtain ⟨A1, c1, hve⟩ := hr1.len; simp only [List.length_nil] at hve; subst hve; have ho1H := Lib.hid ho1; clear hr1 ho1))
    have hP0 : Pl w (w1.alloc (.cells #[.pointer none] 42 (0, 0))) w1.heap.size [w1.heap.size] [] :=
      ⟨Or.inl ⟨heap_alloc_new _ _, rfl, rfl⟩, ho1H.out.alloc _, fun b hb => by rw [List.mem_singleton.1 hb]; exact ho1H.out.size⟩
    generalize w1.alloc (.cells #[.pointer none] 42 (0, 0)) = W2 at *
    generalize w1.heap.size = p at *
    have hP0H := Lib.hid hP0
    have hk1 : tipK [] key = [key] := by simp [tipK, goK]
    have hD1 := hP0.drop key hkH.out
    rw [show hasK [] key = false from rfl, show goK [] key = [] from rfl] at hD1
    have hD1H := Lib.hid hD1
    clear hP0 hD1 hO hT hD hH hL hA
    have hk1H := Lib.hid hk1
    have hh1 : hasK [key] key = true := hasK_iff.2 (by simp)
    have hh1H := Lib.hid hh1
    clear hk1 hh1
    go_wp2_with (first
      | (go_at_call 9; (with_reducible refine (hD1H.out).mono ?_); rintro e w2 ⟨rfl, O2, h2, _⟩; have hA2 := Lib.hid h2.all; have h2H := Lib.hid h2; clear h2)
      | (go_at_call 16; (with_reducible refine (hA2.out).mono ?_); rintro e w3 ⟨v3, rfl, hr3, ho3⟩; obtain ⟨A3, c3, hve⟩ := hr3.len; simp only [List.length_nil] at hve; subst hve; have h3 := h2H.out.same ho3; have hT3 := h3.touch (by simp) key hkH.out; rw [hk1H.out, show hasK [] key = false from rfl] at hT3; have hT3H := Lib.hid hT3; clear hr3 ho3 h3 hT3)
      | (go_at_call 11; (with_reducible refine (hT3H.out).mono ?_); rintro e w4 ⟨rfl, O4, h4, _⟩; have hH4 := h4.has key hkH.out; rw [hh1H.out] at hH4; have hH4H := Lib.hid hH4; have h4H := Lib.hid h4; clear h4 hH4)
      | (go_at_call 17; (with_reducible refine (hH4H.out).mono ?_); rintro e w5 ⟨rfl, ho5⟩; have h5 := h4H.out.same ho5; have hA5 := Lib.hid h5.all; have h5H := Lib.hid h5; clear h5 ho5)
      | (go_at_call 16; (with_reducible refine (hA5.out).mono ?_); rintro e w6 ⟨v6, rfl, hr6, ho6⟩; obtain ⟨A6, c6, hve⟩ := hr6.len; simp only [List.length_cons, List.length_nil, Nat.zero_add] at hve; subst hve; have hal6 := Lib.hid ((Only.refl [] w6).alloc (.cells #[.string key] 9 (0, 0))); have hS6 := Lib.hid (tsame_any (hr6.same hal6.out) (rowT_one w6 key (Nat.le_refl _)) (by simp)); have h6H := Lib.hid ((h5H.out.same ho6).same hal6.out); clear hr6 ho6)
      | (go_at_call 15; (with_reducible refine (hS6.out).mono ?_); rintro e w7 ⟨rfl, ho7⟩; have h7 := h6H.out.same ho7; have hA7 := Lib.hid (alive_any w7); have h7H := Lib.hid h7; clear h7 ho7)
      | (go_at_call 7; (with_reducible refine (hA7.out).mono ?_); rintro e w8 ⟨rfl, ho8⟩))
    go_ret
    exact ⟨rfl, (h7H.out.most.trans ho8 (by simp)).below (Nat.le_refl _) (by simp)⟩
end Go.Proofs.Ytcpiaifaebpoaaa
