/-
  Touch. Premises: a book as it lies, of fewer than a million keys; keys of at most so many bytes as the model's texts have; a count from 0 to 255.
-/
import Derived.Test.YtpbmgaipeofpaaaNH
namespace Go.Proofs.Ytpbmgaipeofpaaa
open Go.RowKit
variable {w w' : World} {p n : Nat} {c : Cd} {O : List Nat} {T : List ByteArray} {F : Int → List ByteArray}

/-- The rows behind a touch of a key that had the count x. -/
def touchF (F : Int → List ByteArray) (x : Int) (key : ByteArray) : Int → List ByteArray :=
  if x < 255 then upF' (upF' F x (goK (F x) key)) (x + 1) (tipK (upF' F x (goK (F x) key) (x + 1)) key) else upF' F x (tipK (F x) key)
theorem touchF_low (F : Int → List ByteArray) {x : Int} (key : ByteArray) (h : x < 255) : touchF F x key = upF' (upF' F x (goK (F x) key)) (x + 1) (tipK (upF' F x (goK (F x) key) (x + 1)) key) := if_pos h
theorem touchF_top (F : Int → List ByteArray) (key : ByteArray) : touchF F 255 key = upF' F 255 (tipK (F 255) key) := if_neg (by omega)
theorem upF'_short {F : Int → List ByteArray} (h : ∀ m, (F m).length < 1000000) (x : Int) (key : ByteArray) : ∀ m, (upF' F x (goK (F x) key) m).length < 1000000 := fun m => by
  unfold upF'
  split
  · exact Nat.lt_of_le_of_lt (goK_le _ _) (h x)
  · exact h m
/-- What a touch leaves. -/
def Touched (w w' : World) (p : Nat) (c : Cd) (F : Int → List ByteArray) (T : List ByteArray) (n : Nat) (O : List Nat) (key : ByteArray) : Prop :=
  ∃ c' O', Bk none w' p c' (touchF F (cntC c key) key) (tipK T key) (if (c key).isSome then n else n + 1) O' ∧ Move O w w' O' ∧ (∃ b, c' key = some (b, upF (cntC c key))) ∧ ∀ k, k ≠ key → c' k = c k
set_option maxHeartbeats 8000000 in
theorem touch_low (h : Bk none w p c F T n O) (hn : n < 1000000) {key : ByteArray} (hk : key.size ≤ maxLen) (hF : ∀ m, (F m).length < 1000000) (hT : T.length < 1000000) (hx : 0 ≤ cntC c key ∧ cntC c key < 255) :
    Calls Try.prog 10 #[ptr p, .string key] w fun e w' => e = .returned (.int .i64 (upF (cntC c key))) ∧ Touched w w' p c F T n O key := by
  have hC := Lib.hid (h.cardOf hn hk)
  obtain ⟨x, hxe⟩ : ∃ x, x = cntC c key := ⟨_, rfl⟩
  have hxeH := Lib.hid hxe
  rw [← hxe] at hx hC ⊢
  have hlt : decide (x < 255) = true := decide_eq_true hx.2
  have hw1 := wrap_small (x := x + 1) (by omega)
  have hup : upF x = x + 1 := by unfold upF; rw [if_neg (by omega)]
  rw [hup]
  have hxH := Lib.hid hx
  have hFH := Lib.hid hF
  have hTH := Lib.hid hT
  have hkH := Lib.hid hk
  have hupH := Lib.hid hup
  clear h hn hk hF hT hx hxe hup
  go_enter Try.func10, Try.ntmps10
  go_upto_region 5 with (go_at_call 24; (with_reducible refine (hC.out).mono ?_); rintro e w1 ⟨b, c1, n1, O1, rfl, h1, m1, q1, q2, q3⟩; have b11 := h1.cell1 q1; have hLv := Lib.hid (h1.leave q1 ⟨hxH.out.1, by have := hxH.out.2; omega⟩ hkH.out); have m1H := Lib.hid m1; have q1H := Lib.hid q1; have q2H := Lib.hid q2; have q3H := Lib.hid q3; clear h1 m1 q1 q2 q3)
  go_upto_region 6 with (go_at_call 25; (with_reducible refine (hLv.out).mono ?_); rintro e w2 ⟨rfl, O2, h2, m2⟩; have b21 := h2.cell1 q1H.out; have z21 := h2.froz q1H.out 1; have h3 := h2.setC q1H.out (x + 1); have m2H := Lib.hid m2; have h3H := Lib.hid h3; clear h2 m2 h3)
  go_upto_region 7 with (fail)
  obtain ⟨W3, hW3⟩ : ∃ W3, W3 = w2.setCell ⟨b, 1, none⟩ (.int .i64 (x + 1)) := ⟨_, rfl⟩
  rw [← hW3] at h3H ⊢
  have q4 : upC c1 key (some (b, x + 1)) key = some (b, x + 1) := upC_at _ _ _
  have b30 := h3H.out.1.cell0 q4
  have b31 := h3H.out.1.cell1 q4
  have q4H := Lib.hid q4
  have hRow := Lib.hid (fun W (hW : Only [] W3 W) => (h3H.out.1.same hW).rowOf (m := x + 1) ⟨by have := hxH.out.1; omega, by have := hxH.out.2; omega⟩)
  have hsh := Lib.hid (upF'_short hFH.out x key)
  have mA := Lib.hid ((m1H.out.trans m2H.out).trans h3H.out.2)
  clear q4 hW3 b11 b21 z21 hlt hw1 hC m1H m2H hLv
  go_region_with (first
    | (go_at_call 26; (with_reducible refine (hRow.out _ (by first | exact Only.refl _ _ | exact drew_only _)).mono ?_); rintro e w4 ⟨b4, O4, rfl, h4, m4⟩; have b40 := h4.bk.cell0 q4H.out; have hTo := Lib.hid (h4.touch (hsh.out (x + 1)) hkH.out); have mB := Lib.hid (show Move O w w4 O4 by first | exact mA.out.trans m4 | exact (mA.out.trans (Move.none (drew_only _))).trans m4); clear h4 m4)
    | (go_at_call 27; (with_reducible refine (hTo.out).mono ?_); rintro e w5 ⟨v5, O5, rfl, h5, m5⟩; have b50 := h5.cell0 q4H.out; have hTd := Lib.hid (fun W (hW : Only [] w5 W) => (h5.same hW).touched hTH.out hkH.out); have mC := Lib.hid (mB.out.trans m5); clear h5 m5))
  all_goals clear b30 b31 b40 hTo mB mA hRow h3H hsh
  all_goals go_wp2_with fail
  all_goals go_region_with (go_at_call 27; (with_reducible refine (hTd.out _ (by first | exact Only.refl _ _ | exact drew_only _)).mono ?_); rintro e w6 ⟨v6, O6, rfl, h6, m6⟩; have b61 := h6.cell1 q4H.out; have h6H := Lib.hid h6; have mD := Lib.hid (show Move O w w6 O6 by first | exact mC.out.trans m6 | exact (mC.out.trans (Move.none (drew_only _))).trans m6); clear h6 m6)
  all_goals go_wp2_with fail
  all_goals go_ret
  all_goals refine ⟨rfl, upC c1 key (some (b, x + 1)), O6, ?_, mD.out, ⟨b, by rw [← hxeH.out, hupH.out]; exact q4H.out⟩, fun k hk => by rw [upC_other _ _ hk]; exact q2H.out k hk⟩
  all_goals rw [← hxeH.out, touchF_low F key hxH.out.2, ← q3H.out]
  all_goals exact h6H.out
set_option maxHeartbeats 8000000 in
theorem touch_top (h : Bk none w p c F T n O) (hn : n < 1000000) {key : ByteArray} (hk : key.size ≤ maxLen) (hF : ∀ m, (F m).length < 1000000) (hT : T.length < 1000000) (hx : cntC c key = 255) :
    Calls Try.prog 10 #[ptr p, .string key] w fun e w' => e = .returned (.int .i64 (upF (cntC c key))) ∧ Touched w w' p c F T n O key := by
  have hC := Lib.hid (h.cardOf hn hk)
  have hxH := Lib.hid hx
  rw [hx] at hC ⊢
  have hup : upF 255 = 255 := by decide
  rw [hup]
  have hFH := Lib.hid hF
  have hTH := Lib.hid hT
  have hkH := Lib.hid hk
  clear h hn hk hF hT hx hup
  go_enter Try.func10, Try.ntmps10
  go_upto_region 7 with (go_at_call 24; (with_reducible refine (hC.out).mono ?_); rintro e W3 ⟨b, c1, n1, O1, rfl, h1, m1, q1, q2, q3⟩; have b30 := h1.cell0 q1; have b31 := h1.cell1 q1; have h1H := Lib.hid h1; have mA := Lib.hid m1; have q1H := Lib.hid q1; have q2H := Lib.hid q2; have q3H := Lib.hid q3; clear h1 m1 q1 q2 q3)
  have hRow := Lib.hid (fun W (hW : Only [] W3 W) => (h1H.out.same hW).rowOf (m := 255) ⟨by omega, by omega⟩)
  clear hC
  go_region_with (first
    | (go_at_call 26; (with_reducible refine (hRow.out _ (by first | exact Only.refl _ _ | exact drew_only _)).mono ?_); rintro e w4 ⟨b4, O4, rfl, h4, m4⟩; have b40 := h4.bk.cell0 q1H.out; have hTo := Lib.hid (h4.touch (hFH.out 255) hkH.out); have mB := Lib.hid (show Move O w w4 O4 by first | exact mA.out.trans m4 | exact (mA.out.trans (Move.none (drew_only _))).trans m4); clear h4 m4)
    | (go_at_call 27; (with_reducible refine (hTo.out).mono ?_); rintro e w5 ⟨v5, O5, rfl, h5, m5⟩; have b50 := h5.cell0 q1H.out; have hTd := Lib.hid (fun W (hW : Only [] w5 W) => (h5.same hW).touched hTH.out hkH.out); have mC := Lib.hid (mB.out.trans m5); clear h5 m5))
  all_goals clear b30 b31 b40 hTo mB mA hRow h1H
  all_goals go_wp2_with fail
  all_goals go_region_with (go_at_call 27; (with_reducible refine (hTd.out _ (by first | exact Only.refl _ _ | exact drew_only _)).mono ?_); rintro e w6 ⟨v6, O6, rfl, h6, m6⟩; have b61 := h6.cell1 q1H.out; have h6H := Lib.hid h6; have mD := Lib.hid (show Move O w w6 O6 by first | exact mC.out.trans m6 | exact (mC.out.trans (Move.none (drew_only _))).trans m6); clear h6 m6)
  all_goals go_wp2_with fail
  all_goals go_ret
  all_goals refine ⟨rfl, c1, O6, ?_, mD.out, ⟨b, by rw [hxH.out]; exact q1H.out⟩, q2H.out⟩
  all_goals rw [hxH.out, touchF_top, ← q3H.out]
  all_goals exact h6H.out
theorem Bk.touch (h : Bk none w p c F T n O) (hn : n < 1000000) {key : ByteArray} (hk : key.size ≤ maxLen) (hF : ∀ m, (F m).length < 1000000) (hT : T.length < 1000000) (hx : 0 ≤ cntC c key ∧ cntC c key ≤ 255) :
    Calls Try.prog 10 #[ptr p, .string key] w fun e w' => e = .returned (.int .i64 (upF (cntC c key))) ∧ Touched w w' p c F T n O key := by
  by_cases e : cntC c key < 255
  · exact touch_low h hn hk hF hT ⟨hx.1, e⟩
  · exact touch_top h hn hk hF hT (by omega)
end Go.Proofs.Ytpbmgaipeofpaaa
