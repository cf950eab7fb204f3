/-
  The law's own alive; the law Says: what any bytes make of any number, and the sum of any text. No condition but the lengths that Go's own strings have.
-/
import Derived.Test.YtbbhjhnfjkfklaaDoorV
namespace Go.Proofs.YtbbhjhnfjkfklaaDoor
open Go.RowKit

theorem alive_1 : ofN (([⟨#[49, 50, 51, 52, 53, 54, 55, 56, 57]⟩] : List ByteArray).flatMap bt) = 3421780262 := by decide +kernel
theorem alive_2 : fitsB ⟨#[49, 50, 51, 52, 53, 54, 55, 56, 57, 38, 57, 244, 203]⟩ = true := by decide +kernel
theorem alive_3 : fitsB ⟨#[97, 98, 99]⟩ = false := by decide +kernel
theorem alive_4 : ofN (([] : List ByteArray).flatMap bt) = 0 := by decide +kernel
set_option maxHeartbeats 4000000 in
theorem alive_any (w : World) (hT : Tab w) : Calls Tryd.prog 7 #[] w fun e w' => e = .returned (.bool true) ∧ Only [] w w' := by
  have o1 : Only [] w (w.alloc (.cells #[.string ⟨#[49, 50, 51, 52, 53, 54, 55, 56, 57]⟩] 9)) := (Only.refl [] w).alloc _
  have hO := of_any (c := 1) (keys_one w ⟨#[49, 50, 51, 52, 53, 54, 55, 56, 57]⟩) (by simp) (by simp) (fun k hk => by rw [List.mem_singleton.1 hk]; decide) (hT.keep o1)
  rw [alive_1] at hO
  have hOH : Hid (Calls Tryd.prog 13 #[.slice (some ⟨w.heap.size, 0, none⟩) 1 1] (w.alloc (.cells #[.string ⟨#[49, 50, 51, 52, 53, 54, 55, 56, 57]⟩] 9)) fun e w' => e = .returned (.int .u32 3421780262) ∧ Only [] (w.alloc (.cells #[.string ⟨#[49, 50, 51, 52, 53, 54, 55, 56, 57]⟩] 9)) w') := Lib.hid hO
  have o1H := Lib.hid o1
  have hTH := Lib.hid hT
  clear hO o1 hT
  go_enter Tryd.func7, Tryd.ntmps7
  go_wp2_with (first
    | (go_at_call 13; (with_reducible refine (hOH.out).mono ?_); rintro e w1 ⟨rfl, o2⟩; have hF := fits_any ⟨#[49, 50, 51, 52, 53, 54, 55, 56, 57, 38, 57, 244, 203]⟩ (by decide) w1 (hTH.out.keep (o1H.out.trans o2 (by simp))); rw [alive_2] at hF; have hFH := Lib.hid hF; have o2H := Lib.hid (o1H.out.trans o2 (by simp)); clear hF o2 hOH)
    | (go_at_call 16; (with_reducible refine (hFH.out).mono ?_); rintro e w2 ⟨rfl, o3⟩; have hG := fits_any ⟨#[97, 98, 99]⟩ (by decide) w2 (hTH.out.keep (o2H.out.trans o3 (by simp))); rw [alive_3] at hG; have hGH := Lib.hid hG; have o3H := Lib.hid (o2H.out.trans o3 (by simp)); clear hG o3 hFH)
    | (go_at_call 16; (with_reducible refine (hGH.out).mono ?_); rintro e w3 ⟨rfl, o4⟩; have hN := of_any (c := 0) (keys_none w3 w3.heap.size none) (Nat.le_refl _) (by simp) (by simp) (hTH.out.keep (o3H.out.trans o4 (by simp))); rw [alive_4] at hN; have hNH : Hid (Calls Tryd.prog 13 #[.slice none 0 0] w3 fun e w' => e = .returned (.int .u32 0) ∧ Only [] w3 w') := Lib.hid hN; have o4H := Lib.hid (o3H.out.trans o4 (by simp)); clear hN o4 hGH)
    | (go_at_call 13; (with_reducible refine (hNH.out).mono ?_); rintro e w4 ⟨rfl, o5⟩))
  go_ret
  exact ⟨rfl, o4H.out.trans o5 (by simp)⟩
theorem only_nil {a b c : World} (h : Only [] a b) (k : Only [] b c) : Only [] a c := h.trans k (by simp)
theorem of_one (w : World) (s : ByteArray) (hs : s.size ≤ 1099511627776) (hT : Tab w) : Calls Tryd.prog 13 #[.slice (some ⟨w.heap.size, 0, none⟩) 1 1] (w.alloc (.cells #[.string s] 9)) fun e w' => e = .returned (.int .u32 (ofN (bt s) : Nat)) ∧ Only [] w w' := by
  refine (of_any (c := 1) (keys_one w s) (by simp) (by simp) (fun k hk => by rw [List.mem_singleton.1 hk]; exact hs) (hT.keep ((Only.refl [] w).alloc _))).mono ?_
  rintro e w' ⟨rfl, ho⟩
  exact ⟨by simp, only_nil ((Only.refl [] w).alloc _) ho⟩
set_option maxHeartbeats 8000000 in
theorem says_any (w : World) (x0 x1 : Int) (s : ByteArray) (l0 : 0 ≤ x0) (u0 : x0 ≤ 4294967295) (l1 : 0 ≤ x1) (u1 : x1 ≤ 255) (hs : s.size ≤ maxLen) (hT : Tab w) : Calls Tryd.prog 3 #[.int .u32 x0, .int .u8 x1, .string s] w fun e w' => e = .returned (.bool true) ∧ Below w.heap.size w w' := by
  obtain ⟨n, rfl⟩ : ∃ n : Nat, x0 = (n : Int) := ⟨x0.toNat, by omega⟩
  obtain ⟨b, rfl⟩ : ∃ b : Nat, x1 = (b : Int) := ⟨x1.toNat, by omega⟩
  have hn : Hid (n < 4294967296) := Lib.hid (by omega)
  have hb : Hid (b < 256) := Lib.hid (by omega)
  have hF : Hid (Calls Tryd.prog 6 #[.slice (some ⟨w.heap.size, 0, none⟩) 1 1] (w.alloc (.cells #[.string s] 9)) fun e w' => e = .returned (.bool (farS [s])) ∧ Only [] (w.alloc (.cells #[.string s] 9)) w') := Lib.hid (far_any (c := 1) (keys_one w s) (by simp) (by simp) (fun k hk => by rw [List.mem_singleton.1 hk]; exact hs))
  have o0 := Lib.hid (show Only [] w (w.alloc (.cells #[.string s] 9)) from (Only.refl [] w).alloc _)
  have hTH := Lib.hid hT
  clear l0 u0 l1 u1 hT
  cases hf : farS [s] with
  | true =>
    rw [hf] at hF
    clear hs hf
    go_enter Tryd.func3, Tryd.ntmps3
    go_wp2_with (first
      | (go_at_call 6; (with_reducible refine (hF.out).mono ?_); rintro e w1 ⟨rfl, o1⟩; have o1H := Lib.hid (only_nil o0.out o1); clear o1)
      | (go_at_call 7; (with_reducible refine (alive_any _ (hTH.out.keep o1H.out)).mono ?_); rintro e w2 ⟨rfl, o2⟩))
    go_ret
    exact ⟨rfl, (only_nil o1H.out o2).below (Nat.le_refl _) (by simp)⟩
  | false =>
    rw [hf] at hF
    have hsz := (farS_no hf).1 s (by simp)
    have hszH := Lib.hid hsz
    have hs6 : Hid (s.size ≤ 1099511627776) := Lib.hid (by omega)
    have hsm : Hid (s.size ≤ maxLen) := Lib.hid hs
    clear hs hf
    by_cases h4 : 4 ≤ s.size
    · have hd : decide ((4 : Int) ≤ (s.size : Int)) = true := decide_eq_true (by omega)
      have hw4 := wrap_small (x := (s.size : Int) - 4) (by omega)
      have hfb : Hid (fitsB s = ((sealB (s.extract 0 (s.size - 4))).toList == s.toList)) := Lib.hid (by unfold fitsB; rw [decide_eq_true h4]; rfl)
      have hpre : Hid ((s.extract 0 (s.size - 4)).size ≤ 1099511627776) := Lib.hid (by simp; omega)
      go_enter Tryd.func3, Tryd.ntmps3
      go_wp2_with (first
        | (go_at_call 6; (with_reducible refine (hF.out).mono ?_); rintro e w1 ⟨rfl, o1⟩; have o1H := Lib.hid (only_nil o0.out o1); have hR := Lib.hid (rseal_any (s.extract 0 (s.size - 4)) hpre.out w1); clear o1 hF)
        | (go_at_call 8; (with_reducible refine (hR.out).mono ?_); rintro e w2 ⟨rfl, o2⟩; have o2H := Lib.hid (only_nil o1H.out o2); clear o2 hR)
        | (go_at_call 9; (with_reducible refine (byte_any hn.out hb.out _ (hTH.out.keep o2H.out)).mono ?_); rintro e w3 ⟨rfl, o3⟩; have o3H := Lib.hid (only_nil o2H.out o3); clear o3)
        | (go_at_call 10; (with_reducible refine (rbyte_any hn.out hb.out _).mono ?_); rintro e w' ⟨rfl, rfl⟩)
        | (go_at_call 11; (with_reducible refine (more_any hn.out s hs6.out _ (hTH.out.keep o3H.out)).mono ?_); rintro e w4 ⟨rfl, o4⟩; have o4H := Lib.hid (only_nil o3H.out o4); have hOf := Lib.hid (of_one w4 s hs6.out (hTH.out.keep (only_nil o3H.out o4))); clear o4)
        | (go_at_call 12; (with_reducible refine (rmore_any hn.out s hsm.out _).mono ?_); rintro e w' ⟨rfl, rfl⟩)
        | (go_at_call 13; (with_reducible refine (hOf.out).mono ?_); rintro e w5 ⟨rfl, o5⟩; have o5H := Lib.hid (only_nil o4H.out o5); clear o5)
        | (go_at_call 14; (with_reducible refine (rof_any s hsm.out _).mono ?_); rintro e w' ⟨rfl, rfl⟩)
        | (go_at_call 15; (with_reducible refine (seal_any s hs6.out _ (hTH.out.keep o5H.out)).mono ?_); rintro e w6 ⟨rfl, o6⟩; have o6H := Lib.hid (only_nil o5H.out o6); clear o6)
        | (go_at_call 8; (with_reducible refine (rseal_any s hs6.out _).mono ?_); rintro e w7 ⟨rfl, o7⟩; have o7H := Lib.hid (only_nil o6H.out o7); have hFi := fits_any s hs6.out w7 (hTH.out.keep (only_nil o6H.out o7)); rw [hfb.out] at hFi; have hFiH := Lib.hid hFi; clear o7 hFi)
        | (go_at_call 16; (with_reducible refine (hFiH.out).mono ?_); rintro e w8 ⟨rfl, o8⟩; have o8H := Lib.hid (only_nil o7H.out o8); clear o8)
        | (go_at_call 7; (with_reducible refine (alive_any _ (hTH.out.keep o8H.out)).mono ?_); rintro e w9 ⟨rfl, o9⟩))
      go_ret
      exact ⟨rfl, (only_nil o8H.out o9).below (Nat.le_refl _) (by simp)⟩
    · have hd : decide ((4 : Int) ≤ (s.size : Int)) = false := decide_eq_false (by omega)
      have hfb : Hid (fitsB s = false) := Lib.hid (by unfold fitsB; rw [decide_eq_false h4]; rfl)
      go_enter Tryd.func3, Tryd.ntmps3
      go_wp2_with (first
        | (go_at_call 6; (with_reducible refine (hF.out).mono ?_); rintro e w1 ⟨rfl, o1⟩; have o1H := Lib.hid (only_nil o0.out o1); clear o1 hF)
        | (go_at_call 9; (with_reducible refine (byte_any hn.out hb.out _ (hTH.out.keep o1H.out)).mono ?_); rintro e w3 ⟨rfl, o3⟩; have o3H := Lib.hid (only_nil o1H.out o3); clear o3)
        | (go_at_call 10; (with_reducible refine (rbyte_any hn.out hb.out _).mono ?_); rintro e w' ⟨rfl, rfl⟩)
        | (go_at_call 11; (with_reducible refine (more_any hn.out s hs6.out _ (hTH.out.keep o3H.out)).mono ?_); rintro e w4 ⟨rfl, o4⟩; have o4H := Lib.hid (only_nil o3H.out o4); have hOf := Lib.hid (of_one w4 s hs6.out (hTH.out.keep (only_nil o3H.out o4))); clear o4)
        | (go_at_call 12; (with_reducible refine (rmore_any hn.out s hsm.out _).mono ?_); rintro e w' ⟨rfl, rfl⟩)
        | (go_at_call 13; (with_reducible refine (hOf.out).mono ?_); rintro e w5 ⟨rfl, o5⟩; have o5H := Lib.hid (only_nil o4H.out o5); clear o5)
        | (go_at_call 14; (with_reducible refine (rof_any s hsm.out _).mono ?_); rintro e w' ⟨rfl, rfl⟩)
        | (go_at_call 15; (with_reducible refine (seal_any s hs6.out _ (hTH.out.keep o5H.out)).mono ?_); rintro e w6 ⟨rfl, o6⟩; have o6H := Lib.hid (only_nil o5H.out o6); clear o6)
        | (go_at_call 8; (with_reducible refine (rseal_any s hs6.out _).mono ?_); rintro e w7 ⟨rfl, o7⟩; have o7H := Lib.hid (only_nil o6H.out o7); have hFi := fits_any s hs6.out w7 (hTH.out.keep (only_nil o6H.out o7)); rw [hfb.out] at hFi; have hFiH := Lib.hid hFi; clear o7 hFi)
        | (go_at_call 16; (with_reducible refine (hFiH.out).mono ?_); rintro e w8 ⟨rfl, o8⟩; have o8H := Lib.hid (only_nil o7H.out o8); clear o8)
        | (go_at_call 7; (with_reducible refine (alive_any _ (hTH.out.keep o8H.out)).mono ?_); rintro e w9 ⟨rfl, o9⟩))
      go_ret
      exact ⟨rfl, (only_nil o8H.out o9).below (Nat.le_refl _) (by simp)⟩
end Go.Proofs.YtbbhjhnfjkfklaaDoor
