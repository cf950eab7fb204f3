/-
  The walks that go by a decimal. A premise where a number's text is made: the library's table of powers of ten holds what its initialiser lays.
-/
import Derived.Test.YtjidopgohdlfdaaGreatDoorWalksB
import Derived.Lib.ItoaLen
namespace Go.Proofs.YtjidopgohdlfdaaGreatDoor
open Go.RowKit Dec

theorem ret_str {a b : ByteArray} (h : a = b) : Ending.returned (.string a) = .returned (.string b) := by rw [h]
theorem bytes_eq {a b : ByteArray} (h : a.data.toList = b.data.toList) : a = b := ByteArray.ext (Array.toList_inj.1 h)
theorem digit_fin : ∀ d : Fin 10, ((⟨#[48, 49, 50, 51, 52, 53, 54, 55, 56, 57]⟩ : ByteArray).data.toList.drop d.val).take (d.val + 1 - d.val) = [UInt8.ofNat (48 + d.val)] := by decide +kernel
theorem digit_piece (d : Nat) (h : d < 10) : ((⟨#[48, 49, 50, 51, 52, 53, 54, 55, 56, 57]⟩ : ByteArray).extract d (d + 1)).data.toList = [UInt8.ofNat (48 + d)] := by
  rw [Lib.extract_data]; exact digit_fin ⟨d, h⟩
theorem append_data (a b : ByteArray) : (a ++ b).data.toList = a.data.toList ++ b.data.toList := by simp

set_option maxHeartbeats 1000000 in
theorem rdigits_small (m : Nat) (w : World) (h : m < 10) :
    Calls Tryz.prog 70 #[.int .i64 (-(m : Int))] w fun e w' => e = .returned (.string ⟨(Lib.decDigits m).toArray⟩) ∧ ∃ n, w' = w.drewN n := by
  have e1 : (-(m : Int)).tmod 10 = -(m : Int) := by rw [Int.neg_tmod, Int.tmod_eq_emod_of_nonneg (by omega)]; omega
  go_enter Tryz.func70, Tryz.ntmps70
  go_wp2_with fail
  go_ret
  exact ⟨ret_str (bytes_eq (by rw [digit_piece m h, Lib.decDigits_one h])), 0, rfl⟩

set_option maxHeartbeats 1000000 in
theorem rdigits_any (k : Nat) : ∀ (u : Nat) (w : World), u ≤ k → u ≤ 9223372036854775808 →
    Calls Tryz.prog 70 #[.int .i64 (-(u : Int))] w fun e w' => e = .returned (.string ⟨(Lib.decDigits u).toArray⟩) ∧ ∃ n, w' = w.drewN n := by
  induction k with
  | zero =>
    intro u w hk hu
    exact rdigits_small u w (by omega)
  | succ k ih =>
    intro u w hk hu
    obtain ⟨q, d, hd, hm⟩ : ∃ q d : Nat, d < 10 ∧ 10 * q + d = u := ⟨u / 10, u % 10, by omega, by omega⟩
    by_cases h10 : u < 10
    · exact rdigits_small u w h10
    · have e1 : (-(u : Int)).tmod 10 = -(d : Int) := by rw [Int.neg_tmod, Int.tmod_eq_emod_of_nonneg (by omega)]; omega
      have e2 : (-(u : Int)).tdiv 10 = -(q : Int) := by rw [Int.neg_tdiv, Int.tdiv_eq_ediv_of_nonneg (by omega)]; omega
      have hU : Hid (Lib.decDigits u = Lib.decDigits q ++ [UInt8.ofNat (48 + d)]) := Lib.hid (by
        rw [Lib.decDigits, dif_neg h10, show u / 10 = q by omega, show u % 10 = d by omega])
      have hM := Lib.hid hm
      have hqk : q ≤ k := by omega
      have hq2 : q ≤ 9223372036854775808 := by omega
      clear hm
      have f1 : IntKind.i64.wrap ((d : Int) + 1) = (d : Int) + 1 := IntWalk.i64_in _ (by omega)
      have f2 : (0 : Int) ≤ (d : Int) + 1 := by omega
      have f3 : ((d : Int) + 1).toNat = d + 1 := by omega
      have f5 : (d : Int) + 1 ≤ 10 := by omega
      have f6 : (d : Int) ≤ (d : Int) + 1 := by omega
      have hl : (Lib.decDigits q).length ≤ 20 := by rw [Lib.decDigits_length]; exact Lib.nDigits_le20 q (by omega)
      have f7 : ¬ 9223372036854775807 < (Lib.decDigits q).length + (min (d + 1) 10 - d) := by omega
      have f4 : IntKind.i64.wrap (-(q : Int)) = -(q : Int) := IntWalk.i64_in _ (by omega)
      go_enter Tryz.func70, Tryz.ntmps70
      go_wp2_with fail
      go_quiet ((go_at_call 70; exact Calls.quiet_of (ih q _ hqk hq2)))
      clear f1 f2 f3 f4 f5 f6 f7
      go_wp2_with fail
      go_ret
      exact ⟨ret_str (bytes_eq (by rw [append_data, digit_piece d hd, hU.out])), _, rfl⟩

theorem drewN_below (w : World) (n : Nat) : Below w.heap.size w (w.drewN n) := by
  have := Lib.below_grow w.heap.size w (Nat.le_refl _) n #[]
  simpa using this

set_option maxHeartbeats 1000000 in
theorem rtext_any (n : Int) (w : World) (h0 : -9223372036854775808 ≤ n) (h1 : n ≤ 9223372036854775807) :
    Calls Tryz.prog 54 #[.int .i64 n] w fun e w' => e = .returned (.string (dec n)) ∧ Below w.heap.size w w' := by
  by_cases hn : n < 0
  · obtain ⟨u, hu1, rfl⟩ : ∃ u : Nat, 1 ≤ u ∧ n = -(u : Int) := ⟨n.natAbs, by omega, by omega⟩
    have hl : (Lib.decDigits u).length ≤ 20 := by rw [Lib.decDigits_length]; exact Lib.nDigits_le20 u (by omega)
    go_enter Tryz.func54, Tryz.ntmps54
    go_wp2_with (go_at_call 70; refine (rdigits_any u u _ (Nat.le_refl _) (by omega)).mono ?_; rintro e w' ⟨rfl, k, rfl⟩)
    go_ret
    exact ⟨ret_str (bytes_eq (by rw [append_data, dec_data, itoa_neg u hu1]; simp)), drewN_below _ _⟩
  · obtain ⟨u, rfl⟩ : ∃ u : Nat, n = (u : Int) := ⟨n.toNat, by omega⟩
    have hl : (Lib.decDigits u).length ≤ 20 := by rw [Lib.decDigits_length]; exact Lib.nDigits_le20 u (by omega)
    go_enter Tryz.func54, Tryz.ntmps54
    go_wp2_with (go_at_call 70; refine (rdigits_any u u _ (Nat.le_refl _) (by omega)).mono ?_; rintro e w' ⟨rfl, k, rfl⟩)
    go_ret
    exact ⟨ret_str (bytes_eq (by rw [dec_data, itoa_nat u])), drewN_below _ _⟩

end Go.Proofs.YtjidopgohdlfdaaGreatDoor
