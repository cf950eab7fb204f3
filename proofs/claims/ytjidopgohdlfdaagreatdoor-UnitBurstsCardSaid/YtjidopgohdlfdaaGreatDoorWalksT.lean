/-
  The walk of a number's decimal. A premise: the library's table of powers of ten holds what its initialiser lays.
-/
import Derived.Test.YtjidopgohdlfdaaGreatDoorWalksB
namespace Go.Proofs.YtjidopgohdlfdaaGreatDoor
open Go.RowKit Dec

theorem text_any (n : Int) (w : World) (h0 : -9223372036854775808 ≤ n) (h1 : n ≤ 9223372036854775807) (ht : Hid (Tab w)) :
    Calls Tryz.prog 68 #[.int .i64 n] w fun e w' => e = .returned (.string (dec n)) ∧ Below w.heap.size w w' := by
  go_enter Tryz.func68, Tryz.ntmps68
  go_wp2_with (go_at_call 81; refine (Tryz.strconv_FormatInt_10 n h0 h1 _ ht.out).mono ?_; rintro e w' ⟨rfl, k, os, rfl⟩)
  go_ret
  exact ⟨rfl, Lib.below_grow _ _ (Nat.le_refl _) _ _⟩
end Go.Proofs.YtjidopgohdlfdaaGreatDoor
