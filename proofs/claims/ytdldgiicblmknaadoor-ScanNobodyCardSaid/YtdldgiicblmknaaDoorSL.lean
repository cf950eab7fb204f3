/-
  The walk of the law of a table that is none. The table of factors holds what the program's text lays.
-/
import Derived.Test.YtdldgiicblmknaaDoorSK
namespace Go.Proofs.YtdldgiicblmknaaDoor
open Go.RowKit

set_option maxHeartbeats 1000000 in
theorem nobody_law (c : Nat) (hc : c < 18446744073709551616) (count : Int) (w : World) (hF : Fac w) (hz : 0 < w.heap.size) :
    Calls Tryd.prog 6 #[.int .u64 c, .int .i64 count] w fun e w' => e = .returned (.bool true) ∧ Below w.heap.size w w' := by
  have hal := Lib.hid (alive_any w hF hz)
  clear hF hz
  go_enter Tryd.func6, Tryd.ntmps6
  go_wp2_with (first
    | (go_at_call 13; ((with_reducible refine (turn_nil c hc _).mono ?_); rintro r w1 ⟨rfl, rfl⟩))
    | (go_at_call 15; ((with_reducible refine (scan_nil c hc count _).mono ?_); rintro r w1 ⟨rfl, rfl⟩))
    | (go_at_call 17; ((with_reducible refine (pick_nil c _).mono ?_); rintro r w1 ⟨rfl, rfl⟩))
    | (go_at_call 8; ((with_reducible refine (hal.out).mono ?_); rintro r w1 ⟨rfl, hb⟩)))
  go_ret
  exact ⟨rfl, hb⟩

end Go.Proofs.YtdldgiicblmknaaDoor
