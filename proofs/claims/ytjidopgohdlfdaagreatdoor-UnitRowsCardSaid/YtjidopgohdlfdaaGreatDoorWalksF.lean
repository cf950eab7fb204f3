/-
  The walk of the reading between bounds. A premise: the text is no longer than an int holds.
-/
import Derived.Test.YtjidopgohdlfdaaGreatDoorWalksD
namespace Go.Proofs.YtjidopgohdlfdaaGreatDoor
open Go.RowKit Dec

def rdN (n : Int) (b : Bool) (lo hi : Int) : Int := if b then (if n < lo ∨ hi < n then 0 else n) else 0
def rdE (n : Int) (b : Bool) (lo hi : Int) : Int := if b then (if n < lo ∨ hi < n then 3 else 0) else 2

set_option maxHeartbeats 1000000 in
theorem read_any (s : ByteArray) (lo hi : Int) (w : World) (hs : s.size ≤ maxLen) :
    Calls Tryz.prog 93 #[.string s, .int .i64 lo, .int .i64 hi] w fun e w' =>
      e = .returned (.tuple #[.int .i64 (rdN (parN s.data.toList) (parB s.data.toList) lo hi), .int .i64 (rdE (parN s.data.toList) (parB s.data.toList) lo hi)]) ∧ w' = w := by
  unfold rdN rdE
  cases hb : parB s.data.toList with
  | false =>
    go_enter Tryz.func93, Tryz.ntmps93
    go_wp2_with (go_at_call 103; refine (parse_any s _ hs).mono ?_; rintro e w' ⟨rfl, rfl⟩)
    go_ret2
    exact ⟨rfl, rfl⟩
  | true =>
    by_cases hr : parN s.data.toList < lo ∨ hi < parN s.data.toList
    · rw [if_pos rfl, if_pos rfl, if_pos hr, if_pos hr]
      go_enter Tryz.func93, Tryz.ntmps93
      go_wp2_with (go_at_call 103; refine (parse_any s _ hs).mono ?_; rintro e w' ⟨rfl, rfl⟩)
      all_goals (go_ret2; exact ⟨rfl, rfl⟩)
    · rw [if_pos rfl, if_pos rfl, if_neg hr, if_neg hr]
      go_enter Tryz.func93, Tryz.ntmps93
      go_wp2_with (go_at_call 103; refine (parse_any s _ hs).mono ?_; rintro e w' ⟨rfl, rfl⟩)
      all_goals (go_ret2; exact ⟨rfl, rfl⟩)
end Go.Proofs.YtjidopgohdlfdaaGreatDoor
