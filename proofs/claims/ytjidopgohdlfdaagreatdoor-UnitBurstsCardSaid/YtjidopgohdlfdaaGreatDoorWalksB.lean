/-
  The walks of package num's other functions, and of what the document's answers are reckoned by. A premise where a number's text is made: the library's table of powers of ten holds what its initialiser lays.
-/
import Derived.Test.YtjidopgohdlfdaaGreatDoorWalks
import Derived.Test.YtjidopgohdlfdaaGreatDoorShelf
import Derived.Lib.AppendIntMem
namespace Go.Proofs.YtjidopgohdlfdaaGreatDoor
open Go.RowKit Dec

def Tab (w : World) : Prop := Lib.TabIs Tryz.prog w "internal/strconv.uint64pow10" .u64 Lib.pow10Tab
theorem Tab.on {w w' : World} (h : Tab w) (hb : Below w.heap.size w w') : Tab w' := Lib.tabBelow_of_tabIs h w' hb

/-- A decimal as a text. -/
def dec (n : Int) : ByteArray := ⟨(Lib.itoa n).toArray⟩
theorem dec_data (n : Int) : (dec n).data.toList = Lib.itoa n := by simp [dec]

def fits (n : Int) : Bool := decide (-9223372036854775808 ≤ n) && decide (n ≤ 9223372036854775807)
theorem fits_yes {n : Int} (h0 : -9223372036854775808 ≤ n) (h1 : n ≤ 9223372036854775807) : fits n = true := by simp [fits, h0, h1]
theorem fits_no {n : Int} (h : n < -9223372036854775808 ∨ 9223372036854775807 < n) : fits n = false := by
  simp [fits]; omega
def held (n : Int) : Int := if fits n then n else 0
theorem held_yes {n : Int} (h0 : -9223372036854775808 ≤ n) (h1 : n ≤ 9223372036854775807) : held n = n := by simp [held, fits_yes h0 h1]
theorem held_no {n : Int} (h : n < -9223372036854775808 ∨ 9223372036854775807 < n) : held n = 0 := by simp [held, fits_no h]

set_option maxHeartbeats 1000000 in
theorem sub_any (a b : Int) (w : World) (a0 : -9223372036854775808 ≤ a) (a1 : a ≤ 9223372036854775807) (b0 : -9223372036854775808 ≤ b) (b1 : b ≤ 9223372036854775807) :
    Calls Tryz.prog 115 #[.int .i64 a, .int .i64 b] w fun e w' => e = .returned (.tuple #[.int .i64 (held (a - b)), .bool (fits (a - b))]) ∧ w' = w := by
  rcases Int.lt_trichotomy b 0 with hb | hb | hb
  · by_cases hc : -9223372036854775808 ≤ a - b ∧ a - b ≤ 9223372036854775807
    · obtain ⟨c1, c2⟩ := hc
      rw [held_yes c1 c2, fits_yes c1 c2]
      go_enter Tryz.func115, Tryz.ntmps115
      go_wp2
      all_goals (go_ret2; exact ⟨rfl, rfl⟩)
    · have hc' : a - b < -9223372036854775808 ∨ 9223372036854775807 < a - b := by omega
      rw [held_no hc', fits_no hc']
      go_enter Tryz.func115, Tryz.ntmps115
      go_wp2
      all_goals (go_ret2; exact ⟨rfl, rfl⟩)
  · have c1 : -9223372036854775808 ≤ a - b := by omega
    have c2 : a - b ≤ 9223372036854775807 := by omega
    rw [held_yes c1 c2, fits_yes c1 c2]
    go_enter Tryz.func115, Tryz.ntmps115
    go_wp2
    all_goals (go_ret2; exact ⟨ret_two (by omega) rfl, rfl⟩)
  · by_cases hc : -9223372036854775808 ≤ a - b ∧ a - b ≤ 9223372036854775807
    · obtain ⟨c1, c2⟩ := hc
      rw [held_yes c1 c2, fits_yes c1 c2]
      go_enter Tryz.func115, Tryz.ntmps115
      go_wp2
      all_goals (go_ret2; exact ⟨rfl, rfl⟩)
    · have hc' : a - b < -9223372036854775808 ∨ 9223372036854775807 < a - b := by omega
      rw [held_no hc', fits_no hc']
      go_enter Tryz.func115, Tryz.ntmps115
      go_wp2
      all_goals (go_ret2; exact ⟨rfl, rfl⟩)

theorem ret_int {k : IntKind} {a b : Int} (h : a = b) : Ending.returned (.int k a) = .returned (.int k b) := by rw [h]
end Go.Proofs.YtjidopgohdlfdaaGreatDoor
