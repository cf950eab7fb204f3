/-
  The program's small functions on disks: within, safe, failed, and the function literals by which a file or a fault is found. Premises: what is asked of lies in memory.
-/
import Derived.Test.YthdgfchmglkpaaaChecked
import Derived.Test.YthdgfchmglkpaaaMath
import Derived.Test.YthdgfchmglkpaaaA
import Derived.Test.YthdgfchmglkpaaaB
import Derived.WalkKit
import Derived.WalkSpells
import Derived.WalkLawsBesides
import Derived.Deep.QuietTactic
import Derived.BigQuiet
import Derived.Lib.Hide
import Derived.Lib.SmallJoins
import Derived.Outline
import Derived.OwnWalk
import Derived.Deep.CutBlock
import Derived.BigRegion
import Derived.StillTailTactics
import Derived.Laws.AppendOwnNone
import Derived.Maps.AppendAt
import Derived.Deep.RegionLaw
import Derived.Deep.RegionHeld3
import Derived.Lib.BufferRead
import Derived.Deep.AppendLies
namespace Go.Proofs.Ythdgfchmglkpaaa
open Go.RowKit
theorem within_any (n m : Int) (hm : 0 ≤ m) (w : World) : Calls Try.prog 38 #[.int .i64 n, .int .i64 m] w fun e w' => e = .returned (.int .i64 (betw n m)) ∧ w = w' := by
  go_enter Try.func38, Try.ntmps38
  go_wp2_with fail
  all_goals go_ret
  all_goals exact ⟨ret_int (by unfold betw; repeat' split <;> omega), rfl⟩
theorem pfailed_any (b : Bool) (w : World) : Calls Try.prog 40 #[.bool b] w fun e w' => e = .returned (.int .i64 (if b = true then 15 else 0)) ∧ w = w' := by
  cases b with
  | true =>
    go_enter Try.func40, Try.ntmps40
    go_wp2_with fail
    go_ret
    exact ⟨rfl, rfl⟩
  | false =>
    go_enter Try.func40, Try.ntmps40
    go_wp2_with fail
    go_ret
    exact ⟨rfl, rfl⟩
theorem box1 {w : World} (f : Fl) : (w.alloc (.cells #[.string f.1, .string f.2.1, .int .i64 f.2.2] 39)).heap[w.heap.size]? = some (.cells #[.string f.1, .string f.2.1, .int .i64 f.2.2] 39 (0, 0)) := heap_alloc_new w _
theorem psafe1_any (f : Fl) (w : World) : Calls Try.prog 36 #[.agg #[.string f.1, .string f.2.1, .int .i64 f.2.2]] w fun e w' => e = .returned (.int .i64 (betw f.2.2 (f.2.1.size : Int))) ∧ Below w.heap.size w w' := by
  obtain ⟨z0, z1, z2, -, -, -⟩ := three (box1 (w := w) f)
  have hW := Lib.hid (fun X => within_any f.2.2 (f.2.1.size : Int) (by omega) X)
  go_enter Try.func36, Try.ntmps36
  go_wp2_with (go_at_call 38; (with_reducible refine (hW.out _).mono ?_); rintro e w3 ⟨rfl, rfl⟩)
  go_ret
  exact ⟨rfl, box_below⟩
/-- The function literals: whether a file's name is the one that was told. -/
theorem place1_any (f : Fl) (k : ByteArray) (b : Nat) (w : World) (hb : w.cell? ⟨b, 0, none⟩ = some (.string k)) :
    Calls Try.prog 48 #[.agg #[.string f.1, .string f.2.1, .int .i64 f.2.2], .pointer (some ⟨b, 0, none⟩)] w fun e w' => e = .returned (.bool (decide (f.1 = k))) ∧ Below w.heap.size w w' := by
  obtain ⟨z0, z1, z2, -, -, -⟩ := three (box1 (w := w) f)
  have hb2 := cell_past hb (.cells #[.string f.1, .string f.2.1, .int .i64 f.2.2] 39)
  by_cases hk : f.1 = k
  · have hq : (f.1.toList == k.toList) = true := by rw [hk]; simp
    rw [decide_eq_true hk]
    clear hk
    go_enter Try.func48, Try.ntmps48
    go_wp2_with fail
    go_ret
    exact ⟨rfl, box_below⟩
  · have hq : (f.1.toList == k.toList) = false := key_ne hk
    rw [decide_eq_false hk]
    clear hk
    go_enter Try.func48, Try.ntmps48
    go_wp2_with fail
    go_ret
    exact ⟨rfl, box_below⟩
theorem boxT {w : World} (f : Ft) : (w.alloc (.cells #[.string f.1, .int .i64 f.2.1, .int .i64 f.2.2] 70)).heap[w.heap.size]? = some (.cells #[.string f.1, .int .i64 f.2.1, .int .i64 f.2.2] 70 (0, 0)) := heap_alloc_new w _
theorem meet1_any (f : Ft) (k : ByteArray) (kd : Int) (b c : Nat) (w : World) (hb : w.cell? ⟨b, 0, none⟩ = some (.string k)) (hc : w.cell? ⟨c, 0, none⟩ = some (.int .i64 kd)) :
    Calls Try.prog 56 #[.agg #[.string f.1, .int .i64 f.2.1, .int .i64 f.2.2], .pointer (some ⟨c, 0, none⟩), .pointer (some ⟨b, 0, none⟩)] w fun e w' => e = .returned (.bool (decide (f.1 = k ∧ f.2.1 = kd))) ∧ Below w.heap.size w w' := by
  obtain ⟨z0, z1, z2, -, -, -⟩ := three (boxT (w := w) f)
  have hb2 := cell_past hb (.cells #[.string f.1, .int .i64 f.2.1, .int .i64 f.2.2] 70)
  have hc2 := cell_past hc (.cells #[.string f.1, .int .i64 f.2.1, .int .i64 f.2.2] 70)
  by_cases hd : f.2.1 = kd
  · subst hd
    have d1 : (f.2.1 == f.2.1) = true := by simp
    have d2 : decide (f.2.1 = f.2.1) = true := by simp
    by_cases hk : f.1 = k
    · have hq : (f.1.toList == k.toList) = true := by rw [hk]; simp
      rw [decide_eq_true ⟨hk, rfl⟩]
      clear hk
      go_enter Try.func56, Try.ntmps56
      go_wp2_with fail
      go_ret
      exact ⟨rfl, box_below⟩
    · have hq : (f.1.toList == k.toList) = false := key_ne hk
      rw [decide_eq_false (fun e => hk e.1)]
      clear hk
      go_enter Try.func56, Try.ntmps56
      go_wp2_with fail
      go_ret
      exact ⟨rfl, box_below⟩
  · have d1 : (f.2.1 == kd) = false := beq_false_of_ne hd
    have d2 : decide (f.2.1 = kd) = false := decide_eq_false hd
    rw [decide_eq_false (fun e => hd e.2)]
    clear hd
    go_enter Try.func56, Try.ntmps56
    go_wp2_with fail
    go_ret
    exact ⟨rfl, box_below⟩
end Go.Proofs.Ythdgfchmglkpaaa
