/-
  The walks of the small functions: the nearest number, the limits, a line's end, a text written anew, a number of bytes gone past. No condition but that lengths are no longer than an int holds.
-/
import Derived.Test.YtjidopgohdlfdaaGreatDoorQA
import Derived.BigQuiet
import Derived.Deep.RegionHeld3
namespace Go.Proofs.YtjidopgohdlfdaaGreatDoor
open Go.RowKit Dec Pq S4

def inI64 (n : Int) : Prop := -9223372036854775808 ≤ n ∧ n ≤ 9223372036854775807
def endB (l : List UInt8) : Bool := endsF l == 0
def endE (l : List UInt8) : Int := if endsF l = 5 then 5 else 0
def betw (n lo hi : Int) : Int := min (max n lo) hi
theorem ret_i {a b : Int} (h : a = b) : Ending.returned (.int .i64 a) = .returned (.int .i64 b) := by rw [h]
theorem between_any (n lo hi : Int) (w : World) : Calls Tryz.prog 72 #[.int .i64 n, .int .i64 lo, .int .i64 hi] w fun e w' => e = .returned (.int .i64 (betw n lo hi)) ∧ w = w' := by
  go_enter Tryz.func72, Tryz.ntmps72
  go_wp2_with fail
  all_goals (go_ret; exact ⟨ret_i (by unfold betw; omega), rfl⟩)
theorem ended_any (s : ByteArray) (w : World) : Calls Tryz.prog 83 #[.string s] w fun e w' => e = .returned (.tuple #[.bool (endB s.data.toList), .int .i64 (endE s.data.toList)]) ∧ w = w' := by
  have key : (endsF s.data.toList = 0 ∧ Lib.hasPrefix s.data.toList [13, 10] = true) ∨ (endsF s.data.toList = -1 ∧ Lib.hasPrefix s.data.toList [13, 10] = false ∧ Lib.hasPrefix [13, 10] s.data.toList = true) ∨
      (endsF s.data.toList = 5 ∧ Lib.hasPrefix s.data.toList [13, 10] = false ∧ Lib.hasPrefix [13, 10] s.data.toList = false) := by
    match s.data.toList with
    | [] => exact Or.inr (Or.inl ⟨rfl, rfl, rfl⟩)
    | [c] =>
      by_cases hc : c = 13
      · subst hc; exact Or.inr (Or.inl ⟨rfl, rfl, rfl⟩)
      · have h1 : ((13 : UInt8) == c) = false := by simpa using Ne.symm hc
        have h2 : (c == (13 : UInt8)) = false := by simpa using hc
        refine Or.inr (Or.inr ⟨by rw [endsF, if_pos hc], ?_, ?_⟩)
        · simp [Lib.hasPrefix, List.isPrefixOf, h1]
        · simp [Lib.hasPrefix, List.isPrefixOf, h2]
    | c :: d :: t =>
      by_cases hc : c = 13
      · subst hc
        by_cases hd : d = 10
        · subst hd; exact Or.inl ⟨rfl, by simp [Lib.hasPrefix, List.isPrefixOf]⟩
        · have h1 : ((10 : UInt8) == d) = false := by simpa using Ne.symm hd
          have h2 : (d == (10 : UInt8)) = false := by simpa using hd
          refine Or.inr (Or.inr ⟨by rw [endsF, if_neg (by simp), lfE]; simp [hd], ?_, ?_⟩)
          · simp [Lib.hasPrefix, List.isPrefixOf, h1]
          · simp [Lib.hasPrefix, List.isPrefixOf, h2]
      · have h1 : ((13 : UInt8) == c) = false := by simpa using Ne.symm hc
        have h2 : (c == (13 : UInt8)) = false := by simpa using hc
        refine Or.inr (Or.inr ⟨by rw [endsF, if_pos hc], ?_, ?_⟩)
        · simp [Lib.hasPrefix, List.isPrefixOf, h1]
        · simp [Lib.hasPrefix, List.isPrefixOf, h2]
  rcases key with ⟨h, h1⟩ | ⟨h, h1, h2⟩ | ⟨h, h1, h2⟩
  · have p1 : ∀ w, Calls Tryz.prog 92 #[.string s, .string ⟨#[13, 10]⟩] w fun e w' => e = .returned (.bool true) ∧ w = w' := fun w => (Tryz.strings_HasPrefix s ⟨#[13, 10]⟩ w).mono fun e w' ⟨h3, h4⟩ => ⟨by rw [h3]; exact congrArg _ (congrArg _ h1), h4.symm⟩
    have hH := Lib.hid h
    clear h h1
    go_enter Tryz.func83, Tryz.ntmps83
    go_wp2_with (go_at_call 92; ((with_reducible refine (p1 _).mono ?_); rintro e w' ⟨rfl, rfl⟩))
    refine bodyPost_ret (v := .tuple #[.bool true, .int .i64 0]) (by simp [results, Tryz.results83, go_sem]) rfl ⟨?_, rfl⟩
    unfold endB endE; rw [hH.out]; rfl
  · have p1 : ∀ w, Calls Tryz.prog 92 #[.string s, .string ⟨#[13, 10]⟩] w fun e w' => e = .returned (.bool false) ∧ w = w' := fun w => (Tryz.strings_HasPrefix s ⟨#[13, 10]⟩ w).mono fun e w' ⟨h3, h4⟩ => ⟨by rw [h3]; exact congrArg _ (congrArg _ h1), h4.symm⟩
    have p2 : ∀ w, Calls Tryz.prog 92 #[.string ⟨#[13, 10]⟩, .string s] w fun e w' => e = .returned (.bool true) ∧ w = w' := fun w => (Tryz.strings_HasPrefix ⟨#[13, 10]⟩ s w).mono fun e w' ⟨h3, h4⟩ => ⟨by rw [h3]; exact congrArg _ (congrArg _ h2), h4.symm⟩
    have hH := Lib.hid h
    clear h h1 h2
    go_enter Tryz.func83, Tryz.ntmps83
    go_wp2_with (first
      | (go_at_call 92; ((with_reducible refine (p1 _).mono ?_); rintro e w' ⟨rfl, rfl⟩))
      | (go_at_call 92; ((with_reducible refine (p2 _).mono ?_); rintro e w' ⟨rfl, rfl⟩)))
    refine bodyPost_ret (v := .tuple #[.bool false, .int .i64 0]) (by simp [results, Tryz.results83, go_sem]) rfl ⟨?_, rfl⟩
    unfold endB endE; rw [hH.out]; rfl
  · have p1 : ∀ w, Calls Tryz.prog 92 #[.string s, .string ⟨#[13, 10]⟩] w fun e w' => e = .returned (.bool false) ∧ w = w' := fun w => (Tryz.strings_HasPrefix s ⟨#[13, 10]⟩ w).mono fun e w' ⟨h3, h4⟩ => ⟨by rw [h3]; exact congrArg _ (congrArg _ h1), h4.symm⟩
    have p2 : ∀ w, Calls Tryz.prog 92 #[.string ⟨#[13, 10]⟩, .string s] w fun e w' => e = .returned (.bool false) ∧ w = w' := fun w => (Tryz.strings_HasPrefix ⟨#[13, 10]⟩ s w).mono fun e w' ⟨h3, h4⟩ => ⟨by rw [h3]; exact congrArg _ (congrArg _ h2), h4.symm⟩
    have hH := Lib.hid h
    clear h h1 h2
    go_enter Tryz.func83, Tryz.ntmps83
    go_wp2_with (first
      | (go_at_call 92; ((with_reducible refine (p1 _).mono ?_); rintro e w' ⟨rfl, rfl⟩))
      | (go_at_call 92; ((with_reducible refine (p2 _).mono ?_); rintro e w' ⟨rfl, rfl⟩)))
    refine bodyPost_ret (v := .tuple #[.bool false, .int .i64 5]) (by simp [results, Tryz.results83, go_sem]) rfl ⟨?_, rfl⟩
    unfold endB endE; rw [hH.out]; rfl
theorem clone_any (s : ByteArray) (w : World) (hs : s.size ≤ 281474976710656) : Calls Tryz.prog 60 #[.string s] w fun e w' => e = .returned (.string s) ∧ Below w.heap.size w w' := by
  go_enter Tryz.func60, Tryz.ntmps60
  go_wp2_with (go_at_call 77; ((with_reducible refine (Tryz.stringslite_Clone s _ hs).mono ?_); rintro e w' ⟨rfl, hb⟩))
  go_ret
  exact ⟨rfl, hb⟩

/-! ### A number of bytes gone past -/
section
variable {W : World} {g : Nat} {rest : ByteArray} {u v : Value} {left size need A B L : Nat} {body : Bool}
theorem hold_facts (h : W.heap[g]? = some (.cells (hold rest u left size body need v A B L) 103 (0, 0))) :
    W.cell? ⟨g, 0, none⟩ = some (.string rest) ∧ W.cell? ⟨g, 1, none⟩ = some u ∧ W.cell? ⟨g, 2, none⟩ = some (.int .i64 left) ∧ W.cell? ⟨g, 3, none⟩ = some (.int .i64 size) ∧ W.cell? ⟨g, 4, none⟩ = some (.bool body) ∧
    W.cell? ⟨g, 5, none⟩ = some (.int .i64 need) ∧ W.cell? ⟨g, 6, none⟩ = some (.int .i64 0) ∧ W.cell? ⟨g, 7, none⟩ = some v ∧ W.cell? ⟨g, 8, none⟩ = some (.int .i64 A) ∧ W.cell? ⟨g, 9, none⟩ = some (.int .i64 B) ∧ W.cell? ⟨g, 10, none⟩ = some (.int .i64 L) ∧
    (W.frozen? ⟨g, 0, none⟩ = false ∧ W.frozen? ⟨g, 1, none⟩ = false ∧ W.frozen? ⟨g, 2, none⟩ = false ∧ W.frozen? ⟨g, 3, none⟩ = false ∧ W.frozen? ⟨g, 4, none⟩ = false ∧ W.frozen? ⟨g, 5, none⟩ = false ∧ W.frozen? ⟨g, 6, none⟩ = false ∧ W.frozen? ⟨g, 7, none⟩ = false) :=
  ⟨Lib.cell_of_heap h 0, Lib.cell_of_heap h 1, Lib.cell_of_heap h 2, Lib.cell_of_heap h 3, Lib.cell_of_heap h 4, Lib.cell_of_heap h 5, Lib.cell_of_heap h 6, Lib.cell_of_heap h 7, Lib.cell_of_heap h 8, Lib.cell_of_heap h 9, Lib.cell_of_heap h 10,
    Lib.frozen_of_heap h 0, Lib.frozen_of_heap h 1, Lib.frozen_of_heap h 2, Lib.frozen_of_heap h 3, Lib.frozen_of_heap h 4, Lib.frozen_of_heap h 5, Lib.frozen_of_heap h 6, Lib.frozen_of_heap h 7⟩
set_option maxRecDepth 100000 in
theorem pass_any (n : Nat) (h : W.heap[g]? = some (.cells (hold rest u left size body need v A B L) 103 (0, 0))) (hn : n ≤ rest.size) (hs : size + n ≤ 1000000000) :
    Calls Tryz.prog 84 #[.pointer (some ⟨g, 0, none⟩), .int .i64 n] W fun e w' => e = .returned (.tuple #[]) ∧ (W.setCell ⟨g, 0, none⟩ (.string (rest.extract n rest.size))).setCell ⟨g, 3, none⟩ (.int .i64 ((size : Int) + n)) = w' := by
  obtain ⟨c0, c1, c2, c3, c4, c5, c6, c7, c8, c9, c10, f0, f1, f2, f3, f4, f5, f6, f7⟩ := hold_facts h
  clear h c1 c2 c4 c5 c6 c7 c8 c9 c10 f1 f2 f4 f5 f6 f7
  go_enter Tryz.func84, Tryz.ntmps84
  go_wp2_with fail
  go_end0
  exact ⟨rfl, rfl⟩
theorem pass_hold (n : Nat) (h : W.heap[g]? = some (.cells (hold rest u left size body need v A B L) 103 (0, 0))) :
    ((W.setCell ⟨g, 0, none⟩ (.string (rest.extract n rest.size))).setCell ⟨g, 3, none⟩ (.int .i64 ((size : Int) + n))).heap[g]? = some (.cells (hold (rest.extract n rest.size) u left (size + n) body need v A B L) 103 (0, 0)) := by
  simp [World.setCell, Array.getElem?_modify, h, hold]
end
end Go.Proofs.YtjidopgohdlfdaaGreatDoor
