/-
  Parts of a row that is written in place: cut off, emptied; the library's compacting of a row by the program's sameness of names. Premise: the row lies in a block that is written in place.
-/
import Derived.Test.YthdgfchmglkpaaaChecked
import Derived.Test.YthdgfchmglkpaaaMath
import Derived.Test.YthdgfchmglkpaaaA
import Derived.Test.YthdgfchmglkpaaaB
import Derived.Test.YthdgfchmglkpaaaC
import Derived.Test.YthdgfchmglkpaaaL
import Derived.Test.YthdgfchmglkpaaaVS
import Derived.Test.YthdgfchmglkpaaaVF
import Derived.WalkKit
import Derived.WalkSpells
import Derived.WalkLawsBesides
import Derived.Deep.QuietTactic
import Derived.BigQuiet
import Derived.Lib.Hide
import Derived.Lib.SmallJoins
import Derived.Outline
import Derived.OwnWalk
import Derived.Deep.CutBlock
import Derived.BigRegion
import Derived.StillTailTactics
import Derived.Laws.AppendOwnNone
import Derived.Maps.AppendAt
import Derived.Deep.RegionLaw
import Derived.Deep.RegionHeld3
import Derived.Lib.BufferRead
import Derived.Deep.AppendLies
import Derived.Lib.SliceRun
import Derived.Laws.CopyOwn
namespace Go.Proofs.Ythdgfchmglkpaaa
open Go.RowKit
theorem run_size3 (w : World) : (sizeOf (Try.prog.elem 22)).run Try.prog w = .ok 3 w := by
  obtain ⟨i, hi, _, hz, _⟩ := info_partsS info_file
  have hel : Try.prog.elem 22 = 39 := by kernel_rfl
  rw [hel]
  simp [sizeOf, typeInfo, hi, hz, Result.andThen]
theorem cut_from (g n cap k : Nat) (hk : k < n) (hn : n ≤ cap) (w : World) : (Instr.slice 22 (.slice (some ⟨g, 0, none⟩) n cap) (some (.int .i64 (k : Int))) none none).run Try.prog w = .ok (.slice (some ⟨g, k * 3, none⟩) (n - k) (cap - k)) w := by
  rw [run_slice_l (P := Try.prog) w 22 (some ⟨g, 0, none⟩) n cap (by kernel_rfl) .i64 (k : Int) (by omega) (by omega), run_size3]
  simp only [Int.toNat_natCast]
  show Result.ok (sliced (some ⟨g, 0, none⟩) k n cap 3) w = _
  unfold sliced
  rw [if_neg (by omega)]
  simp only [Option.map_some, add_zero]
theorem cut_to (g n cap k : Nat) (hk : k ≤ n) (hn : n ≤ cap) (w : World) : (Instr.slice 22 (.slice (some ⟨g, 0, none⟩) n cap) none (some (.int .i64 (k : Int))) none).run Try.prog w = .ok (.slice (some ⟨g, 0, none⟩) k cap) w := by
  rw [run_slice_h (P := Try.prog) w 22 (some ⟨g, 0, none⟩) n cap (by kernel_rfl) .i64 (k : Int) (by omega) (by omega), run_size3]
  simp only [Int.toNat_natCast]
  show Result.ok (sliced (some ⟨g, 0, none⟩) 0 k cap 3) w = _
  unfold sliced
  split <;> simp [Addr.add]
theorem run_ixC (g k i n c : Nat) (hi : i < n) (w : World) : Sem.run Try.prog (Instr.indexAt 22 (.slice (some ⟨g, k * 3, none⟩) n c) (.int .i64 (i : Int))) w = .ok (.pointer (some ⟨g, (k + i) * 3, none⟩)) w := by
  have h := run_ixF ⟨g, k * 3, none⟩ i n c hi w
  have e : (⟨g, k * 3, none⟩ : Addr).add (i * 3) = ⟨g, (k + i) * 3, none⟩ := by
    unfold Addr.add
    split
    · rename_i h0
      rw [show (k + i) * 3 = k * 3 by omega]
    · rw [show k * 3 + i * 3 = (k + i) * 3 by omega]
  rw [e] at h
  exact h
theorem zero_cells (n : Nat) : (Builtin.zeroCells (Value.agg #[.string ⟨#[]⟩, .string ⟨#[]⟩, .int .i64 0]).cells n).toList.length = n * 3 ∧ ∀ v ∈ (Builtin.zeroCells (Value.agg #[.string ⟨#[]⟩, .string ⟨#[]⟩, .int .i64 0]).cells n).toList, v.oneCell' = true := by
  have hc : (Value.agg #[.string ⟨#[]⟩, .string ⟨#[]⟩, .int .i64 0]).cells = #[.string ⟨#[]⟩, .string ⟨#[]⟩, .int .i64 0] := by simp [Value.cells]
  rw [hc]
  constructor
  · simp [Builtin.zeroCells]
  · intro v hv
    simp only [Builtin.zeroCells, Array.toList_map, List.mem_map] at hv
    obtain ⟨i, _, rfl⟩ := hv
    have : i % 3 = 0 ∨ i % 3 = 1 ∨ i % 3 = 2 := by omega
    rcases this with e | e | e <;> simp [e, Value.oneCell']
theorem run_clear_fl (w : World) (ty : TypeId) (g off n c : Nat) (C : Array Value) (hg : w.heap[g]? = some (.cells C 39 (0, 0))) (hfit : off + n * 3 ≤ C.size) :
    ∃ w', (Builtin.clear_ #[22] ty #[.slice (some ⟨g, off, none⟩) n c]).run Try.prog w = .ok (.tuple #[]) w' ∧ (∃ C', w'.heap[g]? = some (.cells C' 39 (0, 0)) ∧ C'.size = C.size ∧ C'.toList.take off = C.toList.take off) ∧ Only [g] w w' := by
  rcases Nat.eq_zero_or_pos n with rfl | hn
  · exact ⟨w, by simp [Builtin.clear_, run_underlying Try.underlying22], ⟨C, hg, rfl, rfl⟩, Only.refl _ _⟩
  · obtain ⟨hl, h1⟩ := zero_cells n
    generalize hZ : (Builtin.zeroCells (Value.agg #[.string ⟨#[]⟩, .string ⟨#[]⟩, .int .i64 0]).cells n).toList = Z at hl h1
    have hst := run_storeCells_at Try.prog g off 39 Z 0 C w hg (by omega) h1
    simp only [Nat.add_zero] at hst
    obtain ⟨m, rfl⟩ : ∃ m, n = m + 1 := ⟨n - 1, by omega⟩
    refine ⟨w.setRow g (C.toList.take off ++ Z ++ C.toList.drop (off + Z.length)).toArray, by simp [Builtin.clear_, run_underlying Try.underlying22, hZ, hst], ⟨_, setRow_heap w g _ _ _ _ hg, ?_, ?_⟩, (Only.refl _ _).row (Or.inl (by simp)) _⟩
    · simp; omega
    · simp only []
      rw [List.append_assoc, List.take_append_of_le_length (by simp; omega), List.take_take, Nat.min_self]
theorem flat_take (M : List Fl) (k : Nat) : (M.flatMap fcs).take (k * 3) = (M.take k).flatMap fcs := by
  have e : M.flatMap fcs = (M.take k).flatMap fcs ++ (M.drop k).flatMap fcs := by rw [← List.flatMap_append, List.take_append_drop]
  rcases Nat.lt_or_ge k M.length with h | h
  · rw [e, List.take_append_of_le_length (by rw [fcs_flat]; simp; omega), List.take_of_length_le (by rw [fcs_flat]; simp; omega)]
  · rw [List.take_of_length_le h, List.take_of_length_le (by rw [fcs_flat]; omega)]
theorem SRow.take {w w' : World} {g cap k : Nat} {M : List Fl} (h : SRow w g cap M) (hk : k ≤ M.length) {C : Array Value} (hg : w.heap[g]? = some (.cells C 39 (0, 0))) {C' : Array Value} (hg' : w'.heap[g]? = some (.cells C' 39 (0, 0))) (hs : C'.size = C.size) (ht : C'.toList.take (k * 3) = C.toList.take (k * 3)) : SRow w' g cap (M.take k) := by
  obtain ⟨h1, C0, h2, h3, h4⟩ := h
  rw [hg] at h2
  cases h2
  refine ⟨by simp; omega, C', hg', by rw [hs, h3], ?_⟩
  have e : (M.take k).length = k := by simp; omega
  rw [e, ht, ← flat_take, ← h4, List.take_take, Nat.min_eq_left (by omega)]
/-- 'clear' of the end of a row. -/
theorem wpList_clear_fl {w : World} {ops : Array Oper} {rest : List Oper} {o : Oper} {a : Act} {Q : Exit → Act → World → Prop} (hgd : o.guard = none) (x : Operand)
    (ho : o.op = .call { callee := .builtin .clear, args := #[x], argTypes := #[22] }) (g k n c cap : Nat) (M : List Fl) (hx : a.eval x = .slice (some ⟨g, k * 3, none⟩) n c) (hS : SRow w g cap M) (hk : k ≤ M.length) (hfit : k + n ≤ cap)
    (h : ∀ w', SRow w' g cap (M.take k) → Only [g] w w' → wpList Try.prog ops Q rest (a.put o.dst (.tuple #[])) w') : wpList Try.prog ops Q (o :: rest) a w := by
  refine wpList_plain hgd fun K hK => ?_
  have hS' := hS
  obtain ⟨_, C, h2, h3, _⟩ := hS'
  obtain ⟨w', hrun, ⟨C', c1, c2, c3⟩, ho'⟩ := run_clear_fl w o.type g (k * 3) n c C h2 (by omega)
  unfold Oper.wp execOp
  simp only [ho, resolve, invoke, builtin, Sem.run_bind, Sem.run_pure, Result.andThen_ok, List.map_toArray, List.map_cons, List.map_nil, hx, hrun]
  exact hK _ _ (h w' (hS.take hk h2 c1 c2 c3) ho')
/-- The program's sameness of names. -/
theorem count2_any (x y : Fl) (w : World) : Calls Try.prog 54 #[flV x, flV y] w fun e w' => e = .returned (.bool (decide (x.1 = y.1))) ∧ Below w.heap.size w w' := by
  obtain ⟨W, hW, z0, z1, kb⟩ := two_files w x y
  by_cases hk : x.1 = y.1
  · have hq : (x.1.toList == y.1.toList) = true := by rw [hk]; simp
    rw [decide_eq_true hk]
    clear hk
    go_enter Try.func54, Try.ntmps54
    go_upto_region 1 with fail
    rw [← hW]
    clear hW
    go_wp2_with fail
    go_ret
    exact ⟨rfl, kb⟩
  · have hq : (x.1.toList == y.1.toList) = false := key_ne hk
    rw [decide_eq_false hk]
    clear hk
    go_enter Try.func54, Try.ntmps54
    go_upto_region 1 with fail
    rw [← hW]
    clear hW
    go_wp2_with fail
    go_ret
    exact ⟨rfl, kb⟩
end Go.Proofs.Ythdgfchmglkpaaa
