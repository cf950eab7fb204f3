/-
  How calls and rows of calls that are handed over are opened: what is read of them. No condition.
-/
import Derived.Test.YtbaghdfalhlhcaaFrame
import Derived.Test.YtbaghdfalhlhcaaU
namespace Go.Proofs.Ytbaghdfalhlhcaa
open Go.RowKit Go.ChangeShapes Go.WideShapes Go.Deep

def inI64 (n : Int) : Prop := -9223372036854775808 ≤ n ∧ n ≤ 9223372036854775807
theorem cellsOp : Try.prog.cellsOf 29 = 3 := by kernel_rfl
theorem bytesOp : Try.prog.bytesOf 29 = 32 := by kernel_rfl
theorem cellsInt : Try.prog.cellsOf 3 = 1 := by kernel_rfl
theorem cellsInt64 : Try.prog.cellsOf 2 = 1 := by kernel_rfl
theorem cellsStr : Try.prog.cellsOf 9 = 1 := by kernel_rfl
theorem list_of {α : Type} {Q : Nat → α → Prop} : ∀ (n : Nat), (∀ i, i < n → ∃ y, Q i y) → ∃ l : List α, l.length = n ∧ ∀ i y, l[i]? = some y → Q i y
  | 0, _ => ⟨[], rfl, fun i y h => by simp at h⟩
  | n + 1, h => by
    obtain ⟨l, hl, hq⟩ := list_of n fun i hi => h i (by omega)
    obtain ⟨y, hy⟩ := h n (by omega)
    refine ⟨l ++ [y], by simp [hl], fun i z hz => ?_⟩
    by_cases hi : i < n
    · rw [List.getElem?_append_left (by omega)] at hz
      exact hq i z hz
    · rw [List.getElem?_append_right (by omega), hl] at hz
      have hin : i = n := by
        rcases Nat.lt_or_ge n i with hlt | hge
        · rw [List.getElem?_eq_none (by simp; omega)] at hz; cases hz
        · omega
      subst hin
      simp at hz
      subst hz
      exact hy
set_option maxRecDepth 100000 in
theorem wf64 {n : Int} (h : (Lit.int .i64 n).wf = true) : inI64 n := by
  simp [Lit.wf, IntKind.min, IntKind.max, IntKind.signed, IntKind.bits] at h
  unfold inI64
  omega
theorem add_far {p : Addr} {j : Nat} (hj : 0 < j) : p.add j = ⟨p.block, p.off + j, none⟩ := by unfold Addr.add; rw [if_neg (by omega)]
/-- What a call's cells hold. -/
theorem op_of {H : Type} {enc : TypeId × Value → H} {W : World} {fuel : Nat} {cs : List Value} {x : DataW H × List MemPlace} (h : DataW.trod enc Try.prog W 0 (fun _ => true) true fuel 29 cs = some x) :
    ∃ o : OpT, cs = [.int .i64 o.1, .string o.2.1, .int .i64 o.2.2] ∧ x.2 = [] ∧ o.2.1.size ≤ maxLen ∧ inI64 o.1 ∧ inI64 o.2.2 := by
  obtain ⟨xs, m, hm, rfl, hl, hlen, hf⟩ := DataW.trod_struct Try.underlying29 h
  rw [cellsOp] at hl
  match cs, hl with
  | [c0, c1, c2], _ =>
  match xs, hlen with
  | [y0, y1, y2], _ =>
  have g0 : DataW.trod enc Try.prog W 0 (fun _ => true) true m 3 [c0] = some y0 := by simpa [cellsInt] using hf 0 _ rfl
  have g1 : DataW.trod enc Try.prog W 0 (fun _ => true) true m 9 [c1] = some y1 := by simpa [cellsStr] using hf 1 _ rfl
  have g2 : DataW.trod enc Try.prog W 0 (fun _ => true) true m 2 [c2] = some y2 := by simpa [cellsInt64] using hf 2 _ rfl
  clear hf h
  obtain ⟨kd, k1, rfl, k3⟩ := DataW.trod_int Try.underlying3 g0
  obtain ⟨b, b1, rfl, b3⟩ := DataW.trod_string Try.underlying9 g1
  obtain ⟨i, i1, rfl, i3⟩ := DataW.trod_int Try.underlying2 g2
  simp only [List.cons.injEq, and_true] at k1 b1 i1
  subst k1 b1 i1
  exact ⟨(kd, b, i), rfl, by simp, b3, wf64 k3, wf64 i3⟩
theorem op_at {H : Type} {enc : TypeId × Value → H} {W : World} {fuel : Nat} {a : Addr} {cs : List Value} {x : DataW H × List MemPlace} (hc : W.cells? 0 a 3 = some cs) (h : DataW.trod enc Try.prog W 0 (fun _ => true) true fuel 29 cs = some x) :
    ∃ o : OpT, a.block < W.heap.size ∧ W.cell? a = some (.int .i64 o.1) ∧ W.cell? ⟨a.block, a.off + 1, none⟩ = some (.string o.2.1) ∧ W.cell? ⟨a.block, a.off + 2, none⟩ = some (.int .i64 o.2.2) ∧ o.2.1.size ≤ maxLen ∧ inI64 o.1 ∧ inI64 o.2.2 := by
  obtain ⟨o, rfl, _, k1, k2, k3⟩ := op_of h
  obtain ⟨_, _, h7⟩ := World.cells?_some hc
  have z0 : W.cell? a = some (.int .i64 o.1) := by simpa [Addr.add] using h7 0 (by omega)
  have z1 := h7 1 (by omega)
  have z2 := h7 2 (by omega)
  rw [add_far (by omega)] at z1 z2
  exact ⟨o, block_lt_of_cell z0, z0, z1, z2, k1, k2, k3⟩
theorem ops_read {H : Type} {enc : TypeId × Value → H} {W : World} {v : Value} {fuel : Nat} {x : DataW H × List MemPlace} (h : DataW.trod enc Try.prog W 0 (fun _ => true) true fuel 22 [v] = some x) (hw : ∀ n ∈ x.1.weights Try.prog 22, n ≤ reachBytes) :
    ∃ (l : List OpT) (A : Option Addr) (c : Nat), v = .slice A l.length c ∧ OpsAt W W.heap.size A l ∧ (∀ o ∈ l, o.2.1.size ≤ maxLen ∧ inI64 o.1 ∧ inI64 o.2.2) ∧ l.length ≤ 140737488355328 := by
  rcases open_slice Try.underlying22 h with ⟨hcs, hx⟩ | ⟨a, len, cap, m, n, D, Pl, hcs, _, hl, hm, hs, hx, he⟩
  · simp at hcs
    exact ⟨[], none, 0, hcs, fun i x h => by simp at h, fun o h => by simp at h, by decide⟩
  · simp at hcs
    simp only [if_true] at hs
    rw [cellsOp] at he
    have hlen2 : len ≤ 140737488355328 := by
      have hx1 : x.1 = _ := congrArg Prod.fst hx
      rw [hx1] at hw
      have := hw ((((List.range len).map D).length + ((List.range (m - len)).map fun j => D (len + j)).length) * Try.prog.bytesOf 29) (by simp [DataW.weights, Try.underlying22])
      rw [bytesOp] at this
      simp only [List.length_map, List.length_range] at this
      unfold reachBytes at this
      omega
    obtain ⟨l, hll, hlq⟩ := list_of (Q := fun i (o : OpT) => a.block < W.heap.size ∧ W.cell? (a.add (i * 3)) = some (.int .i64 o.1) ∧ W.cell? ⟨(a.add (i * 3)).block, (a.add (i * 3)).off + 1, none⟩ = some (.string o.2.1) ∧ W.cell? ⟨(a.add (i * 3)).block, (a.add (i * 3)).off + 2, none⟩ = some (.int .i64 o.2.2) ∧ o.2.1.size ≤ maxLen ∧ inI64 o.1 ∧ inI64 o.2.2) len fun i hi => by
      obtain ⟨cs, h3, h4⟩ := he i (by omega)
      obtain ⟨o, h5, h6⟩ := op_at h3 h4
      rw [add_block] at h5
      exact ⟨o, h5, h6⟩
    refine ⟨l, some a, cap, by rw [hll]; exact hcs, fun i o ho => ?_, fun o ho => ?_, by rw [hll]; exact hlen2⟩
    · obtain ⟨h5, h6, h7, h8, _⟩ := hlq i o ho
      exact ⟨a, rfl, h5, h6, h7, h8⟩
    · obtain ⟨i, hi⟩ := List.getElem?_of_mem ho
      exact (hlq i o hi).2.2.2.2
/-- A call by value. -/
theorem op_value {H : Type} {enc : TypeId × Value → H} {W : World} {r : Reach} {b : Nat} {v : Value} {d : DataW H} {p : List MemPlace} (hv : Value.okWide Try.prog W r b 29 v) (h : DataW.Trod enc Try.prog W 0 (fun _ => true) true 29 v d p) :
    ∃ o : OpT, v = .agg #[.int .i64 o.1, .string o.2.1, .int .i64 o.2.2] ∧ p = [] ∧ o.2.1.size ≤ maxLen ∧ inI64 o.1 ∧ inI64 o.2.2 := by
  obtain ⟨cs, rfl, hsz⟩ := okWide_struct Try.underlying29 hv
  obtain ⟨fuel, hf⟩ := h
  obtain ⟨o, h1, h2, h3, h4, h5⟩ := op_of hf
  refine ⟨o, ?_, h2, h3, h4, h5⟩
  congr 1
  apply Array.toList_inj.1
  simpa [Value.cells] using h1
end Go.Proofs.Ytbaghdfalhlhcaa
