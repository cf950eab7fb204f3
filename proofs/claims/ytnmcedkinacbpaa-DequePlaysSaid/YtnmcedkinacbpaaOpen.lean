/-
  How rows of numbers and of calls that are handed over are opened: what is read of them. No condition.
-/
import Derived.Test.YtnmcedkinacbpaaFrame
import Derived.Test.YtnmcedkinacbpaaS
namespace Go.Proofs.Ytnmcedkinacbpaa
open Go.RowKit Go.ChangeShapes Go.WideShapes Go.Deep

theorem list_of {α : Type} {Q : Nat → α → Prop} : ∀ (n : Nat), (∀ i, i < n → ∃ y, Q i y) → ∃ l : List α, l.length = n ∧ ∀ i y, l[i]? = some y → Q i y
  | 0, _ => ⟨[], rfl, fun i y h => by simp at h⟩
  | n + 1, h => by
    obtain ⟨l, hl, hq⟩ := list_of n fun i hi => h i (by omega)
    obtain ⟨y, hy⟩ := h n (by omega)
    refine ⟨l ++ [y], by simp [hl], fun i z hz => ?_⟩
    by_cases hi : i < n
    · rw [List.getElem?_append_left (by omega)] at hz
      exact hq i z hz
    · rw [List.getElem?_append_right (by omega), hl] at hz
      have hin : i = n := by
        rcases Nat.lt_or_ge n i with hlt | hge
        · rw [List.getElem?_eq_none (by simp; omega)] at hz; cases hz
        · omega
      subst hin
      simp at hz
      subst hz
      exact hy
theorem add_far {p : Addr} {j : Nat} (hj : 0 < j) : p.add j = ⟨p.block, p.off + j, none⟩ := by unfold Addr.add; rw [if_neg (by omega)]
theorem op_at {H : Type} {enc : TypeId × Value → H} {W : World} {fuel : Nat} {a : Addr} {cs : List Value} {x : DataW H × List MemPlace} (hc : W.cells? 0 a 3 = some cs) (h : DataW.trod enc Try.prog W 0 (fun _ => true) true fuel 28 cs = some x) :
    ∃ o : Op3, a.block < W.heap.size ∧ W.cell? a = some (.int .i64 o.1) ∧ W.cell? ⟨a.block, a.off + 1, none⟩ = some (.int .i64 o.2.1) ∧ W.cell? ⟨a.block, a.off + 2, none⟩ = some (.int .i64 o.2.2) ∧ inI64 o.1 ∧ inI64 o.2.1 ∧ inI64 o.2.2 := by
  obtain ⟨xs, m, hm, rfl, hl, hlen, hf⟩ := DataW.trod_struct Try.underlying28 h
  rw [cellsOp] at hl
  match cs, hl with
  | [c0, c1, c2], _ =>
  match xs, hlen with
  | [y0, y1, y2], _ =>
  have g0 : DataW.trod enc Try.prog W 0 (fun _ => true) true m 3 [c0] = some y0 := by simpa [cellsInt] using hf 0 _ rfl
  have g1 : DataW.trod enc Try.prog W 0 (fun _ => true) true m 3 [c1] = some y1 := by simpa [cellsInt] using hf 1 _ rfl
  have g2 : DataW.trod enc Try.prog W 0 (fun _ => true) true m 3 [c2] = some y2 := by simpa [cellsInt] using hf 2 _ rfl
  clear hf h
  obtain ⟨kd, k1, rfl, k3⟩ := DataW.trod_int Try.underlying3 g0
  obtain ⟨b, b1, rfl, b3⟩ := DataW.trod_int Try.underlying3 g1
  obtain ⟨nm, n1, rfl, n3⟩ := DataW.trod_int Try.underlying3 g2
  simp only [List.cons.injEq, and_true] at k1 n1 b1
  subst k1 n1 b1
  obtain ⟨_, _, h7⟩ := World.cells?_some hc
  have z0 : W.cell? a = some (.int .i64 kd) := by simpa [Addr.add] using h7 0 (by omega)
  have z1 := h7 1 (by omega)
  have z2 := h7 2 (by omega)
  rw [add_far (by omega)] at z1 z2
  exact ⟨(kd, b, nm), block_lt_of_cell z0, z0, z1, z2, wf64 k3, wf64 b3, wf64 n3⟩
theorem ops_read {H : Type} {enc : TypeId × Value → H} {W : World} {v : Value} {fuel : Nat} {x : DataW H × List MemPlace} (h : DataW.trod enc Try.prog W 0 (fun _ => true) true fuel 23 [v] = some x) (hw : ∀ n ∈ x.1.weights Try.prog 23, n ≤ reachBytes) :
    ∃ (l : List Op3) (A : Option Addr) (c : Nat), v = .slice A l.length c ∧ OpsAt W W.heap.size A l ∧ (∀ o ∈ l, inI64 o.1 ∧ inI64 o.2.1 ∧ inI64 o.2.2) ∧ l.length ≤ 140737488355328 := by
  rcases open_slice Try.underlying23 h with ⟨hcs, hx⟩ | ⟨a, len, cap, m, n, D, Pl, hcs, _, hl, hm, hs, hx, he⟩
  · simp at hcs
    exact ⟨[], none, 0, hcs, fun i x h => by simp at h, fun o h => by simp at h, by decide⟩
  · simp at hcs
    simp only [if_true] at hs
    rw [cellsOp] at he
    have hlen2 : len ≤ 140737488355328 := by
      have hx1 : x.1 = _ := congrArg Prod.fst hx
      rw [hx1] at hw
      have := hw ((((List.range len).map D).length + ((List.range (m - len)).map fun j => D (len + j)).length) * Try.prog.bytesOf 28) (by simp [DataW.weights, Try.underlying23])
      rw [bytesOp] at this
      simp only [List.length_map, List.length_range] at this
      unfold reachBytes at this
      omega
    obtain ⟨l, hll, hlq⟩ := list_of (Q := fun i (o : Op3) => a.block < W.heap.size ∧ W.cell? (a.add (i * 3)) = some (.int .i64 o.1) ∧ W.cell? ⟨(a.add (i * 3)).block, (a.add (i * 3)).off + 1, none⟩ = some (.int .i64 o.2.1) ∧ W.cell? ⟨(a.add (i * 3)).block, (a.add (i * 3)).off + 2, none⟩ = some (.int .i64 o.2.2) ∧ inI64 o.1 ∧ inI64 o.2.1 ∧ inI64 o.2.2) len fun i hi => by
      obtain ⟨cs, h3, h4⟩ := he i (by omega)
      obtain ⟨o, h5, h6⟩ := op_at h3 h4
      rw [add_block] at h5
      exact ⟨o, h5, h6⟩
    refine ⟨l, some a, cap, by rw [hll]; exact hcs, fun i o ho => ?_, fun o ho => ?_, by rw [hll]; exact hlen2⟩
    · obtain ⟨h5, h6, h7, h8, _⟩ := hlq i o ho
      exact ⟨a, rfl, h5, h6, h7, h8⟩
    · obtain ⟨i, hi⟩ := List.getElem?_of_mem ho
      exact (hlq i o hi).2.2.2.2
theorem ints_read {H : Type} {enc : TypeId × Value → H} {W : World} {v : Value} {fuel : Nat} {x : DataW H × List MemPlace} (h : DataW.trod enc Try.prog W 0 (fun _ => true) true fuel 22 [v] = some x) (hw : ∀ n ∈ x.1.weights Try.prog 22, n ≤ reachBytes) :
    ∃ (l : List Int) (A : Option Addr) (c : Nat), v = .slice A l.length c ∧ SrcI W (.slice A l.length c) l ∧ True ∧ l.length ≤ 140737488355328 := by
  rcases open_ints Try.underlying22 Try.underlying3 cellsInt h with ⟨hcs, hx⟩ | ⟨a, len, cap, zs, hcs, _, hl, hm, hs, hx, he, _⟩
  · simp at hcs
    exact ⟨[], none, 0, hcs, Or.inl ⟨rfl, rfl⟩, trivial, by decide⟩
  · simp at hcs
    simp only [if_true] at hs
    have hlen2 : len ≤ 140737488355328 := by
      have hx1 : x.1 = _ := congrArg Prod.fst hx
      rw [hx1] at hw
      have := hw (((lits .i64 (zs.take len) : List (DataW H)).length + (lits .i64 (zs.drop len) : List (DataW H)).length) * Try.prog.bytesOf 3) (by simp [DataW.weights, Try.underlying22])
      rw [bytesInt] at this
      simp only [lits, List.length_map, List.length_take, List.length_drop] at this
      unfold reachBytes at this
      omega
    have htl : (zs.take len).length = len := by rw [List.length_take]; omega
    refine ⟨zs.take len, some a, cap, by rw [htl]; exact hcs, Or.inr ⟨a, cap, rfl, fun j x hj => ?_⟩, trivial, by rw [htl]; exact hlen2⟩
    have hjl : j < len := by
      have := (List.getElem?_eq_some_iff.1 hj).1
      omega
    rw [List.getElem?_take, if_pos hjl] at hj
    have hc := he j (by omega)
    rw [List.getD_eq_getElem?_getD, hj] at hc
    have := block_lt_of_cell hc
    rw [add_block] at this
    exact ⟨this, hc⟩

end Go.Proofs.Ytnmcedkinacbpaa
