/-
  How calls, keys, and rows of them that are handed over are opened: what is read of them. No condition.
-/
import Derived.Test.YtpbmgaipeofpaaaFrame
import Derived.Test.YtpbmgaipeofpaaaZ
import Derived.SliceStrings
namespace Go.Proofs.Ytpbmgaipeofpaaa
open Go.RowKit Go.ChangeShapes Go.WideShapes Go.Deep

theorem cellsOp : Try.prog.cellsOf 29 = 2 := by kernel_rfl
theorem bytesOp : Try.prog.bytesOf 29 = 24 := by kernel_rfl
theorem cellsInt : Try.prog.cellsOf 3 = 1 := by kernel_rfl
theorem bytesStr : Try.prog.bytesOf 9 = 16 := by kernel_rfl
theorem cellsStr : Try.prog.cellsOf 9 = 1 := by kernel_rfl
theorem list_of {α : Type} {Q : Nat → α → Prop} : ∀ (n : Nat), (∀ i, i < n → ∃ y, Q i y) → ∃ l : List α, l.length = n ∧ ∀ i y, l[i]? = some y → Q i y
  | 0, _ => ⟨[], rfl, fun i y h => by simp at h⟩
  | n + 1, h => by
    obtain ⟨l, hl, hq⟩ := list_of n fun i hi => h i (by omega)
    obtain ⟨y, hy⟩ := h n (by omega)
    refine ⟨l ++ [y], by simp [hl], fun i z hz => ?_⟩
    by_cases hi : i < n
    · rw [List.getElem?_append_left (by omega)] at hz
      exact hq i z hz
    · rw [List.getElem?_append_right (by omega), hl] at hz
      have hin : i = n := by
        rcases Nat.lt_or_ge n i with hlt | hge
        · rw [List.getElem?_eq_none (by simp; omega)] at hz; cases hz
        · omega
      subst hin
      simp at hz
      subst hz
      exact hy
theorem add_far {p : Addr} {j : Nat} (hj : 0 < j) : p.add j = ⟨p.block, p.off + j, none⟩ := by unfold Addr.add; rw [if_neg (by omega)]
/-- What a call's cells hold. -/
theorem op_of {H : Type} {enc : TypeId × Value → H} {W : World} {fuel : Nat} {cs : List Value} {x : DataW H × List MemPlace} (h : DataW.trod enc Try.prog W 0 (fun _ => true) true fuel 29 cs = some x) :
    ∃ o : OpD, cs = [.int .i64 o.1, .string o.2] ∧ x.2 = [] ∧ o.2.size ≤ maxLen := by
  obtain ⟨xs, m, hm, rfl, hl, hlen, hf⟩ := DataW.trod_struct Try.underlying29 h
  rw [cellsOp] at hl
  match cs, hl with
  | [c0, c1], _ =>
  match xs, hlen with
  | [y0, y1], _ =>
  have g0 : DataW.trod enc Try.prog W 0 (fun _ => true) true m 3 [c0] = some y0 := by simpa [cellsInt] using hf 0 _ rfl
  have g1 : DataW.trod enc Try.prog W 0 (fun _ => true) true m 9 [c1] = some y1 := by simpa [cellsStr] using hf 1 _ rfl
  clear hf h
  obtain ⟨d, d1, rfl, _⟩ := DataW.trod_int Try.underlying3 g0
  obtain ⟨b, b1, rfl, b3⟩ := DataW.trod_string Try.underlying9 g1
  simp only [List.cons.injEq, and_true] at d1 b1
  subst d1 b1
  exact ⟨(d, b), rfl, by simp, b3⟩
theorem op_at {H : Type} {enc : TypeId × Value → H} {W : World} {fuel : Nat} {a : Addr} {cs : List Value} {x : DataW H × List MemPlace} (hc : W.cells? 0 a 2 = some cs) (h : DataW.trod enc Try.prog W 0 (fun _ => true) true fuel 29 cs = some x) :
    ∃ o : OpD, a.block < W.heap.size ∧ W.cell? a = some (.int .i64 o.1) ∧ W.cell? ⟨a.block, a.off + 1, none⟩ = some (.string o.2) ∧ o.2.size ≤ maxLen := by
  obtain ⟨o, rfl, _, k1⟩ := op_of h
  obtain ⟨_, _, h7⟩ := World.cells?_some hc
  have z0 : W.cell? a = some (.int .i64 o.1) := by simpa [Addr.add] using h7 0 (by omega)
  have z1 := h7 1 (by omega)
  rw [add_far (by omega)] at z1
  exact ⟨o, block_lt_of_cell z0, z0, z1, k1⟩
theorem ops_read {H : Type} {enc : TypeId × Value → H} {W : World} {v : Value} {fuel : Nat} {x : DataW H × List MemPlace} (h : DataW.trod enc Try.prog W 0 (fun _ => true) true fuel 22 [v] = some x) (hw : ∀ n ∈ x.1.weights Try.prog 22, n ≤ reachBytes) :
    ∃ (l : List OpD) (A : Option Addr) (c : Nat), v = .slice A l.length c ∧ OpsAt W W.heap.size A l ∧ (∀ o ∈ l, o.2.size ≤ maxLen) ∧ l.length ≤ 140737488355328 ∧ l.length ≤ c := by
  rcases open_slice Try.underlying22 h with ⟨hcs, hx⟩ | ⟨a, len, cap, m, n, D, Pl, hcs, _, hl, hm, hs, hx, he⟩
  · simp at hcs
    exact ⟨[], none, 0, hcs, fun i x h => by simp at h, fun o h => by simp at h, by decide, Nat.le_refl _⟩
  · simp at hcs
    simp only [if_true] at hs
    rw [cellsOp] at he
    have hlen2 : len ≤ 140737488355328 := by
      have hx1 : x.1 = _ := congrArg Prod.fst hx
      rw [hx1] at hw
      have := hw ((((List.range len).map D).length + ((List.range (m - len)).map fun j => D (len + j)).length) * Try.prog.bytesOf 29) (by simp [DataW.weights, Try.underlying22])
      rw [bytesOp] at this
      simp only [List.length_map, List.length_range] at this
      unfold reachBytes at this
      omega
    obtain ⟨l, hll, hlq⟩ := list_of (Q := fun i (o : OpD) => a.block < W.heap.size ∧ W.cell? (a.add (i * 2)) = some (.int .i64 o.1) ∧ W.cell? ⟨(a.add (i * 2)).block, (a.add (i * 2)).off + 1, none⟩ = some (.string o.2) ∧ o.2.size ≤ maxLen) len fun i hi => by
      obtain ⟨cs, h3, h4⟩ := he i (by omega)
      obtain ⟨o, h5, h6⟩ := op_at h3 h4
      rw [add_block] at h5
      exact ⟨o, h5, h6⟩
    refine ⟨l, some a, cap, by rw [hll]; exact hcs, fun i o ho => ?_, fun o ho => ?_, by rw [hll]; exact hlen2, by rw [hll]; exact hl⟩
    · obtain ⟨h5, h6, h7, _⟩ := hlq i o ho
      exact ⟨a, rfl, h5, h6, h7⟩
    · obtain ⟨i, hi⟩ := List.getElem?_of_mem ho
      exact (hlq i o hi).2.2.2
theorem keys_read {H : Type} {enc : TypeId × Value → H} {W : World} {v : Value} {fuel : Nat} {x : DataW H × List MemPlace} (h : DataW.trod enc Try.prog W 0 (fun _ => true) true fuel 39 [v] = some x) (hw : ∀ n ∈ x.1.weights Try.prog 39, n ≤ reachBytes) :
    ∃ (l : List ByteArray) (A : Option Addr) (c : Nat), v = .slice A l.length c ∧ KeysAt W W.heap.size A l ∧ (∀ k ∈ l, k.size ≤ maxLen) ∧ l.length ≤ 140737488355328 ∧ l.length ≤ c := by
  rcases open_strings Try.underlying39 Try.underlying9 cellsStr h with ⟨hcs, hx⟩ | ⟨a, len, cap, ss, hcs, _, hl, hm, hs, hx, hcell, hws⟩
  · simp at hcs
    exact ⟨[], none, 0, hcs, fun i x h => by simp at h, fun o h => by simp at h, by decide, Nat.le_refl _⟩
  · simp at hcs
    simp only [if_true] at hs
    have hlen : (ss.take len).length = len := by rw [List.length_take]; omega
    have hll : len ≤ 140737488355328 := by
      have hx1 : x.1 = .slice (strs (ss.take len)) (strs (ss.drop len)) := congrArg Prod.fst hx
      rw [hx1] at hw
      have hwl := hw (((strs (H := H) (ss.take len)).length + (strs (H := H) (ss.drop len)).length) * Try.prog.bytesOf 9) (by simp [DataW.weights, Try.underlying39])
      rw [bytesStr] at hwl
      have e1 : (strs (H := H) (ss.take len)).length = (ss.take len).length := by simp [strs]
      rw [e1, hlen] at hwl
      unfold reachBytes at hwl
      omega
    refine ⟨ss.take len, some a, cap, by rw [hlen]; exact hcs, fun i y hy => ?_, fun k hk => hws k (List.mem_of_mem_take hk), by rw [hlen]; exact hll, by rw [hlen]; exact hl⟩
    rw [List.getElem?_take] at hy
    split at hy
    · obtain ⟨hi, rfl⟩ := List.getElem?_eq_some_iff.1 hy
      have hc := hcell i hi
      rw [List.getD, List.getElem?_eq_getElem hi] at hc
      refine ⟨a, rfl, ?_, hc⟩
      have := block_lt_of_cell hc
      rwa [add_block] at this
    · cases hy
end Go.Proofs.Ytpbmgaipeofpaaa
