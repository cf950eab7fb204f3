/-
  How rows of texts that are handed over are opened: what is read of them. No condition.
-/
import Derived.Test.YtbbhjhnfjkfklaaDoorFrame
import Derived.Test.YtbbhjhnfjkfklaaDoorD
import Derived.SliceStrings
namespace Go.Proofs.YtbbhjhnfjkfklaaDoor
open Go.RowKit Go.ChangeShapes Go.WideShapes Go.Deep

theorem bytesStr : Tryd.prog.bytesOf 9 = 16 := by kernel_rfl
theorem cellsStr : Tryd.prog.cellsOf 9 = 1 := by kernel_rfl
theorem keys_read {H : Type} {enc : TypeId × Value → H} {W : World} {v : Value} {fuel : Nat} {x : DataW H × List MemPlace} (h : DataW.trod enc Tryd.prog W 0 (fun _ => true) true fuel 32 [v] = some x) (hw : ∀ n ∈ x.1.weights Tryd.prog 32, n ≤ reachBytes) :
    ∃ (l : List ByteArray) (A : Option Addr) (c : Nat), v = .slice A l.length c ∧ KeysAt W W.heap.size A l ∧ (∀ k ∈ l, k.size ≤ maxLen) ∧ l.length ≤ 140737488355328 ∧ l.length ≤ c := by
  rcases open_strings Tryd.underlying32 Tryd.underlying9 cellsStr h with ⟨hcs, hx⟩ | ⟨a, len, cap, ss, hcs, _, hl, hm, hs, hx, hcell, hws⟩
  · simp at hcs
    exact ⟨[], none, 0, hcs, fun i x h => by simp at h, fun o h => by simp at h, by decide, Nat.le_refl _⟩
  · simp at hcs
    simp only [if_true] at hs
    have hlen : (ss.take len).length = len := by rw [List.length_take]; omega
    have hll : len ≤ 140737488355328 := by
      have hx1 : x.1 = .slice (strs (ss.take len)) (strs (ss.drop len)) := congrArg Prod.fst hx
      rw [hx1] at hw
      have hwl := hw (((strs (H := H) (ss.take len)).length + (strs (H := H) (ss.drop len)).length) * Tryd.prog.bytesOf 9) (by simp [DataW.weights, Tryd.underlying32])
      rw [bytesStr] at hwl
      have e1 : (strs (H := H) (ss.take len)).length = (ss.take len).length := by simp [strs]
      rw [e1, hlen] at hwl
      unfold reachBytes at hwl
      omega
    refine ⟨ss.take len, some a, cap, by rw [hlen]; exact hcs, fun i y hy => ?_, fun k hk => hws k (List.mem_of_mem_take hk), by rw [hlen]; exact hll, by rw [hlen]; exact hl⟩
    rw [List.getElem?_take] at hy
    split at hy
    · obtain ⟨hi, rfl⟩ := List.getElem?_eq_some_iff.1 hy
      have hc := hcell i hi
      rw [List.getD, List.getElem?_eq_getElem hi] at hc
      refine ⟨a, rfl, ?_, hc⟩
      have := block_lt_of_cell hc
      rwa [add_block] at this
    · cases hy
end Go.Proofs.YtbbhjhnfjkfklaaDoor
