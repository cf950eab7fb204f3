/-
  Rows of faults of one's own; the document's Meets. Premise: rows have lengths that Go's own rows have.
-/
import Derived.Test.YtphppkliehohbaaChecked
import Derived.Test.YtphppkliehohbaaMath
import Derived.Test.YtphppkliehohbaaA
import Derived.Test.YtphppkliehohbaaB
import Derived.Test.YtphppkliehohbaaC
import Derived.Test.YtphppkliehohbaaD
import Derived.WalkKit
import Derived.WalkSpells
import Derived.WalkLawsBesides
import Derived.Deep.QuietTactic
import Derived.BigQuiet
import Derived.Lib.Hide
import Derived.Lib.SmallJoins
import Derived.Outline
import Derived.OwnWalk
import Derived.Deep.CutBlock
import Derived.BigRegion
import Derived.StillTailTactics
import Derived.Laws.AppendOwnNone
import Derived.Maps.AppendAt
import Derived.Deep.RegionLaw
import Derived.Deep.RegionHeld3
import Derived.Lib.BufferRead
import Derived.Deep.AppendLies
namespace Go.Proofs.Ytphppkliehohbaa
open Go.RowKit
def tcs (f : Ft) : List Value := [.string f.1, .int .i64 f.2.1, .int .i64 f.2.2]
/-- A row of faults of one's own. -/
def RowT (w : World) (base : Nat) (v : Value) (L : List Ft) : Prop := w.ownsRow base 60 3 v L.length (L.flatMap tcs)
theorem rowT_nil (w : World) (base : Nat) : RowT w base (.slice none 0 0) [] := World.ownsRow_nil w base 60 3
theorem info_fault : (Try.prog.info? 60).map (fun i => (i.zero, i.size, i.bytes)) = some (some (.agg #[.string ⟨#[]⟩, .int .i64 0, .int .i64 0]), 3, 32) := by kernel_rfl
theorem RowT.on {w w' : World} {base : Nat} {v : Value} {L : List Ft} (h : RowT w base v L) (hb : Below w.heap.size w w') : RowT w' base v L :=
  World.ownsRow.kept h (row := some w.heap.size) (grown_on hb _) (Or.inr fun e => by have := (World.ownsRow.lt h _ e).2; omega)
theorem RowT.base {w : World} {b b' : Nat} {v : Value} {L : List Ft} (h : RowT w b v L) (hb : b' ≤ b) : RowT w b' v L := by
  obtain ⟨h1, ⟨h2, h3⟩ | ⟨g, cap, cur, h2, h3, h4⟩⟩ := h
  · exact ⟨h1, Or.inl ⟨h2, h3⟩⟩
  · exact ⟨h1, Or.inr ⟨g, cap, cur, h2, by omega, h4⟩⟩
theorem RowT.faults {w : World} {base : Nat} {v : Value} {L : List Ft} (h : RowT w base v L) : ∃ A c, v = .slice A L.length c ∧ FaultsAt w A L := by
  have h' : w.ownsRow base 60 3 v L.length (L.flatMap tcs) := h
  rcases h'.2 with ⟨hv, h0⟩ | ⟨g, cap, cur, hv, _⟩
  · exact ⟨none, 0, by rw [hv, h0], fun i f hf => by rw [List.eq_nil_of_length_eq_zero h0] at hf; simp at hf⟩
  · have hob : v.ownBlock = some g := by rw [hv]; rfl
    refine ⟨some ⟨g, 0, none⟩, cap, hv, fun i f hf => ⟨_, rfl, (h'.lt g hob).2, ?_⟩⟩
    have hc : ∀ j x, (tcs f)[j]? = some x → w.cell? ⟨g, i * 3 + j, none⟩ = some x := fun j x hx => by
      rw [← add_zero]
      refine h'.cells hob (i * 3 + j) x ?_
      rw [flat3 (fun _ => rfl) L i f hf j (by have := (List.getElem?_eq_some_iff.1 hx).1; exact this)]
      exact hx
    rw [add_zero]
    exact ⟨hc 0 _ rfl, hc 1 _ rfl, hc 2 _ rfl⟩
theorem RowT.snoc {w : World} {base : Nat} {v : Value} {L : List Ft} {x : ByteArray} {y z : Int} (h : w.ownsRow base 60 3 v (L.length + 1) (L.flatMap tcs ++ [.string x, .int .i64 y, .int .i64 z])) : RowT w base v (L ++ [(x, y, z)]) := by
  unfold RowT
  rw [List.length_append, List.flatMap_append]
  exact h
theorem fault_cells (x : ByteArray) (y z : Int) : ∀ u ∈ [Value.string x, .int .i64 y, .int .i64 z], u.oneCell' = true := by intro u hu; simp at hu; rcases hu with rfl | rfl | rfl <;> rfl
theorem RowT.only {w w' : World} {base : Nat} {v : Value} {L : List Ft} {O : List Nat} (h : RowT w base v L) (ho : Only O w w') (hO : ∀ k, v.ownBlock = some k → k ∉ O) : RowT w' base v L := by
  obtain ⟨h1, ⟨rfl, h2⟩ | ⟨g, cap, cur, rfl, h3, h4, h5⟩⟩ := h
  · exact ⟨h1, Or.inl ⟨rfl, h2⟩⟩
  · exact ⟨h1, Or.inr ⟨g, cap, cur, rfl, h3, ho.keep h4 (hO g rfl), h5⟩⟩
def faultV (f : Ft) : Value := .agg #[.string f.1, .int .i64 f.2.1, .int .i64 f.2.2]
theorem five (w : World) (o1 o2 o3 o4 o5 : Obj) : ∃ W, W = ((((w.alloc o1).alloc o2).alloc o3).alloc o4).alloc o5 ∧ W.heap[w.heap.size]? = some o1 ∧ W.heap[w.heap.size + 1]? = some o2 ∧ W.heap[w.heap.size + 1 + 1]? = some o3 ∧ W.heap[w.heap.size + 1 + 1 + 1]? = some o4 ∧ W.heap[w.heap.size + 1 + 1 + 1 + 1]? = some o5 ∧ Below w.heap.size w W ∧ W.heap.size = w.heap.size + 5 := by
  obtain ⟨V, hV, h1, h2, h3, h4, hb, hs⟩ := four w o1 o2 o3 o4
  refine ⟨_, rfl, ?_⟩
  rw [← hV]
  have hk : ∀ k, k < w.heap.size + 4 → (V.alloc o5).heap[k]? = V.heap[k]? := fun k hk => Below.heap_alloc _ _ _ (by omega)
  refine ⟨(hk _ (by omega)).trans h1, (hk _ (by omega)).trans h2, (hk _ (by omega)).trans h3, (hk _ (by omega)).trans h4, ?_, hb.alloc (by omega) _, by simp [hs]⟩
  rw [show w.heap.size + 1 + 1 + 1 + 1 = V.heap.size by omega]
  exact heap_alloc_new V o5
end Go.Proofs.Ytphppkliehohbaa
