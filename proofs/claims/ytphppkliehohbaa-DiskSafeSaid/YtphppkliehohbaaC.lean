/-
  Rows of files of one's own; the document's Files. Premise: rows have lengths that Go's own rows have.
-/
import Derived.Test.YtphppkliehohbaaChecked
import Derived.Test.YtphppkliehohbaaMath
import Derived.Test.YtphppkliehohbaaA
import Derived.Test.YtphppkliehohbaaB
import Derived.WalkKit
import Derived.WalkSpells
import Derived.WalkLawsBesides
import Derived.Deep.QuietTactic
import Derived.BigQuiet
import Derived.Lib.Hide
import Derived.Lib.SmallJoins
import Derived.Outline
import Derived.OwnWalk
import Derived.Deep.CutBlock
import Derived.BigRegion
import Derived.StillTailTactics
import Derived.Laws.AppendOwnNone
import Derived.Maps.AppendAt
import Derived.Deep.RegionLaw
import Derived.Deep.RegionHeld3
import Derived.Lib.BufferRead
namespace Go.Proofs.Ytphppkliehohbaa
open Go.RowKit
def fcs (f : Fl) : List Value := [.string f.1, .string f.2.1, .int .i64 f.2.2]
theorem flat3 {α : Type} {g : α → List Value} (hg : ∀ f, (g f).length = 3) : ∀ (L : List α) (i : Nat) (f : α), L[i]? = some f → ∀ j, j < 3 → (L.flatMap g)[i * 3 + j]? = (g f)[j]?
  | [], i, f, h, j, _ => by simp at h
  | x :: r, 0, f, h, j, hj => by
    obtain rfl : x = f := by simpa using h
    rw [List.flatMap_cons, Nat.zero_mul, Nat.zero_add, List.getElem?_append_left (by rw [hg]; exact hj)]
  | x :: r, i + 1, f, h, j, hj => by
    rw [List.flatMap_cons, List.getElem?_append_right (by rw [hg]; omega), hg, show (i + 1) * 3 + j - 3 = i * 3 + j by omega]
    exact flat3 hg r i f (by simpa using h) j hj
/-- A row of files of one's own. -/
def RowF (w : World) (base : Nat) (v : Value) (L : List Fl) : Prop := w.ownsRow base 46 3 v L.length (L.flatMap fcs)
theorem rowF_nil (w : World) (base : Nat) : RowF w base (.slice none 0 0) [] := World.ownsRow_nil w base 46 3
theorem info_file : (Try.prog.info? 46).map (fun i => (i.zero, i.size, i.bytes)) = some (some (.agg #[.string ⟨#[]⟩, .string ⟨#[]⟩, .int .i64 0]), 3, 40) := by kernel_rfl
theorem grown_on {W W' : World} (hb : Below W.heap.size W W') (row : Option Nat) : W.grownBy W' row := ⟨hb.os, hb.tape, hb.output, hb.size, fun k hk _ => hb.block k hk⟩
theorem RowF.on {w w' : World} {base : Nat} {v : Value} {L : List Fl} (h : RowF w base v L) (hb : Below w.heap.size w w') : RowF w' base v L :=
  World.ownsRow.kept h (row := some w.heap.size) (grown_on hb _) (Or.inr fun e => by have := (World.ownsRow.lt h _ e).2; omega)
theorem RowF.base {w : World} {b b' : Nat} {v : Value} {L : List Fl} (h : RowF w b v L) (hb : b' ≤ b) : RowF w b' v L := by
  obtain ⟨h1, ⟨h2, h3⟩ | ⟨g, cap, cur, h2, h3, h4⟩⟩ := h
  · exact ⟨h1, Or.inl ⟨h2, h3⟩⟩
  · exact ⟨h1, Or.inr ⟨g, cap, cur, h2, by omega, h4⟩⟩
theorem RowF.files {w : World} {base : Nat} {v : Value} {L : List Fl} (h : RowF w base v L) : ∃ A c, v = .slice A L.length c ∧ FilesAt w A L := by
  have h' : w.ownsRow base 46 3 v L.length (L.flatMap fcs) := h
  rcases h'.2 with ⟨hv, h0⟩ | ⟨g, cap, cur, hv, _⟩
  · exact ⟨none, 0, by rw [hv, h0], fun i f hf => by rw [List.eq_nil_of_length_eq_zero h0] at hf; simp at hf⟩
  · have hob : v.ownBlock = some g := by rw [hv]; rfl
    refine ⟨some ⟨g, 0, none⟩, cap, hv, fun i f hf => ⟨_, rfl, (h'.lt g hob).2, ?_⟩⟩
    have hc : ∀ j x, (fcs f)[j]? = some x → w.cell? ⟨g, i * 3 + j, none⟩ = some x := fun j x hx => by
      rw [← add_zero]
      refine h'.cells hob (i * 3 + j) x ?_
      rw [flat3 (fun _ => rfl) L i f hf j (by have := (List.getElem?_eq_some_iff.1 hx).1; exact this)]
      exact hx
    rw [add_zero]
    exact ⟨hc 0 _ rfl, hc 1 _ rfl, hc 2 _ rfl⟩
theorem RowF.snoc {w : World} {base : Nat} {v : Value} {L : List Fl} {x y : ByteArray} {z : Int} (h : w.ownsRow base 46 3 v (L.length + 1) (L.flatMap fcs ++ [.string x, .string y, .int .i64 z])) : RowF w base v (L ++ [(x, y, z)]) := by
  unfold RowF
  rw [List.length_append, List.flatMap_append]
  exact h
theorem one_file (w : World) (x y : ByteArray) (z : Int) : ∀ (j : Nat) (u : Value), [Value.string x, .string y, .int .i64 z][j]? = some u → (w.alloc (.cells #[.string x, .string y, .int .i64 z] 46)).cell? ((⟨w.heap.size, 0, none⟩ : Addr).add j) = some u := fun j u hj => by
  rw [add_zero]
  rw [Lib.cell_of_heap (heap_alloc_new w _) j]
  simpa using hj
theorem file_cells (x y : ByteArray) (z : Int) : ∀ u ∈ [Value.string x, .string y, .int .i64 z], u.oneCell' = true := by intro u hu; simp at hu; rcases hu with rfl | rfl | rfl <;> rfl
theorem find_at {L : List Fl} {i : Nat} {f : Fl} (h : L[i]? = some f) (h0 : hasF (L.take i) f.1 = false) : findF L f.1 = some (normF f) := by
  refine (find_step h (find_none (has_no (by rw [h0]; decide)))).1 rfl
theorem files_len (L : List Fl) : (filesF L).length ≤ L.length := by
  refine list_ind (p := fun L => (filesF L).length ≤ L.length) (Nat.le_refl _) (fun l o ih => ?_) L
  rw [files_snoc, List.length_append]
  unfold addF
  split
  · simp only [List.length_singleton]; omega
  · simp only [List.length_append, List.length_singleton]; omega
end Go.Proofs.Ytphppkliehohbaa
