/-
  Mathematics of a stable sort: files with the places at which they stood; merging two rows that are in order; blocks. No program, no condition.
-/
import Derived.Test.YthdgfchmglkpaaaChecked
import Derived.Test.YthdgfchmglkpaaaMath
import Derived.Test.YthdgfchmglkpaaaA
import Derived.Test.YthdgfchmglkpaaaU
import Derived.WalkKit
import Derived.WalkSpells
import Derived.WalkLawsBesides
import Derived.Deep.QuietTactic
import Derived.BigQuiet
import Derived.Lib.Hide
import Derived.Lib.SmallJoins
import Derived.Outline
import Derived.OwnWalk
import Derived.Deep.CutBlock
import Derived.BigRegion
import Derived.StillTailTactics
import Derived.Laws.AppendOwnNone
import Derived.Maps.AppendAt
import Derived.Deep.RegionLaw
import Derived.Deep.RegionHeld3
import Derived.Lib.BufferRead
import Derived.Deep.AppendLies
namespace Go.Proofs.Ythdgfchmglkpaaa
open Go.RowKit
/-- A file with the place at which it stood. -/
abbrev TF := Fl × Nat
def ltT (x y : TF) : Prop := Op.bytesLess x.1.1.toList y.1.1.toList = true ∨ (x.1.1 = y.1.1 ∧ x.2 < y.2)
theorem ltT_irr (x : TF) : ¬ ltT x x := by
  rintro (h | ⟨_, h⟩)
  · rw [bl_irr] at h; cases h
  · omega
theorem ltT_trans {x y z : TF} (h : ltT x y) (k : ltT y z) : ltT x z := by
  rcases h with h | ⟨h, h2⟩
  · rcases k with k | ⟨k, k2⟩
    · exact Or.inl (bl_trans _ _ _ h k)
    · exact Or.inl (by rw [← k]; exact h)
  · rcases k with k | ⟨k, k2⟩
    · exact Or.inl (by rw [h]; exact k)
    · exact Or.inr ⟨h.trans k, by omega⟩
theorem ltT_total {x y : TF} (h : x.2 ≠ y.2) : ltT x y ∨ ltT y x := by
  rcases bl_total x.1.1.toList y.1.1.toList with e | e | e
  · have e2 : x.1.1 = y.1.1 := ba_eq e
    rcases Nat.lt_or_gt_of_ne h with h1 | h1
    · exact Or.inl (Or.inr ⟨e2, h1⟩)
    · exact Or.inr (Or.inr ⟨e2.symm, h1⟩)
  · exact Or.inl (Or.inl e)
  · exact Or.inr (Or.inl e)
theorem ltT_yes {x y : TF} (k : Op.bytesLess y.1.1.toList x.1.1.toList = true) : ltT y x := Or.inl k
theorem ltT_no {x y : TF} (h : x.2 < y.2) (k : Op.bytesLess y.1.1.toList x.1.1.toList = false) : ltT x y := by
  rcases ltT_total (x := x) (y := y) (by omega) with e | e
  · exact e
  · rcases e with e | ⟨_, e⟩
    · rw [k] at e; cases e
    · omega
abbrev Srt (l : List TF) : Prop := l.Pairwise ltT
/-- All of the one row stood ahead of all of the other. -/
def Aft (X Y : List TF) : Prop := ∀ x ∈ X, ∀ y ∈ Y, x.2 < y.2
theorem srt_get {l : List TF} (h : Srt l) {i j : Nat} {x y : TF} (hij : i < j) (hx : l[i]? = some x) (hy : l[j]? = some y) : ltT x y := by
  obtain ⟨h1, rfl⟩ := List.getElem?_eq_some_iff.1 hx
  obtain ⟨h2, rfl⟩ := List.getElem?_eq_some_iff.1 hy
  exact (List.pairwise_iff_getElem.1 h) i j h1 h2 hij
theorem mem_get {l : List TF} {x : TF} (h : x ∈ l) : ∃ i : Nat, l[i]? = some x := by
  obtain ⟨i, hi, e⟩ := List.mem_iff_getElem.1 h
  exact ⟨i, by rw [List.getElem?_eq_getElem hi, e]⟩
theorem ins_srt {x : TF} {Y : List TF} (h : Srt Y) {k : Nat} (h1 : ∀ t y, t < k → Y[t]? = some y → ltT y x) (h2 : ∀ t y, k ≤ t → Y[t]? = some y → ltT x y) : Srt (Y.take k ++ x :: Y.drop k) := by
  have hp := h
  rw [← List.take_append_drop k Y] at hp
  obtain ⟨a, b, c⟩ := List.pairwise_append.1 hp
  refine List.pairwise_append.2 ⟨a, List.pairwise_cons.2 ⟨fun y hy => ?_, b⟩, fun z hz y hy => ?_⟩
  · obtain ⟨i, hi⟩ := mem_get hy
    rw [List.getElem?_drop] at hi
    exact h2 _ y (by omega) hi
  · rcases List.mem_cons.1 hy with rfl | hy
    · obtain ⟨i, hi⟩ := mem_get hz
      rw [List.getElem?_take] at hi
      split at hi
      · exact h1 i z (by assumption) hi
      · cases hi
    · exact c z hz y hy
/-- Where two rows in order are cut so that what is ahead is less than what is behind. -/
theorem cut_sides {X Y : List TF} (hX : Srt X) (hY : Srt Y) {M s : Nat} (hs1 : M - Y.length ≤ s) (hs2 : s ≤ X.length) (hs3 : s ≤ M)
    (h1 : ∀ c x y, M - Y.length ≤ c → c < s → X[c]? = some x → Y[M - 1 - c]? = some y → ltT x y)
    (h2 : ∀ c x y, s ≤ c → c < X.length → c < M → X[c]? = some x → Y[M - 1 - c]? = some y → ltT y x) :
    (∀ x ∈ X.take s, ∀ y ∈ Y.drop (M - s), ltT x y) ∧ (∀ y ∈ Y.take (M - s), ∀ x ∈ X.drop s, ltT y x) := by
  constructor
  · intro x hx y hy
    obtain ⟨i, hi⟩ := mem_get hx
    obtain ⟨j, hj⟩ := mem_get hy
    rw [List.getElem?_take] at hi
    rw [List.getElem?_drop] at hj
    have hjl := (List.getElem?_eq_some_iff.1 hj).1
    split at hi
    · have his : i < s := by assumption
      obtain ⟨x2, hx2⟩ : ∃ x2, X[s - 1]? = some x2 := ⟨_, List.getElem?_eq_getElem (by omega)⟩
      obtain ⟨y2, hy2⟩ : ∃ y2, Y[M - 1 - (s - 1)]? = some y2 := ⟨_, List.getElem?_eq_getElem (by omega)⟩
      have e := h1 (s - 1) x2 y2 (by omega) (by omega) hx2 hy2
      have e1 : ltT x y2 := by
        by_cases he : i = s - 1
        · subst he; rw [hx2] at hi; cases hi; exact e
        · exact ltT_trans (srt_get hX (by omega) hi hx2) e
      by_cases he : M - s + j = M - 1 - (s - 1)
      · rw [he, hy2] at hj; cases hj; exact e1
      · exact ltT_trans e1 (srt_get hY (by omega) hy2 hj)
    · cases hi
  · intro y hy x hx
    obtain ⟨i, hi⟩ := mem_get hx
    obtain ⟨j, hj⟩ := mem_get hy
    rw [List.getElem?_take] at hj
    rw [List.getElem?_drop] at hi
    have hil := (List.getElem?_eq_some_iff.1 hi).1
    split at hj
    · have hjs : j < M - s := by assumption
      have hjl := (List.getElem?_eq_some_iff.1 hj).1
      obtain ⟨x2, hx2⟩ : ∃ x2, X[s]? = some x2 := ⟨_, List.getElem?_eq_getElem (by omega)⟩
      obtain ⟨y2, hy2⟩ : ∃ y2, Y[M - 1 - s]? = some y2 := ⟨_, List.getElem?_eq_getElem (by omega)⟩
      have e := h2 s x2 y2 (Nat.le_refl _) (by omega) (by omega) hx2 hy2
      have e1 : ltT y x2 := by
        by_cases he : j = M - 1 - s
        · subst he; rw [hy2] at hj; cases hj; exact e
        · exact ltT_trans (srt_get hY (by omega) hj hy2) e
      by_cases he : s + i = s
      · rw [he, hx2] at hi; cases hi; exact e1
      · exact ltT_trans e1 (srt_get hX (by omega) hx2 hi)
    · cases hj
theorem join_srt {X Y Z1 Z2 : List TF} {a b : Nat} (h1 : Srt Z1) (h2 : Srt Z2) (p1 : Z1.Perm (X.take a ++ Y.take b)) (p2 : Z2.Perm (X.drop a ++ Y.drop b)) (hX : Srt X) (hY : Srt Y)
    (k1 : ∀ x ∈ X.take a, ∀ y ∈ Y.drop b, ltT x y) (k2 : ∀ y ∈ Y.take b, ∀ x ∈ X.drop a, ltT y x) : Srt (Z1 ++ Z2) ∧ (Z1 ++ Z2).Perm (X ++ Y) := by
  constructor
  · refine List.pairwise_append.2 ⟨h1, h2, fun u hu v hv => ?_⟩
    rw [p1.mem_iff, List.mem_append] at hu
    rw [p2.mem_iff, List.mem_append] at hv
    have hX2 := hX
    rw [← List.take_append_drop a X] at hX2
    have hY2 := hY
    rw [← List.take_append_drop b Y] at hY2
    rcases hu with hu | hu
    · rcases hv with hv | hv
      · exact (List.pairwise_append.1 hX2).2.2 u hu v hv
      · exact k1 u hu v hv
    · rcases hv with hv | hv
      · exact k2 u hu v hv
      · exact (List.pairwise_append.1 hY2).2.2 u hu v hv
  · refine (p1.append p2).trans ?_
    have e : (X ++ Y).Perm ((X.take a ++ X.drop a) ++ (Y.take b ++ Y.drop b)) := by rw [List.take_append_drop, List.take_append_drop]
    refine List.Perm.trans ?_ e.symm
    rw [List.append_assoc, List.append_assoc]
    refine List.Perm.append_left _ ?_
    rw [← List.append_assoc, ← List.append_assoc]
    exact List.Perm.append_right _ List.perm_append_comm
end Go.Proofs.Ythdgfchmglkpaaa
