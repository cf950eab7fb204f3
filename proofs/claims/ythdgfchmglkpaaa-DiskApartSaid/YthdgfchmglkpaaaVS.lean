/-
  A row of files in a block that is written in place: what lies there, what an exchange of two of its places leaves. Premise: the block's room is one that Go's own rows have.
-/
import Derived.Test.YthdgfchmglkpaaaChecked
import Derived.Test.YthdgfchmglkpaaaMath
import Derived.Test.YthdgfchmglkpaaaA
import Derived.Test.YthdgfchmglkpaaaB
import Derived.Test.YthdgfchmglkpaaaC
import Derived.Test.YthdgfchmglkpaaaD
import Derived.Test.YthdgfchmglkpaaaE
import Derived.Test.YthdgfchmglkpaaaF
import Derived.Test.YthdgfchmglkpaaaJ
import Derived.Test.YthdgfchmglkpaaaK
import Derived.Test.YthdgfchmglkpaaaL
import Derived.Test.YthdgfchmglkpaaaM
import Derived.Test.YthdgfchmglkpaaaU
import Derived.Test.YthdgfchmglkpaaaVC
import Derived.WalkKit
import Derived.WalkSpells
import Derived.WalkLawsBesides
import Derived.Deep.QuietTactic
import Derived.BigQuiet
import Derived.Lib.Hide
import Derived.Lib.SmallJoins
import Derived.Outline
import Derived.OwnWalk
import Derived.Deep.CutBlock
import Derived.BigRegion
import Derived.StillTailTactics
import Derived.Laws.AppendOwnNone
import Derived.Maps.AppendAt
import Derived.Deep.RegionLaw
import Derived.Deep.RegionHeld3
import Derived.Lib.BufferRead
import Derived.Deep.AppendLies
namespace Go.Proofs.Ythdgfchmglkpaaa
open Go.RowKit
/-- Block g holds room for cap files; the first of them are M. -/
def SRow (w : World) (g cap : Nat) (M : List Fl) : Prop := M.length ≤ cap ∧ ∃ C : Array Value, w.heap[g]? = some (.cells C 39 (0, 0)) ∧ C.size = cap * 3 ∧ C.toList.take (M.length * 3) = M.flatMap fcs
theorem fcs_flat (M : List Fl) : (M.flatMap fcs).length = M.length * 3 := fcs_len M
theorem RowF.form {w : World} {base : Nat} {v : Value} {L : List Fl} (h : RowF w base v L) : (v = .slice none 0 0 ∧ L = []) ∨ ∃ g cap, v = .slice (some ⟨g, 0, none⟩) L.length cap ∧ base ≤ g ∧ g < w.heap.size ∧ cap ≤ maxLen ∧ SRow w g cap L := by
  obtain ⟨_, ⟨h1, h2⟩ | ⟨g, cap, cur, rfl, h3, h4, h5, h6, h7, h8⟩⟩ := h
  · exact Or.inl ⟨h1, List.length_eq_zero_iff.1 h2⟩
  · exact Or.inr ⟨g, cap, rfl, h3, some_lt h4, h6, h5, cur, h4, h7, h8⟩
theorem SRow.row {w : World} {g cap base : Nat} {M : List Fl} (h : SRow w g cap M) (hb : base ≤ g) (hc : cap ≤ maxLen) : RowF w base (.slice (some ⟨g, 0, none⟩) M.length cap) M := by
  obtain ⟨h1, C, h2, h3, h4⟩ := h
  exact ⟨fcs_flat M, Or.inr ⟨g, cap, C, rfl, hb, h2, h1, hc, h3, h4⟩⟩
theorem SRow.lt {w : World} {g cap : Nat} {M : List Fl} (h : SRow w g cap M) : g < w.heap.size := by
  obtain ⟨_, C, h2, _⟩ := h
  exact some_lt h2
theorem SRow.inB {w : World} {g cap : Nat} {M : List Fl} (h : SRow w g cap M) : LieB w 39 g := by
  obtain ⟨_, C, h2, _⟩ := h
  exact LieB.at h2
theorem SRow.only {w w' : World} {g cap : Nat} {M : List Fl} {O : List Nat} (h : SRow w g cap M) (ho : Only O w w') (hn : g ∉ O) : SRow w' g cap M := by
  obtain ⟨h1, C, h2, h3, h4⟩ := h
  exact ⟨h1, C, ho.keep h2 hn, h3, h4⟩
theorem SRow.on {w w' : World} {g cap : Nat} {M : List Fl} (h : SRow w g cap M) (hb : Below w.heap.size w w') : SRow w' g cap M := h.only (of_below hb) (by simp)
theorem SRow.at {w : World} {g cap : Nat} {M : List Fl} (h : SRow w g cap M) {i : Nat} {f : Fl} (hf : M[i]? = some f) : w.cell? ⟨g, i * 3, none⟩ = some (.string f.1) ∧ w.cell? ⟨g, i * 3 + 1, none⟩ = some (.string f.2.1) ∧ w.cell? ⟨g, i * 3 + 2, none⟩ = some (.int .i64 f.2.2) := by
  obtain ⟨h1, C, h2, h3, h4⟩ := h
  have hi := (List.getElem?_eq_some_iff.1 hf).1
  have hc : ∀ j, j < 3 → w.cell? ⟨g, i * 3 + j, none⟩ = (fcs f)[j]? := fun j hj => by
    rw [Joins.cell_of_block h2, ← flat3 (g := fcs) (fun _ => rfl) M i f hf j hj, ← h4, List.getElem?_take, if_pos (by omega), Array.getElem?_toList]
  exact ⟨hc 0 (by omega), hc 1 (by omega), hc 2 (by omega)⟩
theorem SRow.free {w : World} {g cap : Nat} {M : List Fl} (h : SRow w g cap M) (k : Nat) : w.frozen? ⟨g, k, none⟩ = false := by
  obtain ⟨_, C, h2, _⟩ := h
  exact Joins.unfrozen_of_block h2 k
/-- A place is written. -/
def put3 (w : World) (g i : Nat) (f : Fl) : World := ((w.setCell ⟨g, i * 3, none⟩ (.string f.1)).setCell ⟨g, i * 3 + 1, none⟩ (.string f.2.1)).setCell ⟨g, i * 3 + 2, none⟩ (.int .i64 f.2.2)
theorem flat_set : ∀ (M : List Fl) (i : Nat) (f : Fl), i < M.length → ((((M.flatMap fcs).set (i * 3) (.string f.1)).set (i * 3 + 1) (.string f.2.1)).set (i * 3 + 2) (.int .i64 f.2.2)) = (M.set i f).flatMap fcs
  | [], i, f, h => by simp at h
  | x :: M, 0, f, _ => rfl
  | x :: M, i + 1, f, h => by
    have ih := flat_set M i f (by simpa using h)
    rw [List.set_cons_succ, List.flatMap_cons, List.flatMap_cons, ← ih]
    show ((((.string x.1) :: (.string x.2.1) :: (.int .i64 x.2.2) :: M.flatMap fcs).set ((i + 1) * 3) _).set ((i + 1) * 3 + 1) _).set ((i + 1) * 3 + 2) _ = (.string x.1) :: (.string x.2.1) :: (.int .i64 x.2.2) :: _
    rw [show (i + 1) * 3 = i * 3 + 1 + 1 + 1 by omega, show i * 3 + 1 + 1 + 1 + 1 = (i * 3 + 1) + 1 + 1 + 1 by omega, show i * 3 + 1 + 1 + 1 + 2 = (i * 3 + 2) + 1 + 1 + 1 by omega]
    simp only [List.set_cons_succ]
    rfl
theorem only_put3 (w : World) (g i : Nat) (f : Fl) : Only [g] w (put3 w g i f) := by
  unfold put3
  exact (((Only.refl [g] w).set (p := ⟨g, i * 3, none⟩) (Or.inl (by simp)) _).set (p := ⟨g, i * 3 + 1, none⟩) (Or.inl (by simp)) _).set (p := ⟨g, i * 3 + 2, none⟩) (Or.inl (by simp)) _
theorem SRow.put {w : World} {g cap : Nat} {M : List Fl} (h : SRow w g cap M) {i : Nat} (hi : i < M.length) (f : Fl) : SRow (put3 w g i f) g cap (M.set i f) := by
  obtain ⟨h1, C, h2, h3, h4⟩ := h
  refine ⟨by rw [List.length_set]; exact h1, _, Joins.block_setCell (Joins.block_setCell (Joins.block_setCell h2 _) _) _, by simp [h3], ?_⟩
  rw [List.length_set, ← flat_set M i f hi, ← h4]
  simp only [Array.toList_setIfInBounds, List.take_set]
theorem set_at {α : Type} (A B : List α) (x y : α) : (A ++ x :: B).set A.length y = A ++ y :: B := by
  rw [List.set_append_right _ _ (Nat.le_refl _), Nat.sub_self]
  rfl
theorem set_at2 {α : Type} (A N B : List α) (x y z : α) : (A ++ x :: (N ++ y :: B)).set (A.length + 1 + N.length) z = A ++ x :: (N ++ z :: B) := by
  rw [List.set_append_right _ _ (by omega), show A.length + 1 + N.length - A.length = N.length + 1 by omega, List.set_cons_succ, set_at]
theorem get_at {α : Type} (A B : List α) (x : α) : (A ++ x :: B)[A.length]? = some x := by
  rw [List.getElem?_append_right (Nat.le_refl _), Nat.sub_self]
  rfl
theorem get_at2 {α : Type} (A N B : List α) (x y : α) : (A ++ x :: (N ++ y :: B))[A.length + 1 + N.length]? = some y := by
  rw [List.getElem?_append_right (by omega), show A.length + 1 + N.length - A.length = N.length + 1 by omega, List.getElem?_cons_succ, get_at]
/-- Two places are exchanged: the first one is written first. -/
theorem SRow.swap {w : World} {g cap p q : Nat} {A N B : List Fl} {x y : Fl} (h : SRow w g cap (A ++ x :: (N ++ y :: B))) (hp : p = A.length) (hq : q = A.length + 1 + N.length) :
    SRow (put3 (put3 w g p y) g q x) g cap (A ++ y :: (N ++ x :: B)) ∧ Only [g] w (put3 (put3 w g p y) g q x) := by
  subst hp hq
  have h1 := h.put (i := A.length) (by simp) y
  rw [set_at] at h1
  have h2 := h1.put (i := A.length + 1 + N.length) (by simp; omega) x
  rw [set_at2] at h2
  exact ⟨h2, (only_put3 _ _ _ _).trans (only_put3 _ _ _ _) (fun k hk => Or.inl hk)⟩
/-- .. the second one is written first. -/
theorem SRow.swap' {w : World} {g cap p q : Nat} {A N B : List Fl} {x y : Fl} (h : SRow w g cap (A ++ x :: (N ++ y :: B))) (hp : p = A.length) (hq : q = A.length + 1 + N.length) :
    SRow (put3 (put3 w g q x) g p y) g cap (A ++ y :: (N ++ x :: B)) ∧ Only [g] w (put3 (put3 w g q x) g p y) := by
  subst hp hq
  have h1 := h.put (i := A.length + 1 + N.length) (by simp; omega) x
  rw [set_at2] at h1
  have h2 := h1.put (i := A.length) (by simp) y
  rw [set_at] at h2
  exact ⟨h2, (only_put3 _ _ _ _).trans (only_put3 _ _ _ _) (fun k hk => Or.inl hk)⟩
/-- What an exchange reads and writes on its way: place i is written first. -/
theorem SRow.ways {w : World} {g cap : Nat} {M : List Fl} (h : SRow w g cap M) {i j : Nat} {x y : Fl} (hx : M[i]? = some x) (hy : M[j]? = some y) (hne : i ≠ j) :
    ((w.cell? ⟨g, i * 3, none⟩ = some (.string x.1) ∧ w.cell? ⟨g, i * 3 + 1, none⟩ = some (.string x.2.1) ∧ w.cell? ⟨g, i * 3 + 2, none⟩ = some (.int .i64 x.2.2)) ∧ (w.cell? ⟨g, j * 3, none⟩ = some (.string y.1) ∧ w.cell? ⟨g, j * 3 + 1, none⟩ = some (.string y.2.1) ∧ w.cell? ⟨g, j * 3 + 2, none⟩ = some (.int .i64 y.2.2))) ∧
    (∀ u, (w.setCell ⟨g, i * 3, none⟩ u).cell? ⟨g, i * 3 + 1, none⟩ = some (.string x.2.1)) ∧ (∀ u v, ((w.setCell ⟨g, i * 3, none⟩ u).setCell ⟨g, i * 3 + 1, none⟩ v).cell? ⟨g, i * 3 + 2, none⟩ = some (.int .i64 x.2.2)) ∧
    (∀ u v z, (((w.setCell ⟨g, i * 3, none⟩ u).setCell ⟨g, i * 3 + 1, none⟩ v).setCell ⟨g, i * 3 + 2, none⟩ z).cell? ⟨g, j * 3, none⟩ = some (.string y.1)) ∧
    (∀ u v z u', ((((w.setCell ⟨g, i * 3, none⟩ u).setCell ⟨g, i * 3 + 1, none⟩ v).setCell ⟨g, i * 3 + 2, none⟩ z).setCell ⟨g, j * 3, none⟩ u').cell? ⟨g, j * 3 + 1, none⟩ = some (.string y.2.1)) ∧
    (∀ u v z u' v', (((((w.setCell ⟨g, i * 3, none⟩ u).setCell ⟨g, i * 3 + 1, none⟩ v).setCell ⟨g, i * 3 + 2, none⟩ z).setCell ⟨g, j * 3, none⟩ u').setCell ⟨g, j * 3 + 1, none⟩ v').cell? ⟨g, j * 3 + 2, none⟩ = some (.int .i64 y.2.2)) ∧
    (∀ k, w.frozen? ⟨g, k, none⟩ = false) ∧ (∀ u k, (w.setCell ⟨g, i * 3, none⟩ u).frozen? ⟨g, k, none⟩ = false) ∧ (∀ u v k, ((w.setCell ⟨g, i * 3, none⟩ u).setCell ⟨g, i * 3 + 1, none⟩ v).frozen? ⟨g, k, none⟩ = false) ∧
    (∀ u v z k, (((w.setCell ⟨g, i * 3, none⟩ u).setCell ⟨g, i * 3 + 1, none⟩ v).setCell ⟨g, i * 3 + 2, none⟩ z).frozen? ⟨g, k, none⟩ = false) ∧
    (∀ u v z u' k, ((((w.setCell ⟨g, i * 3, none⟩ u).setCell ⟨g, i * 3 + 1, none⟩ v).setCell ⟨g, i * 3 + 2, none⟩ z).setCell ⟨g, j * 3, none⟩ u').frozen? ⟨g, k, none⟩ = false) ∧
    (∀ u v z u' v' k, (((((w.setCell ⟨g, i * 3, none⟩ u).setCell ⟨g, i * 3 + 1, none⟩ v).setCell ⟨g, i * 3 + 2, none⟩ z).setCell ⟨g, j * 3, none⟩ u').setCell ⟨g, j * 3 + 1, none⟩ v').frozen? ⟨g, k, none⟩ = false) := by
  have ax := h.at hx
  have ay := h.at hy
  obtain ⟨_, C, h2, _⟩ := h
  refine ⟨⟨ax, ay⟩, fun u => ?_, fun u v => ?_, fun u v z => ?_, fun u v z u' => ?_, fun u v z u' v' => ?_, fun k => Joins.unfrozen_of_block h2 k, fun u k => Joins.unfrozen_of_block (Joins.block_setCell h2 u) k,
    fun u v k => Joins.unfrozen_of_block (Joins.block_setCell (Joins.block_setCell h2 u) v) k, fun u v z k => Joins.unfrozen_of_block (Joins.block_setCell (Joins.block_setCell (Joins.block_setCell h2 u) v) z) k,
    fun u v z u' k => Joins.unfrozen_of_block (Joins.block_setCell (Joins.block_setCell (Joins.block_setCell (Joins.block_setCell h2 u) v) z) u') k, fun u v z u' v' k => Joins.unfrozen_of_block (Joins.block_setCell (Joins.block_setCell (Joins.block_setCell (Joins.block_setCell (Joins.block_setCell h2 u) v) z) u') v') k⟩
  · rw [set_other _ (Or.inr (by omega))]; exact ax.2.1
  · rw [set_other _ (Or.inr (by omega)), set_other _ (Or.inr (by omega))]; exact ax.2.2
  · rw [set_other _ (Or.inr (by omega)), set_other _ (Or.inr (by omega)), set_other _ (Or.inr (by omega))]; exact ay.1
  · rw [set_other _ (Or.inr (by omega)), set_other _ (Or.inr (by omega)), set_other _ (Or.inr (by omega)), set_other _ (Or.inr (by omega))]; exact ay.2.1
  · rw [set_other _ (Or.inr (by omega)), set_other _ (Or.inr (by omega)), set_other _ (Or.inr (by omega)), set_other _ (Or.inr (by omega)), set_other _ (Or.inr (by omega))]; exact ay.2.2
theorem run_ixG (g k n c : Nat) (hk : k < n) (w : World) : Sem.run Try.prog (Instr.indexAt 22 (.slice (some ⟨g, 0, none⟩) n c) (.int .i64 (k : Int))) w = .ok (.pointer (some ⟨g, k * 3, none⟩)) w := by
  have h := run_ixF ⟨g, 0, none⟩ k n c hk w
  rw [add_zero] at h
  exact h
end Go.Proofs.Ythdgfchmglkpaaa
