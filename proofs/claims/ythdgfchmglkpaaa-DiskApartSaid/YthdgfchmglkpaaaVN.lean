/-
  Mathematics of a stable sort by blocks: rows that are in order block by block; what is left when all is one block. No program, no condition.
-/
import Derived.Test.YthdgfchmglkpaaaChecked
import Derived.Test.YthdgfchmglkpaaaMath
import Derived.Test.YthdgfchmglkpaaaA
import Derived.Test.YthdgfchmglkpaaaVM
import Derived.WalkKit
import Derived.WalkSpells
import Derived.WalkLawsBesides
import Derived.Deep.QuietTactic
import Derived.BigQuiet
import Derived.Lib.Hide
import Derived.Lib.SmallJoins
import Derived.Outline
import Derived.OwnWalk
import Derived.Deep.CutBlock
import Derived.BigRegion
import Derived.StillTailTactics
import Derived.Laws.AppendOwnNone
import Derived.Maps.AppendAt
import Derived.Deep.RegionLaw
import Derived.Deep.RegionHeld3
import Derived.Lib.BufferRead
import Derived.Deep.AppendLies
namespace Go.Proofs.Ythdgfchmglkpaaa
open Go.RowKit
/-- Each thing lies in the block in which it stood, and each block is in order. -/
def InB (bs : Nat) (G : List TF) : Prop := ∀ i x, G[i]? = some x → x.2 / bs = i / bs ∧ ∀ j y, j < i → j / bs = i / bs → G[j]? = some y → ltT y x
/-- Ahead of a place the blocks are the greater ones. -/
def Half (a lo hi : Nat) (G : List TF) : Prop := ∀ i x, G[i]? = some x →
  (i < a → x.2 / hi = i / hi ∧ ∀ j y, j < i → j / hi = i / hi → G[j]? = some y → ltT y x) ∧
  (a ≤ i → x.2 / lo = i / lo ∧ ∀ j y, a ≤ j → j < i → j / lo = i / lo → G[j]? = some y → ltT y x)
theorem half_start {bs hi : Nat} {G : List TF} (h : InB bs G) : Half 0 bs hi G := fun i x hx =>
  ⟨fun h0 => absurd h0 (Nat.not_lt_zero i), fun _ => ⟨(h i x hx).1, fun j y _ hj e hy => (h i x hx).2 j y hj e hy⟩⟩
theorem half_done {n lo hi : Nat} {G : List TF} (h : Half n lo hi G) (hl : G.length = n) : InB hi G := fun i x hx =>
  (h i x hx).1 (by have := (List.getElem?_eq_some_iff.1 hx).1; omega)
theorem inB_all {bs n : Nat} {G : List TF} (h : InB bs G) (hl : G.length = n) (hn : n ≤ bs) : Srt G := by
  refine List.pairwise_iff_getElem.2 (fun i j hi hj hij => ?_)
  refine (h j _ (List.getElem?_eq_getElem hj)).2 i _ hij ?_ (List.getElem?_eq_getElem hi)
  rw [Nat.div_eq_of_lt (by omega), Nat.div_eq_of_lt (by omega)]
theorem inB_one (L : List Fl) : InB 1 L.zipIdx := fun i x hx => by
  have : x.2 = i := by
    rw [List.getElem?_zipIdx] at hx
    cases hq : L[i]? with
    | none => rw [hq] at hx; simp at hx
    | some f => rw [hq] at hx; simp at hx; rw [← hx]
  refine ⟨by rw [this], fun j y hj e _ => ?_⟩
  rw [Nat.div_one, Nat.div_one] at e
  omega
theorem div_of {i a hi : Nat} (hd : hi ∣ a) (h1 : a ≤ i) (h2 : i < a + hi) : i / hi = a / hi := by
  obtain ⟨k, rfl⟩ := hd
  have h0 : 0 < hi := by omega
  rw [Nat.mul_div_cancel_left k h0]
  have : i / hi = k := by
    rw [Nat.div_eq_iff h0]
    constructor
    · rw [Nat.mul_comm k hi]; exact h1
    · rw [Nat.mul_comm k hi]; omega
  exact this
theorem div_up {i j lo hi : Nat} (hd : lo ∣ hi) (h : i / lo = j / lo) : i / hi = j / hi := by
  obtain ⟨k, rfl⟩ := hd
  rw [← Nat.div_div_eq_div_mul, ← Nat.div_div_eq_div_mul, h]
/-- One block more. -/
theorem half_step {a b lo hi : Nat} {P B Z R : List TF} (h : Half a lo hi (P ++ B ++ R)) (hP : P.length = a) (hB : B.length = b - a) (hab : a ≤ b) (hb : b ≤ a + hi) (hend : b = a + hi ∨ R = []) (hda : hi ∣ a) (hdl : lo ∣ hi)
    (hp : Z.Perm B) (hz : Srt Z) : Half b lo hi (P ++ Z ++ R) := by
  have hZ : Z.length = b - a := by rw [hp.length_eq, hB]
  have hP2 : ∀ i, i < a → (P ++ Z ++ R)[i]? = (P ++ B ++ R)[i]? := fun i hi => by
    rw [List.append_assoc, List.append_assoc, List.getElem?_append_left (by omega), List.getElem?_append_left (by omega)]
  have hR2 : ∀ i, b ≤ i → (P ++ Z ++ R)[i]? = (P ++ B ++ R)[i]? := fun i hi => by
    rw [List.getElem?_append_right (by simp; omega), List.getElem?_append_right (by simp; omega), List.length_append, List.length_append, hZ, hB]
  have hZ2 : ∀ i, a ≤ i → i < b → (P ++ Z ++ R)[i]? = Z[i - a]? := fun i h1 h2 => by
    rw [List.getElem?_append_left (by simp; omega), List.getElem?_append_right (by omega), hP]
  have hB2 : ∀ i, a ≤ i → i < b → (P ++ B ++ R)[i]? = B[i - a]? := fun i h1 h2 => by
    rw [List.getElem?_append_left (by simp; omega), List.getElem?_append_right (by omega), hP]
  have hlow : ∀ i j, i < a → a ≤ j → i / hi ≠ j / hi := fun i j h1 h2 e => by
    obtain ⟨k, rfl⟩ := hda
    have hh : 0 < hi := by
      rcases Nat.eq_zero_or_pos hi with e0 | e0
      · subst e0; omega
      · exact e0
    have a1 : i / hi < k := (Nat.div_lt_iff_lt_mul hh).2 (by rw [Nat.mul_comm]; exact h1)
    have a2 : k ≤ j / hi := (Nat.le_div_iff_mul_le hh).2 (by rw [Nat.mul_comm]; exact h2)
    omega
  intro i x hx
  refine ⟨fun hi1 => ?_, fun hi1 => ?_⟩
  · by_cases hia : i < a
    · rw [hP2 i hia] at hx
      obtain ⟨e1, e2⟩ := (h i x hx).1 hia
      exact ⟨e1, fun j y hj e hy => e2 j y hj e (by rw [← hP2 j (by omega)]; exact hy)⟩
    · rw [hZ2 i (by omega) hi1] at hx
      have hm : x ∈ B := hp.mem_iff.1 (List.mem_of_getElem? hx)
      obtain ⟨k, hk⟩ := mem_get hm
      have hkl := (List.getElem?_eq_some_iff.1 hk).1
      have e3 := ((h (a + k) x (by rw [hB2 (a + k) (by omega) (by omega), Nat.add_sub_cancel_left]; exact hk)).2 (by omega)).1
      have e4 := div_up hdl e3
      refine ⟨(e4.trans (div_of hda (by omega) (by omega))).trans (div_of hda (by omega) (by omega)).symm, fun j y hj e hy => ?_⟩
      have hja : a ≤ j := by
        rcases Nat.lt_or_ge j a with h1 | h1
        · exact absurd e (hlow j i h1 (by omega))
        · exact h1
      rw [hZ2 j hja (by omega)] at hy
      exact srt_get hz (by omega) hy hx
  · rw [hR2 i hi1] at hx
    obtain ⟨e1, e2⟩ := (h i x hx).2 (by omega)
    exact ⟨e1, fun j y hbj hj e hy => e2 j y (by omega) hj e (by rw [← hR2 j hbj]; exact hy)⟩
/-- The part of a row from a place on that is one lesser block is in order. -/
theorem half_blk {a c lo hi : Nat} {Q X S : List TF} (h : Half a lo hi (Q ++ X ++ S)) (hac : a ≤ c) (hdc : lo ∣ c) (hQ : Q.length = c) (hX : X.length ≤ lo) : Srt X ∧ ∀ x ∈ X, x.2 / lo = c / lo := by
  have hx2 : ∀ i, i < X.length → (Q ++ X ++ S)[c + i]? = X[i]? := fun i hi => by
    rw [List.getElem?_append_left (by simp; omega), List.getElem?_append_right (by omega), hQ, Nat.add_sub_cancel_left]
  constructor
  · refine List.pairwise_iff_getElem.2 (fun i j hi hj hij => ?_)
    refine ((h (c + j) X[j] (by rw [hx2 j hj, List.getElem?_eq_getElem hj])).2 (by omega)).2 (c + i) X[i] (by omega) (by omega) ?_ (by rw [hx2 i hi, List.getElem?_eq_getElem hi])
    exact (div_of hdc (by omega) (by omega)).trans (div_of hdc (by omega) (by omega)).symm
  · intro x hx
    obtain ⟨i, hi⟩ := mem_get hx
    have hil := (List.getElem?_eq_some_iff.1 hi).1
    rw [((h (c + i) x (by rw [hx2 i hil]; exact hi)).2 (by omega)).1, div_of hdc (by omega) (by omega)]
theorem aft_of {X Y : List TF} {lo a : Nat} (hX : ∀ x ∈ X, x.2 / lo = a / lo) (hY : ∀ y ∈ Y, y.2 / lo = (a + lo) / lo) (h0 : 0 < lo) : Aft X Y := fun x hx y hy => by
  have e1 := hX x hx
  have e2 := hY y hy
  rw [Nat.add_div_right a h0] at e2
  rcases Nat.lt_or_ge x.2 y.2 with h | h
  · exact h
  · have := Nat.div_le_div_right (c := lo) h
    omega
end Go.Proofs.Ythdgfchmglkpaaa
