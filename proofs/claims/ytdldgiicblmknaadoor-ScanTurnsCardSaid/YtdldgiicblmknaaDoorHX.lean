/-
  What a law holds beside a table: the row of keys. A table's shape.
-/
import Derived.Test.YtdldgiicblmknaaDoorHW
import Derived.Deep.RegionHeld3
import Derived.Deep.CutRange
import Derived.Deep.CutBlock
namespace Go.Proofs.YtdldgiicblmknaaDoor
open Go.RowKit

theorem farO_false {l : List Op3} (h : farO l = false) : l.length ≤ 300 ∧ ∀ x ∈ l, x.2.1.size ≤ 200 := by
  unfold farO at h
  rw [Bool.or_eq_false_iff, List.any_eq_false] at h
  obtain ⟨h1, h2⟩ := h
  refine ⟨by simp at h2; omega, fun x hx => ?_⟩
  have := h1 x hx
  simp at this; omega
theorem fac_below {B : Nat} {w w' : World} (h : Fac w) (hz : 0 < B) (hb : Below B w w') : Fac w' := ⟨(hb.cell (p := ⟨0, 0, none⟩) hz).trans h.1, (hb.cell (p := ⟨0, 1, none⟩) hz).trans h.2⟩
theorem onB {B : Nat} {a b c : World} (h : Below B a b) (k : Below b.heap.size b c) (hB : B ≤ b.heap.size) : Below B a c := h.trans (k.mono hB)

/-- The row of a table's keys. -/
def KeysAt (w : World) (A : Option Addr) (L : List En) : Prop := ∀ j e, L[j]? = some e → ∃ g, A = some ⟨g, 0, none⟩ ∧ g < w.heap.size ∧ w.cell? ⟨g, j, none⟩ = some (.string e.2.1)
theorem keys_at {B : Nat} {X : Tb} {w : World} (h : Ok B X w) :
    Calls Tryd.prog 20 #[.pointer (some ⟨X.T, 0, none⟩)] w fun r w' => ∃ (A : Option Addr) (c : Nat), r = .returned (.slice A X.ents.length c) ∧ KeysAt w' A X.ents ∧ Below w.heap.size w w' := by
  refine (keys_any h).mono ?_
  rintro r w' ⟨v, rfl, how, hb⟩
  have how2 := how
  obtain ⟨h1, h2 | ⟨g, cap, cur, h2, h3, h4, h5, h6, h7, h8⟩⟩ := how2
  · obtain ⟨rfl, h3⟩ := h2
    have hl : X.ents = [] := List.length_eq_zero_iff.1 h3
    exact ⟨none, 0, by rw [h3], by rw [hl]; exact (fun j e hj => by simp at hj), hb⟩
  · subst h2
    refine ⟨some ⟨g, 0, none⟩, cap, rfl, ?_, hb⟩
    intro j e hj
    have hlt : j < X.ents.length := (List.getElem?_eq_some_iff.1 hj).1
    refine ⟨g, rfl, some_lt h4, ?_⟩
    rw [how.cellAt j (by omega)]
    simp [keyV, hj]
/-- How often a key stands in a row. -/
def cnt (key : ByteArray) (L : List En) : Nat := L.countP fun e => e.2.1.toList == key.toList
theorem cnt_le (key : ByteArray) (L : List En) : cnt key L ≤ L.length := List.countP_le_length
theorem cnt_snoc (key : ByteArray) (L : List En) (e : En) : cnt key (L ++ [e]) = cnt key L + (if (e.2.1.toList == key.toList) = true then 1 else 0) := by
  unfold cnt; rw [List.countP_append]; simp [List.countP_cons]
theorem cnt_has {X : Tb} (hi : Inv X) {key : ByteArray} {has : Bool} {want : Int} (hv : View X key (if has = true then some want else none)) : cnt key X.ents = if has = true then 1 else 0 := by
  have hgen : ∀ L : List En, (L.map fun e => e.2.1).Nodup → cnt key L ≤ 1 := by
    intro L
    induction L with
    | nil => intro _; simp [cnt]
    | cons e L ih =>
      intro hn
      rw [List.map_cons, List.nodup_cons] at hn
      unfold cnt at ih ⊢
      rw [List.countP_cons]
      split
      · next he =>
        have hk := bytes_eq he
        have h0 : List.countP (fun e => e.2.1.toList == key.toList) L = 0 := by
          rw [List.countP_eq_zero]
          intro x hx hxk
          have := bytes_eq hxk
          exact hn.1 (by rw [hk, ← this]; exact List.mem_map_of_mem (f := fun e : En => e.2.1) hx)
        omega
      · have := ih hn.2; omega
  have h1 := hgen X.ents hi.nd
  cases has with
  | true =>
    obtain ⟨b, hb⟩ := hv
    have h2 : 0 < cnt key X.ents := by unfold cnt; rw [List.countP_pos_iff]; exact ⟨_, hb, by simp⟩
    simp; omega
  | false =>
    have h2 : cnt key X.ents = 0 := by
      unfold cnt; rw [List.countP_eq_zero]
      intro x hx hxk
      exact hv x hx (bytes_eq hxk)
    simp [h2]


end Go.Proofs.YtdldgiicblmknaaDoor
