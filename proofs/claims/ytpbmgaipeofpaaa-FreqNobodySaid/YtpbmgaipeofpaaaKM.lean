/-
  Keys in the order of when they were touched last: what a touch, a drop turn. Mathematics; no program, no condition.
-/
import Derived.Test.YtpbmgaipeofpaaaMath
namespace Go.Proofs.Ytpbmgaipeofpaaa

/-- A key goes. -/
def goK (L : List ByteArray) (k : ByteArray) : List ByteArray := L.filter fun x => !decide (x = k)
theorem mem_goK {L : List ByteArray} {k x : ByteArray} : x ∈ goK L k ↔ x ∈ L ∧ x ≠ k := by
  unfold goK
  rw [List.mem_filter]
  simp
theorem goK_sub (L : List ByteArray) (k : ByteArray) : (goK L k).Sublist L := List.filter_sublist
theorem goK_le (L : List ByteArray) (k : ByteArray) : (goK L k).length ≤ L.length := List.length_filter_le _ _
theorem goK_none {L : List ByteArray} {k : ByteArray} (h : k ∉ L) : goK L k = L := by
  unfold goK
  rw [List.filter_eq_self]
  intro x hx
  have : x ≠ k := fun e => h (e ▸ hx)
  simp [this]
theorem goK_snoc (L : List ByteArray) (x k : ByteArray) : goK (L ++ [x]) k = if x = k then goK L k else goK L k ++ [x] := by
  unfold goK
  rw [List.filter_append]
  by_cases h : x = k <;> simp [h]
theorem goK_cons (L : List ByteArray) (x k : ByteArray) : goK (x :: L) k = if x = k then goK L k else x :: goK L k := by
  unfold goK
  rw [List.filter_cons]
  by_cases h : x = k <;> simp [h]
theorem goK_len_iff {L : List ByteArray} {k : ByteArray} : (goK L k).length < L.length ↔ k ∈ L := by
  induction L with
  | nil => simp [goK]
  | cons a L ih =>
    rw [goK_cons]
    have := goK_le L k
    by_cases h : a = k
    · simp [h]; omega
    · rw [if_neg h]
      simp only [List.length_cons, List.mem_cons]
      constructor
      · intro h1
        exact Or.inr (ih.1 (by omega))
      · rintro (e | e)
        · exact absurd e.symm h
        · have := ih.2 e; omega
theorem goK_nodup {L : List ByteArray} (h : L.Nodup) (k : ByteArray) : (goK L k).Nodup := List.Pairwise.sublist (goK_sub L k) h
/-- In a row that has each key once, the one at a place goes. -/
theorem goK_at {L : List ByteArray} (h : L.Nodup) {i : Nat} {k : ByteArray} (hk : L[i]? = some k) : goK L k = L.take i ++ L.drop (i + 1) := by
  induction L generalizing i with
  | nil => simp at hk
  | cons a L ih =>
    have h' := List.nodup_cons.1 h
    rw [goK_cons]
    cases i with
    | zero =>
      simp at hk
      subst hk
      rw [if_pos rfl, goK_none h'.1]
      simp
    | succ i =>
      rw [List.getElem?_cons_succ] at hk
      have hne : a ≠ k := fun e => h'.1 (e ▸ List.mem_of_getElem? hk)
      rw [if_neg hne, ih h'.2 hk]
      simp
/-- Whether a key is there. -/
def hasK (L : List ByteArray) (k : ByteArray) : Bool := L.any fun x => decide (x = k)
theorem hasK_iff {L : List ByteArray} {k : ByteArray} : hasK L k = true ↔ k ∈ L := by
  unfold hasK
  rw [List.any_eq_true]
  constructor
  · rintro ⟨x, hx, he⟩
    exact of_decide_eq_true he ▸ hx
  · intro h
    exact ⟨k, h, decide_eq_true rfl⟩
theorem hasK_no {L : List ByteArray} {k : ByteArray} : hasK L k = false ↔ k ∉ L := by
  rw [← hasK_iff]
  cases hasK L k <;> simp
theorem hasK_len (L : List ByteArray) (k : ByteArray) : hasK L k = decide ((goK L k).length < L.length) := by
  cases h : hasK L k with
  | true => exact (decide_eq_true (goK_len_iff.2 (hasK_iff.1 h))).symm
  | false => exact (decide_eq_false (fun e => (hasK_no.1 h) (goK_len_iff.1 e))).symm
/-- A key is the one that was touched last. -/
def tipK (L : List ByteArray) (k : ByteArray) : List ByteArray := goK L k ++ [k]
theorem mem_tipK {L : List ByteArray} {k x : ByteArray} : x ∈ tipK L k ↔ x = k ∨ x ∈ L := by
  unfold tipK
  rw [List.mem_append, mem_goK, List.mem_singleton]
  by_cases h : x = k <;> simp [h]
theorem tipK_nodup {L : List ByteArray} (h : L.Nodup) (k : ByteArray) : (tipK L k).Nodup := by
  unfold tipK
  rw [List.nodup_append]
  refine ⟨goK_nodup h k, by simp, fun a ha b hb => ?_⟩
  rw [List.mem_singleton.1 hb]
  exact (mem_goK.1 ha).2
theorem tipK_new {L : List ByteArray} {k : ByteArray} (h : k ∉ L) : tipK L k = L ++ [k] := by unfold tipK; rw [goK_none h]
theorem tipK_le (L : List ByteArray) (k : ByteArray) : (tipK L k).length ≤ L.length + 1 := by
  unfold tipK
  rw [List.length_append]
  have := goK_le L k
  simp
  omega
end Go.Proofs.Ytpbmgaipeofpaaa
