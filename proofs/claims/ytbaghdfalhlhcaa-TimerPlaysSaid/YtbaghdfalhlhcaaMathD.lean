/-
  A heap of keys with times beside the row in order that has the same: which is first, what a set, a drop of a key at its place, the taking of the first turn. Mathematics; no program, no condition.
-/
import Derived.Test.YtbaghdfalhlhcaaMathB
import Derived.Test.YtbaghdfalhlhcaaMathC
namespace Go.Proofs.Ytbaghdfalhlhcaa

/-- The heap h has what the row r in order has. -/
structure HR (h r : List Sc) : Prop where
  heap : Hp (el h) h.length
  ord : Rises r
  uniq : Uniq r
  perm : h.Perm r
theorem HR.len {h r : List Sc} (k : HR h r) : h.length = r.length := k.perm.length_eq
theorem HR.mem {h r : List Sc} (k : HR h r) {x : Sc} : x ∈ h ↔ x ∈ r := k.perm.mem_iff
theorem uniq_perm {h r : List Sc} (hp : h.Perm r) (hu : Uniq r) : Uniq h := (hp.pairwise_iff (fun hab => hab.symm)).2 hu
theorem HR.uq {h r : List Sc} (k : HR h r) : Uniq h := uniq_perm k.perm k.uniq
theorem HR.nil : HR [] [] := ⟨fun j _ h => by simp at h, List.Pairwise.nil, List.Pairwise.nil, List.Perm.refl _⟩
/-- The heap's first is the row's first. -/
theorem HR.first {h r : List Sc} (k : HR h r) : h[0]? = r[0]? := by
  rcases Nat.eq_zero_or_pos h.length with hz | hp
  · have hz' : r.length = 0 := by rw [← k.len]; exact hz
    rw [List.getElem?_eq_none (by omega), List.getElem?_eq_none (by omega)]
  · have hr : 0 < r.length := by rw [← k.len]; exact hp
    have h0 := el_get hp
    have r0 : r[0]? = some r[0] := List.getElem?_eq_getElem hr
    rw [h0, r0]
    congr 1
    have hm : el h 0 ∈ r := k.mem.1 (List.mem_of_getElem? h0)
    have rm : r[0] ∈ h := k.mem.2 (List.mem_of_getElem? r0)
    obtain ⟨j, hj⟩ := List.getElem?_of_mem rm
    have hjl := (List.getElem?_eq_some_iff.1 hj).1
    have hle := k.heap.root j hjl
    rw [el_at hj] at hle
    obtain ⟨q, hq⟩ := List.getElem?_of_mem hm
    rcases Nat.eq_zero_or_pos q with rfl | hq0
    · rw [r0] at hq
      exact (Option.some.inj hq).symm
    · have hlt := rises_lt k.ord hq0 r0 hq
      unfold leS at hle
      rw [hlt] at hle
      cases hle
theorem setK_perm (L : List Sc) (k : ByteArray) (t : Int) : (setK L k t).Perm ((k, t) :: dropK L k) := by
  rw [setK_form]
  refine List.perm_middle.trans ?_
  rw [List.take_append_drop]
theorem dropK_perm {h r : List Sc} (hp : h.Perm r) (k : ByteArray) : (dropK h k).Perm (dropK r k) := hp.filter _
theorem setK_perms {h r : List Sc} (hp : h.Perm r) (k : ByteArray) (t : Int) : ((k, t) :: dropK h k).Perm (setK r k t) := ((dropK_perm hp k).cons _).trans (setK_perm r k t).symm
/-- A key's time is turned at its place. -/
theorem set_perm {h r : List Sc} (hp : h.Perm r) (hu : Uniq h) {i : Nat} {x : Sc} (hx : h[i]? = some x) (t : Int) : (h.set i (x.1, t)).Perm (setK r x.1 t) := by
  obtain ⟨hi, _⟩ := List.getElem?_eq_some_iff.1 hx
  refine List.Perm.trans ?_ (setK_perms hp x.1 t)
  rw [dropK_at hu hx, List.set_eq_take_append_cons_drop, if_pos hi]
  exact List.perm_middle
/-- A key comes at the end. -/
theorem push_perm {h r : List Sc} (hp : h.Perm r) {k : ByteArray} (hk : ∀ x ∈ h, x.1 ≠ k) (t : Int) : (h ++ [(k, t)]).Perm (setK r k t) := by
  refine List.Perm.trans ?_ (setK_perms hp k t)
  rw [dropK_none hk]
  exact List.perm_append_comm
/-- The last one comes in the place of one that goes. -/
def outL (h : List Sc) (i : Nat) : List Sc := (h.set i (el h (h.length - 1))).take (h.length - 1)
theorem outL_len {h : List Sc} {i : Nat} : (outL h i).length = h.length - 1 := by unfold outL; rw [List.length_take, List.length_set]; omega
theorem outL_get {h : List Sc} {i k : Nat} (hk : k < h.length - 1) : (outL h i)[k]? = if k = i then some (el h (h.length - 1)) else h[k]? := by
  unfold outL
  rw [List.getElem?_take, if_pos hk, List.getElem?_set]
  by_cases h1 : k = i
  · subst h1
    simp; omega
  · have h2 : ¬ i = k := fun e => h1 e.symm
    simp only [h1, h2, if_false]
theorem out_perm {h r : List Sc} (hp : h.Perm r) (hu : Uniq h) {i : Nat} {x : Sc} (hx : h[i]? = some x) : (outL h i).Perm (dropK r x.1) := by
  obtain ⟨hi, _⟩ := List.getElem?_eq_some_iff.1 hx
  refine List.Perm.trans ?_ (dropK_perm hp x.1)
  rw [dropK_at hu hx]
  unfold outL
  have hl := el_get (show h.length - 1 < h.length by omega)
  rcases Nat.lt_or_ge i (h.length - 1) with hlt | hge
  · have e1 : h.drop (i + 1) = (h.drop (i + 1)).take (h.length - 1 - (i + 1)) ++ [el h (h.length - 1)] := by
      apply List.ext_getElem?
      intro k
      rcases Nat.lt_trichotomy k (h.length - 1 - (i + 1)) with h1 | h1 | h1
      · rw [List.getElem?_append_left (by rw [List.length_take, List.length_drop]; omega), List.getElem?_take, if_pos h1]
      · rw [List.getElem?_append_right (by rw [List.length_take, List.length_drop]; omega), List.length_take, List.length_drop, h1, List.getElem?_drop]
        rw [show i + 1 + (h.length - 1 - (i + 1)) = h.length - 1 by omega, hl, show h.length - 1 - (i + 1) - min (h.length - 1 - (i + 1)) (h.length - (i + 1)) = 0 by omega]
        rfl
      · rw [List.getElem?_eq_none (by rw [List.length_drop]; omega), List.getElem?_eq_none (by rw [List.length_append, List.length_take, List.length_drop]; simp; omega)]
    have e2 : (h.set i (el h (h.length - 1))).take (h.length - 1) = h.take i ++ el h (h.length - 1) :: (h.drop (i + 1)).take (h.length - 1 - (i + 1)) := by
      rw [List.set_eq_take_append_cons_drop, if_pos hi, List.take_append, List.take_of_length_le (by rw [List.length_take]; omega), List.length_take, Nat.min_eq_left (by omega), show h.length - 1 - i = (h.length - 1 - (i + 1)) + 1 by omega, List.take_succ_cons]
    rw [e2]
    conv => rhs; rw [e1]
    exact (List.Perm.refl _).append (List.perm_append_comm (l₁ := [el h (h.length - 1)]))
  · have hie : i = h.length - 1 := by omega
    subst hie
    rw [List.take_set_of_le (Nat.le_refl _), List.drop_eq_nil_of_le (by omega), List.append_nil]
/-- The first goes. -/
theorem dropK_first {r : List Sc} (hu : Uniq r) {x : Sc} (hx : r[0]? = some x) : dropK r x.1 = r.drop 1 := by
  rw [dropK_at hu hx]
  simp
theorem Rises.tail {r : List Sc} (h : Rises r) (k : Nat) : Rises (r.drop k) := List.Pairwise.sublist (List.drop_sublist _ _) h
theorem Uniq.tail {r : List Sc} (h : Uniq r) (k : Nat) : Uniq (r.drop k) := h.sub (List.drop_sublist _ _)
end Go.Proofs.Ytbaghdfalhlhcaa
