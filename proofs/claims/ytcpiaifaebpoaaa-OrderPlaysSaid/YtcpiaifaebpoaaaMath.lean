/-
  Keys in the order of when they were touched last: what a touch, a drop turn; when a key was touched last. Mathematics; no program, no condition.
-/
import Derived.Test.YtcpiaifaebpoaaaChecked
import Derived.WalkKit
import Derived.Lib.Strings
namespace Go.Proofs.Ytcpiaifaebpoaaa

/-- A key goes. -/
def goK (L : List ByteArray) (k : ByteArray) : List ByteArray := L.filter fun x => !decide (x = k)
theorem mem_goK {L : List ByteArray} {k x : ByteArray} : x ∈ goK L k ↔ x ∈ L ∧ x ≠ k := by
  unfold goK
  rw [List.mem_filter]
  simp
theorem goK_sub (L : List ByteArray) (k : ByteArray) : (goK L k).Sublist L := List.filter_sublist
theorem goK_le (L : List ByteArray) (k : ByteArray) : (goK L k).length ≤ L.length := List.length_filter_le _ _
theorem goK_none {L : List ByteArray} {k : ByteArray} (h : k ∉ L) : goK L k = L := by
  unfold goK
  rw [List.filter_eq_self]
  intro x hx
  have : x ≠ k := fun e => h (e ▸ hx)
  simp [this]
theorem goK_snoc (L : List ByteArray) (x k : ByteArray) : goK (L ++ [x]) k = if x = k then goK L k else goK L k ++ [x] := by
  unfold goK
  rw [List.filter_append]
  by_cases h : x = k <;> simp [h]
theorem goK_cons (L : List ByteArray) (x k : ByteArray) : goK (x :: L) k = if x = k then goK L k else x :: goK L k := by
  unfold goK
  rw [List.filter_cons]
  by_cases h : x = k <;> simp [h]
theorem goK_len_iff {L : List ByteArray} {k : ByteArray} : (goK L k).length < L.length ↔ k ∈ L := by
  induction L with
  | nil => simp [goK]
  | cons a L ih =>
    rw [goK_cons]
    have := goK_le L k
    by_cases h : a = k
    · simp [h]; omega
    · rw [if_neg h]
      simp only [List.length_cons, List.mem_cons]
      constructor
      · intro h1
        exact Or.inr (ih.1 (by omega))
      · rintro (e | e)
        · exact absurd e.symm h
        · have := ih.2 e; omega
theorem goK_nodup {L : List ByteArray} (h : L.Nodup) (k : ByteArray) : (goK L k).Nodup := List.Pairwise.sublist (goK_sub L k) h
/-- In a row that has each key once, the one at a place goes. -/
theorem goK_at {L : List ByteArray} (h : L.Nodup) {i : Nat} {k : ByteArray} (hk : L[i]? = some k) : goK L k = L.take i ++ L.drop (i + 1) := by
  induction L generalizing i with
  | nil => simp at hk
  | cons a L ih =>
    have h' := List.nodup_cons.1 h
    rw [goK_cons]
    cases i with
    | zero =>
      simp at hk
      subst hk
      rw [if_pos rfl, goK_none h'.1]
      simp
    | succ i =>
      rw [List.getElem?_cons_succ] at hk
      have hne : a ≠ k := fun e => h'.1 (e ▸ List.mem_of_getElem? hk)
      rw [if_neg hne, ih h'.2 hk]
      simp
/-- Whether a key is there. -/
def hasK (L : List ByteArray) (k : ByteArray) : Bool := L.any fun x => decide (x = k)
theorem hasK_iff {L : List ByteArray} {k : ByteArray} : hasK L k = true ↔ k ∈ L := by
  unfold hasK
  rw [List.any_eq_true]
  constructor
  · rintro ⟨x, hx, he⟩
    exact of_decide_eq_true he ▸ hx
  · intro h
    exact ⟨k, h, decide_eq_true rfl⟩
theorem hasK_no {L : List ByteArray} {k : ByteArray} : hasK L k = false ↔ k ∉ L := by
  rw [← hasK_iff]
  cases hasK L k <;> simp
theorem hasK_len (L : List ByteArray) (k : ByteArray) : hasK L k = decide ((goK L k).length < L.length) := by
  cases h : hasK L k with
  | true => exact (decide_eq_true (goK_len_iff.2 (hasK_iff.1 h))).symm
  | false => exact (decide_eq_false (fun e => (hasK_no.1 h) (goK_len_iff.1 e))).symm
/-- A key is the one that was touched last. -/
def tipK (L : List ByteArray) (k : ByteArray) : List ByteArray := goK L k ++ [k]
theorem mem_tipK {L : List ByteArray} {k x : ByteArray} : x ∈ tipK L k ↔ x = k ∨ x ∈ L := by
  unfold tipK
  rw [List.mem_append, mem_goK, List.mem_singleton]
  by_cases h : x = k <;> simp [h]
theorem tipK_nodup {L : List ByteArray} (h : L.Nodup) (k : ByteArray) : (tipK L k).Nodup := by
  unfold tipK
  rw [List.nodup_append]
  refine ⟨goK_nodup h k, by simp, fun a ha b hb => ?_⟩
  rw [List.mem_singleton.1 hb]
  exact (mem_goK.1 ha).2
theorem tipK_new {L : List ByteArray} {k : ByteArray} (h : k ∉ L) : tipK L k = L ++ [k] := by unfold tipK; rw [goK_none h]
theorem tipK_le (L : List ByteArray) (k : ByteArray) : (tipK L k).length ≤ L.length + 1 := by
  unfold tipK
  rw [List.length_append]
  have := goK_le L k
  simp
  omega
/-- A call: a drop (true), or a touch, of a key. -/
abbrev OpD := Bool × ByteArray
def stepD (L : List ByteArray) (o : OpD) : List ByteArray := if o.1 then goK L o.2 else tipK L o.2
def runD (l : List OpD) : List ByteArray := l.foldl stepD []
theorem runD_snoc (l : List OpD) (o : OpD) : runD (l ++ [o]) = stepD (runD l) o := by unfold runD; rw [List.foldl_append]; rfl
theorem stepD_le (L : List ByteArray) (o : OpD) : (stepD L o).length ≤ L.length + 1 := by
  unfold stepD
  have := goK_le L o.2
  have := tipK_le L o.2
  split <;> omega
theorem stepD_nodup {L : List ByteArray} (h : L.Nodup) (o : OpD) : (stepD L o).Nodup := by
  unfold stepD
  split
  · exact goK_nodup h _
  · exact tipK_nodup h _
theorem opd_ind {p : List OpD → Prop} (h0 : p []) (h1 : ∀ l o, p l → p (l ++ [o])) (l : List OpD) : p l := by
  have : ∀ m : List OpD, p m.reverse := fun m => by
    induction m with
    | nil => exact h0
    | cons a m ih => rw [List.reverse_cons]; exact h1 _ _ ih
  rw [← List.reverse_reverse l]
  exact this _
theorem runD_le (l : List OpD) : (runD l).length ≤ l.length :=
  opd_ind (p := fun l => (runD l).length ≤ l.length) (by simp [runD]) (fun l o h => by
    rw [runD_snoc]
    have := stepD_le (runD l) o
    simp
    omega) l
theorem runD_nodup (l : List OpD) : (runD l).Nodup :=
  opd_ind (p := fun l => (runD l).Nodup) (by simp [runD]) (fun l o h => by rw [runD_snoc]; exact stepD_nodup h o) l
/-- The place of the touch that a key's stand hangs on; -1: there is none, or the key was dropped since. -/
def sinceD (k : ByteArray) : List OpD → Nat → Int → Int
  | [], _, r => r
  | o :: l, i, r => sinceD k l (i + 1) (if o.2 = k then (if o.1 then -1 else (i : Int)) else r)
def lastD (l : List OpD) (k : ByteArray) : Int := sinceD k l 0 (-1)
theorem sinceD_snoc (k : ByteArray) (o : OpD) : ∀ (l : List OpD) (i : Nat) (r : Int), sinceD k (l ++ [o]) i r = if o.2 = k then (if o.1 then -1 else ((i + l.length : Nat) : Int)) else sinceD k l i r
  | [], i, r => by simp [sinceD]
  | a :: l, i, r => by
    rw [List.cons_append, sinceD, sinceD_snoc k o l, sinceD]
    rw [show i + 1 + l.length = i + (a :: l).length by simp; omega]
theorem lastD_snoc (l : List OpD) (o : OpD) (k : ByteArray) : lastD (l ++ [o]) k = if o.2 = k then (if o.1 then -1 else (l.length : Int)) else lastD l k := by
  unfold lastD
  rw [sinceD_snoc]
  simp
theorem lastD_nil (k : ByteArray) : lastD [] k = -1 := rfl
theorem lastD_range (l : List OpD) (k : ByteArray) : -1 ≤ lastD l k ∧ lastD l k < l.length :=
  opd_ind (p := fun l => -1 ≤ lastD l k ∧ lastD l k < l.length) (by simp [lastD_nil]) (fun l o h => by
    rw [lastD_snoc]
    simp only [List.length_append, List.length_cons, List.length_nil]
    split
    · split <;> omega
    · omega) l
/-- What is there is what was touched and not dropped since, and it stands in the order of the last touches. -/
theorem runD_order (l : List OpD) : (runD l).Pairwise (fun a b => lastD l a < lastD l b) ∧ ∀ k, k ∈ runD l ↔ 0 ≤ lastD l k := by
  refine opd_ind (p := fun l => (runD l).Pairwise (fun a b => lastD l a < lastD l b) ∧ ∀ k, k ∈ runD l ↔ 0 ≤ lastD l k) ⟨List.Pairwise.nil, fun k => by simp [runD, lastD_nil]⟩ (fun l o h => ?_) l
  obtain ⟨h1, h2⟩ := h
  obtain ⟨d, k⟩ := o
  rw [runD_snoc]
  have hgo : (goK (runD l) k).Pairwise (fun a b => lastD (l ++ [(d, k)]) a < lastD (l ++ [(d, k)]) b) := by
    refine (List.Pairwise.sublist (goK_sub _ k) h1).imp_of_mem ?_
    intro a b ha hb hab
    rw [lastD_snoc, lastD_snoc, if_neg (fun e => (mem_goK.1 ha).2 e.symm), if_neg (fun e => (mem_goK.1 hb).2 e.symm)]
    exact hab
  unfold stepD
  cases d with
  | true =>
    rw [if_pos rfl]
    refine ⟨hgo, fun x => ?_⟩
    rw [mem_goK, h2, lastD_snoc]
    by_cases hx : k = x
    · simp [hx]
    · rw [if_neg hx]
      exact ⟨fun e => e.1, fun e => ⟨e, fun e' => hx e'.symm⟩⟩
  | false =>
    rw [if_neg (by simp)]
    constructor
    · unfold tipK
      rw [List.pairwise_append]
      refine ⟨hgo, List.pairwise_singleton _ _, fun a ha b hb => ?_⟩
      rw [List.mem_singleton.1 hb, lastD_snoc, lastD_snoc, if_neg (fun e => (mem_goK.1 ha).2 e.symm), if_pos rfl, if_neg (by simp)]
      exact (lastD_range l a).2
    · intro x
      rw [mem_tipK, h2, lastD_snoc]
      by_cases hx : k = x
      · simp [hx]
      · rw [if_neg hx]
        exact ⟨fun e => e.resolve_left (fun e' => hx e'.symm), Or.inr⟩
/-- Whether a key was dropped by the last call of it from a place on; the call at the place ahead of them says what it is else. -/
def goneD (k : ByteArray) (l : List OpD) (r : Bool) : Bool := l.foldl (fun r o => if o.2 = k then o.1 else r) r
theorem goneD_snoc (k : ByteArray) (l : List OpD) (o : OpD) (r : Bool) : goneD k (l ++ [o]) r = if o.2 = k then o.1 else goneD k l r := by unfold goneD; rw [List.foldl_append]; rfl
/-- A key whose call stands at a place is there just if the last call of it is no drop. -/
theorem gone_last (l : List OpD) {i : Nat} {o : OpD} (h : l[i]? = some o) : goneD o.2 (l.drop (i + 1)) o.1 = true ↔ o.2 ∉ runD l := by
  have key : ∀ m : List OpD, ∀ pre : List OpD, goneD o.2 m o.1 = true ↔ o.2 ∉ runD (pre ++ [o] ++ m) := fun m => by
    refine opd_ind (p := fun m => ∀ pre : List OpD, goneD o.2 m o.1 = true ↔ o.2 ∉ runD (pre ++ [o] ++ m)) ?_ (fun m q ih pre => ?_) m
    · intro pre
      rw [List.append_nil, runD_snoc]
      unfold stepD
      cases hd : o.1
      · simp [goneD, mem_tipK]
      · simp [goneD, mem_goK]
    · rw [goneD_snoc, ← List.append_assoc, runD_snoc]
      unfold stepD
      by_cases hq : q.2 = o.2
      · rw [if_pos hq]
        cases hd : q.1
        · simp [mem_tipK, hq]
        · simp [mem_goK, hq]
      · rw [if_neg hq, ih pre]
        have hq2 : o.2 ≠ q.2 := fun e => hq e.symm
        cases hd : q.1
        · simp [mem_tipK, hq2]
        · simp [mem_goK, hq2]
  have hl : l = l.take i ++ [o] ++ l.drop (i + 1) := by
    have h1 := (List.take_append_drop (i + 1) l).symm
    rw [List.take_add_one, h] at h1
    exact h1
  have := key (l.drop (i + 1)) (l.take i)
  rw [← hl] at this
  exact this
end Go.Proofs.Ytcpiaifaebpoaaa
