/-
  Pairs of a member and a score, their order, rows that stand in order: mathematics, no program. No condition.
-/
import Derived.Test.YtbaghdfalhlhcaaChecked
import Derived.WalkKit
import Derived.Lib.Strings
namespace Go.Proofs.Ytbaghdfalhlhcaa

/-- A pair: its member, its score. -/
abbrev Sc := ByteArray × Int
theorem bl_irr : ∀ x : List UInt8, Op.bytesLess x x = false
  | [] => rfl
  | a :: x => by
    have := bl_irr x
    simp [Op.bytesLess, this]
theorem bl_trans : ∀ x y z : List UInt8, Op.bytesLess x y = true → Op.bytesLess y z = true → Op.bytesLess x z = true
  | _, _, [], _, h => by cases ‹List UInt8› <;> simp [Op.bytesLess] at h
  | [], _, _ :: _, _, _ => rfl
  | _ :: _, [], _ :: _, h, _ => by simp [Op.bytesLess] at h
  | a :: x, b :: y, c :: z, h, k => by
    simp only [Op.bytesLess, Bool.or_eq_true, Bool.and_eq_true, decide_eq_true_eq, beq_iff_eq] at h k ⊢
    rcases h with h | ⟨rfl, h⟩
    · rcases k with k | ⟨rfl, k⟩
      · exact Or.inl (UInt8.lt_trans h k)
      · exact Or.inl h
    · rcases k with k | ⟨rfl, k⟩
      · exact Or.inl k
      · exact Or.inr ⟨rfl, bl_trans x y z h k⟩
theorem bl_total : ∀ x y : List UInt8, x = y ∨ Op.bytesLess x y = true ∨ Op.bytesLess y x = true
  | [], [] => Or.inl rfl
  | [], _ :: _ => Or.inr (Or.inl rfl)
  | _ :: _, [] => Or.inr (Or.inr rfl)
  | a :: x, b :: y => by
    simp only [Op.bytesLess, Bool.or_eq_true, Bool.and_eq_true, decide_eq_true_eq, beq_iff_eq, List.cons.injEq]
    have hab : a < b ∨ a = b ∨ b < a := by
      rcases Nat.lt_trichotomy a.toNat b.toNat with h | h | h
      · exact Or.inl h
      · exact Or.inr (Or.inl (UInt8.toNat_inj.1 h))
      · exact Or.inr (Or.inr h)
    rcases hab with h | h | h
    · exact Or.inr (Or.inl (Or.inl h))
    · subst h
      rcases bl_total x y with k | k | k
      · exact Or.inl ⟨rfl, k⟩
      · exact Or.inr (Or.inl (Or.inr ⟨rfl, k⟩))
      · exact Or.inr (Or.inr (Or.inr ⟨rfl, k⟩))
    · exact Or.inr (Or.inr (Or.inl h))
theorem ba_eq {a b : ByteArray} (h : a.toList = b.toList) : a = b := by
  rw [Lib.toList_data, Lib.toList_data] at h
  cases a; cases b
  simp only at h
  congr 1
  exact Array.toList_inj.1 h
instance decBytes : DecidableEq ByteArray := fun a b => if h : a.toList = b.toList then isTrue (ba_eq h) else isFalse (fun e => h (e ▸ rfl))
instance decSc : DecidableEq Sc := fun a b => if h : a.1 = b.1 ∧ a.2 = b.2 then isTrue (Prod.ext h.1 h.2) else isFalse (fun e => h (by rw [e]; exact ⟨rfl, rfl⟩))
instance decIn (x : Sc) : (l : List Sc) → Decidable (x ∈ l)
  | [] => isFalse (by simp)
  | a :: l => match decSc x a, decIn x l with
    | isTrue h, _ => isTrue (by rw [h]; exact List.mem_cons_self)
    | isFalse _, isTrue k => isTrue (List.mem_cons_of_mem a k)
    | isFalse h, isFalse k => isFalse (fun e => (List.mem_cons.1 e).elim h k)

/-- A pair is ahead of another one. -/
def lessS (a b : Sc) : Bool := if a.2 = b.2 then Op.bytesLess a.1.toList b.1.toList else decide (a.2 < b.2)
theorem less_irr (a : Sc) : lessS a a = false := by unfold lessS; rw [if_pos rfl]; exact bl_irr _
theorem less_trans {a b c : Sc} (h : lessS a b = true) (k : lessS b c = true) : lessS a c = true := by
  unfold lessS at *
  by_cases h1 : a.2 = b.2
  · rw [if_pos h1] at h
    by_cases h2 : b.2 = c.2
    · rw [if_pos h2] at k
      rw [if_pos (h1.trans h2)]
      exact bl_trans _ _ _ h k
    · rw [if_neg h2] at k
      rw [if_neg (by rw [h1]; exact h2), h1]
      exact k
  · rw [if_neg h1] at h
    have h := of_decide_eq_true h
    by_cases h2 : b.2 = c.2
    · rw [if_neg (by omega)]
      exact decide_eq_true (by omega)
    · rw [if_neg h2] at k
      have k := of_decide_eq_true k
      rw [if_neg (by omega)]
      exact decide_eq_true (by omega)
theorem less_total (a b : Sc) : a = b ∨ lessS a b = true ∨ lessS b a = true := by
  unfold lessS
  by_cases h : a.2 = b.2
  · rw [if_pos h, if_pos h.symm]
    rcases bl_total a.1.toList b.1.toList with k | k | k
    · exact Or.inl (Prod.ext (ba_eq k) h)
    · exact Or.inr (Or.inl k)
    · exact Or.inr (Or.inr k)
  · rw [if_neg h, if_neg (fun e => h e.symm)]
    rcases Int.lt_or_lt_of_ne h with k | k
    · exact Or.inr (Or.inl (decide_eq_true k))
    · exact Or.inr (Or.inr (decide_eq_true k))
theorem less_asymm {a b : Sc} (h : lessS a b = true) : lessS b a = false := by
  cases hb : lessS b a with
  | false => rfl
  | true =>
    have := less_trans h hb
    rw [less_irr] at this
    cases this
theorem less_ne {a b : Sc} (h : lessS a b = true) : a ≠ b := fun e => by rw [e, less_irr] at h; cases h

/-- A row stands in order, each pair once. -/
def Rises (l : List Sc) : Prop := l.Pairwise fun a b => lessS a b = true
/-- How many are ahead of a pair. -/
def ahd (l : List Sc) (x : Sc) : Nat := l.countP fun y => lessS y x
theorem ahd_nil (x : Sc) : ahd [] x = 0 := rfl
theorem ahd_cons (a : Sc) (l : List Sc) (x : Sc) : ahd (a :: l) x = ahd l x + (if lessS a x = true then 1 else 0) := by unfold ahd; rw [List.countP_cons]
theorem ahd_le (l : List Sc) (x : Sc) : ahd l x ≤ l.length := List.countP_le_length
theorem ahd_snoc (l : List Sc) (a x : Sc) : ahd (l ++ [a]) x = ahd l x + (if lessS a x = true then 1 else 0) := by unfold ahd; rw [List.countP_append]; simp [List.countP_cons]
theorem ahd_none {l : List Sc} {x : Sc} (h : ∀ y ∈ l, lessS y x = false) : ahd l x = 0 := by
  unfold ahd
  rw [List.countP_eq_zero]
  intro y hy
  rw [h y hy]
  exact Bool.false_ne_true
/-- Those ahead of a pair are the first ones. -/
theorem ahd_split : ∀ {l : List Sc}, Rises l → ∀ x : Sc, (∀ y ∈ l.take (ahd l x), lessS y x = true) ∧ ∀ y ∈ l.drop (ahd l x), lessS y x = false
  | [], _, x => by simp
  | a :: l, h, x => by
    have h' := List.pairwise_cons.1 h
    obtain ⟨i1, i2⟩ := ahd_split h'.2 x
    rw [ahd_cons]
    cases ha : lessS a x with
    | true =>
      rw [if_pos rfl]
      refine ⟨fun y hy => ?_, fun y hy => ?_⟩
      · rw [List.take_succ_cons] at hy
        rcases List.mem_cons.1 hy with rfl | hy
        · exact ha
        · exact i1 y hy
      · rw [List.drop_succ_cons] at hy
        exact i2 y hy
    | false =>
      have hall : ∀ y ∈ l, lessS y x = false := fun y hy => by
        cases hb : lessS y x with
        | false => rfl
        | true =>
          have := less_trans (h'.1 y hy) hb
          rw [ha] at this
          cases this
      rw [ahd_none hall]
      simp only [Bool.false_eq_true, if_false, Nat.add_zero, List.take_zero, List.drop_zero]
      refine ⟨fun y hy => by simp at hy, fun y hy => ?_⟩
      rcases List.mem_cons.1 hy with rfl | hy
      · exact ha
      · exact hall y hy
/-- A pair that is there stands behind just those that are ahead of it. -/
theorem at_ahd : ∀ {l : List Sc}, Rises l → ∀ {x : Sc} {k : Nat}, l[k]? = some x → ahd l x = k
  | [], _, x, k, hk => by simp at hk
  | a :: l, h, x, k, hk => by
    have h' := List.pairwise_cons.1 h
    rw [ahd_cons]
    rcases k with _ | k
    · simp at hk
      subst hk
      rw [less_irr]
      have : ahd l a = 0 := ahd_none fun y hy => less_asymm (h'.1 y hy)
      simp [this]
    · rw [List.getElem?_cons_succ] at hk
      rw [at_ahd h'.2 hk, h'.1 x (List.mem_of_getElem? hk)]
      simp
theorem mem_ahd {l : List Sc} (h : Rises l) (x : Sc) : x ∈ l ↔ l[ahd l x]? = some x := by
  refine ⟨fun hm => ?_, fun hk => List.mem_of_getElem? hk⟩
  obtain ⟨k, hk⟩ := List.getElem?_of_mem hm
  rw [at_ahd h hk]
  exact hk
/-- The least pair that is not ahead of x is x, or x is not there. -/
theorem rises_inj {l : List Sc} (h : Rises l) {i j : Nat} {x : Sc} (hi : l[i]? = some x) (hj : l[j]? = some x) : i = j := (at_ahd h hi).symm.trans (at_ahd h hj)
theorem rises_lt {l : List Sc} (h : Rises l) {i j : Nat} {x y : Sc} (hij : i < j) (hi : l[i]? = some x) (hj : l[j]? = some y) : lessS x y = true := by
  obtain ⟨i1, i2⟩ := List.getElem?_eq_some_iff.1 hi
  obtain ⟨j1, j2⟩ := List.getElem?_eq_some_iff.1 hj
  have := List.pairwise_iff_getElem.1 h i j i1 j1 hij
  rw [i2, j2] at this
  exact this

/-- A pair comes. -/
def putS (l : List Sc) (x : Sc) : List Sc := if x ∈ l then l else l.take (ahd l x) ++ x :: l.drop (ahd l x)
/-- A pair goes. -/
def dropS (l : List Sc) (x : Sc) : List Sc := if x ∈ l then l.take (ahd l x) ++ l.drop (ahd l x + 1) else l
theorem put_rises {l : List Sc} (h : Rises l) (x : Sc) : Rises (putS l x) := by
  unfold putS
  split
  · exact h
  · next hx =>
    obtain ⟨h1, h2⟩ := ahd_split h x
    have ht : Rises (l.take (ahd l x)) := List.Pairwise.sublist (List.take_sublist _ _) h
    have hd : Rises (l.drop (ahd l x)) := List.Pairwise.sublist (List.drop_sublist _ _) h
    have hxd : ∀ y ∈ l.drop (ahd l x), lessS x y = true := fun y hy => by
      rcases less_total x y with e | e | e
      · subst e; exact absurd (List.mem_of_mem_drop hy) hx
      · exact e
      · rw [h2 y hy] at e; cases e
    refine List.pairwise_append.2 ⟨ht, List.pairwise_cons.2 ⟨hxd, hd⟩, fun a ha b hb => ?_⟩
    rcases List.mem_cons.1 hb with rfl | hb
    · exact h1 a ha
    · exact less_trans (h1 a ha) (hxd b hb)
theorem drop_rises {l : List Sc} (h : Rises l) (x : Sc) : Rises (dropS l x) := by
  unfold dropS
  split
  · have hs : (l.take (ahd l x) ++ l.drop (ahd l x + 1)).Sublist l := by
      have := List.Sublist.append (List.Sublist.refl (l.take (ahd l x))) (List.drop_sublist_drop_left l (Nat.le_succ (ahd l x)))
      rwa [List.take_append_drop] at this
    exact List.Pairwise.sublist hs h
  · exact h
theorem mem_put {l : List Sc} (x y : Sc) : y ∈ putS l x ↔ y = x ∨ y ∈ l := by
  unfold putS
  split
  · next hx => exact ⟨Or.inr, fun h => h.elim (fun e => e ▸ hx) id⟩
  · rw [List.mem_append, List.mem_cons]
    have : y ∈ l ↔ y ∈ l.take (ahd l x) ∨ y ∈ l.drop (ahd l x) := by
      rw [← List.mem_append, List.take_append_drop]
    rw [this]
    constructor
    · rintro (h | h | h)
      · exact Or.inr (Or.inl h)
      · exact Or.inl h
      · exact Or.inr (Or.inr h)
    · rintro (h | h | h)
      · exact Or.inr (Or.inl h)
      · exact Or.inl h
      · exact Or.inr (Or.inr h)
theorem mem_drop {l : List Sc} (h : Rises l) (x y : Sc) : y ∈ dropS l x ↔ y ∈ l ∧ y ≠ x := by
  unfold dropS
  split
  · next hx =>
    have hk := (mem_ahd h x).1 hx
    have hlt := (List.getElem?_eq_some_iff.1 hk).1
    have hd : l.drop (ahd l x) = x :: l.drop (ahd l x + 1) := by
      rw [List.drop_eq_getElem_cons hlt]
      congr 1
      exact (List.getElem?_eq_some_iff.1 hk).2
    obtain ⟨h1, h2⟩ := ahd_split h x
    have hr : Rises (x :: l.drop (ahd l x + 1)) := hd ▸ List.Pairwise.sublist (List.drop_sublist _ _) h
    have hall : y ∈ l ↔ y ∈ l.take (ahd l x) ∨ y = x ∨ y ∈ l.drop (ahd l x + 1) := by
      rw [← List.mem_cons, ← hd, ← List.mem_append, List.take_append_drop]
    rw [List.mem_append, hall]
    constructor
    · rintro (k | k)
      · exact ⟨Or.inl k, less_ne (h1 y k)⟩
      · exact ⟨Or.inr (Or.inr k), fun e => (less_ne ((List.pairwise_cons.1 hr).1 y k)) e.symm⟩
    · rintro ⟨k | k | k, hne⟩
      · exact Or.inl k
      · exact absurd k hne
      · exact Or.inr k
  · next hx => exact ⟨fun k => ⟨k, fun e => hx (e ▸ k)⟩, fun k => k.1⟩
theorem put_len (l : List Sc) (x : Sc) : (putS l x).length = l.length + (if x ∈ l then 0 else 1) := by
  have := ahd_le l x
  unfold putS
  split <;> simp <;> omega
theorem drop_len {l : List Sc} (h : Rises l) (x : Sc) : (dropS l x).length + (if x ∈ l then 1 else 0) = l.length := by
  unfold dropS
  split
  · next hx =>
    have hlt := (List.getElem?_eq_some_iff.1 ((mem_ahd h x).1 hx)).1
    simp; omega
  · simp
/-- Two rows in order with the same pairs are one. -/
theorem rises_ext : ∀ {l m : List Sc}, Rises l → Rises m → (∀ x, x ∈ l ↔ x ∈ m) → l = m
  | [], [], _, _, _ => rfl
  | [], b :: m, _, _, h => by have := (h b).2 (by simp); simp at this
  | a :: l, [], _, _, h => by have := (h a).1 (by simp); simp at this
  | a :: l, b :: m, hl, hm, h => by
    have hl' := List.pairwise_cons.1 hl
    have hm' := List.pairwise_cons.1 hm
    have hab : a = b := by
      rcases List.mem_cons.1 ((h a).1 (by simp)) with e | e
      · exact e
      · rcases List.mem_cons.1 ((h b).2 (by simp)) with k | k
        · exact k.symm
        · have h1 := hm'.1 a e
          have h2 := hl'.1 b k
          rw [less_asymm h1] at h2
          cases h2
    subst hab
    congr 1
    refine rises_ext hl'.2 hm'.2 fun x => ?_
    have := h x
    rw [List.mem_cons, List.mem_cons] at this
    constructor
    · intro hx
      rcases this.1 (Or.inr hx) with e | e
      · exact absurd e.symm (less_ne (hl'.1 x hx))
      · exact e
    · intro hx
      rcases this.2 (Or.inr hx) with e | e
      · exact absurd e.symm (less_ne (hm'.1 x hx))
      · exact e
/-- How many have a lesser score, or, if open, that score. -/
def blw (l : List Sc) (s : Int) (op : Bool) : Nat := l.countP fun y => decide (y.2 < s) || (op && y.2 == s)
theorem blw_le (l : List Sc) (s : Int) (op : Bool) : blw l s op ≤ l.length := List.countP_le_length
/-- Those below a score are the first ones. -/
theorem blw_split : ∀ {l : List Sc}, Rises l → ∀ (s : Int) (op : Bool), (∀ y ∈ l.take (blw l s op), (decide (y.2 < s) || (op && y.2 == s)) = true) ∧ ∀ y ∈ l.drop (blw l s op), (decide (y.2 < s) || (op && y.2 == s)) = false
  | [], _, s, op => by simp
  | a :: l, h, s, op => by
    have h' := List.pairwise_cons.1 h
    obtain ⟨i1, i2⟩ := blw_split h'.2 s op
    have hc : blw (a :: l) s op = blw l s op + (if (decide (a.2 < s) || (op && a.2 == s)) = true then 1 else 0) := by unfold blw; rw [List.countP_cons]
    have hle : ∀ y ∈ l, a.2 ≤ y.2 := fun y hy => by
      have := h'.1 y hy
      unfold lessS at this
      split at this
      · omega
      · have := of_decide_eq_true this; omega
    rw [hc]
    cases ha : (decide (a.2 < s) || (op && a.2 == s)) with
    | true =>
      rw [if_pos rfl]
      refine ⟨fun y hy => ?_, fun y hy => ?_⟩
      · rw [List.take_succ_cons] at hy
        rcases List.mem_cons.1 hy with rfl | hy
        · exact ha
        · exact i1 y hy
      · rw [List.drop_succ_cons] at hy
        exact i2 y hy
    | false =>
      have hall : ∀ y ∈ l, (decide (y.2 < s) || (op && y.2 == s)) = false := fun y hy => by
        have h1 := hle y hy
        rw [Bool.or_eq_false_iff, Bool.and_eq_false_iff] at ha ⊢
        obtain ⟨h2, h3⟩ := ha
        have h2 := of_decide_eq_false h2
        refine ⟨decide_eq_false (by omega), ?_⟩
        rcases h3 with h3 | h3
        · exact Or.inl h3
        · have : a.2 ≠ s := by simpa using h3
          exact Or.inr (beq_false_of_ne (by omega))
      have hz : blw l s op = 0 := by
        unfold blw
        rw [List.countP_eq_zero]
        intro y hy
        rw [hall y hy]
        exact Bool.false_ne_true
      rw [hz]
      simp only [Bool.false_eq_true, if_false, Nat.add_zero, List.take_zero, List.drop_zero]
      refine ⟨fun y hy => by simp at hy, fun y hy => ?_⟩
      rcases List.mem_cons.1 hy with rfl | hy
      · exact ha
      · exact hall y hy

end Go.Proofs.Ytbaghdfalhlhcaa
