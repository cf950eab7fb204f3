/-
  Rows of keys with times, each key once, in order of times: what a set, a drop, a due turn. Mathematics; no program, no condition.
-/
import Derived.Test.YtbaghdfalhlhcaaMath
namespace Go.Proofs.Ytbaghdfalhlhcaa

/-- Each key is there once. -/
def Uniq (L : List Sc) : Prop := L.Pairwise fun a b => a.1 ≠ b.1
theorem Uniq.sub {L M : List Sc} (h : Uniq M) (hs : L.Sublist M) : Uniq L := List.Pairwise.sublist hs h
theorem uniq_eq : ∀ {L : List Sc}, Uniq L → ∀ {x y : Sc}, x ∈ L → y ∈ L → x.1 = y.1 → x = y
  | [], _, x, y, hx, _, _ => by simp at hx
  | a :: L, h, x, y, hx, hy, he => by
    have h' := List.pairwise_cons.1 h
    rcases List.mem_cons.1 hx with rfl | hx <;> rcases List.mem_cons.1 hy with rfl | hy
    · rfl
    · exact absurd he (h'.1 y hy)
    · exact absurd he.symm (h'.1 x (by assumption))
    · exact uniq_eq h'.2 hx hy he
/-- A key goes. -/
def dropK (L : List Sc) (k : ByteArray) : List Sc := L.filter fun x => !decide (x.1 = k)
theorem mem_dropK {L : List Sc} {k : ByteArray} {x : Sc} : x ∈ dropK L k ↔ x ∈ L ∧ x.1 ≠ k := by
  unfold dropK
  rw [List.mem_filter]
  simp
theorem dropK_sub (L : List Sc) (k : ByteArray) : (dropK L k).Sublist L := List.filter_sublist
theorem dropK_rises {L : List Sc} (h : Rises L) (k : ByteArray) : Rises (dropK L k) := List.Pairwise.sublist (dropK_sub L k) h
theorem dropK_uniq {L : List Sc} (h : Uniq L) (k : ByteArray) : Uniq (dropK L k) := h.sub (dropK_sub L k)
theorem dropK_le (L : List Sc) (k : ByteArray) : (dropK L k).length ≤ L.length := List.length_filter_le _ _
theorem dropK_none {L : List Sc} {k : ByteArray} (h : ∀ x ∈ L, x.1 ≠ k) : dropK L k = L := by
  unfold dropK
  rw [List.filter_eq_self]
  intro x hx
  simp [h x hx]
/-- The place at which a key stands is the one that goes. -/
theorem dropK_at : ∀ {L : List Sc}, Uniq L → ∀ {i : Nat} {x : Sc}, L[i]? = some x → dropK L x.1 = L.take i ++ L.drop (i + 1)
  | [], _, i, x, h => by simp at h
  | a :: L, h, 0, x, hx => by
    have h' := List.pairwise_cons.1 h
    simp at hx
    subst hx
    have : dropK (a :: L) a.1 = dropK L a.1 := by unfold dropK; rw [List.filter_cons]; simp
    rw [this, dropK_none (fun y hy => (h'.1 y hy).symm)]
    simp
  | a :: L, h, i + 1, x, hx => by
    have h' := List.pairwise_cons.1 h
    rw [List.getElem?_cons_succ] at hx
    have hne : a.1 ≠ x.1 := h'.1 x (List.mem_of_getElem? hx)
    have : dropK (a :: L) x.1 = a :: dropK L x.1 := by unfold dropK; rw [List.filter_cons]; simp [hne]
    rw [this, dropK_at h'.2 hx]
    simp
/-- A key has a time from now on. -/
def setK (L : List Sc) (k : ByteArray) (t : Int) : List Sc := putS (dropK L k) (k, t)
theorem fresh_dropK (L : List Sc) (k : ByteArray) (t : Int) : (k, t) ∉ dropK L k := fun h => (mem_dropK.1 h).2 rfl
theorem setK_form (L : List Sc) (k : ByteArray) (t : Int) : setK L k t = (dropK L k).take (ahd (dropK L k) (k, t)) ++ (k, t) :: (dropK L k).drop (ahd (dropK L k) (k, t)) := by
  unfold setK putS
  rw [if_neg (fresh_dropK L k t)]
theorem setK_rises {L : List Sc} (h : Rises L) (k : ByteArray) (t : Int) : Rises (setK L k t) := put_rises (dropK_rises h k) _
theorem mem_setK {L : List Sc} {k : ByteArray} {t : Int} {y : Sc} : y ∈ setK L k t ↔ y = (k, t) ∨ (y ∈ L ∧ y.1 ≠ k) := by
  unfold setK
  rw [mem_put, mem_dropK]
theorem setK_uniq {L : List Sc} (h : Uniq L) (k : ByteArray) (t : Int) : Uniq (setK L k t) := by
  rw [setK_form]
  have hd := dropK_uniq h k
  have hmem : ∀ y ∈ dropK L k, y.1 ≠ k := fun y hy => (mem_dropK.1 hy).2
  generalize ahd (dropK L k) (k, t) = i
  refine List.pairwise_append.2 ⟨hd.sub (List.take_sublist _ _), List.pairwise_cons.2 ⟨fun y hy => (hmem y (List.mem_of_mem_drop hy)).symm, hd.sub (List.drop_sublist _ _)⟩, fun a ha b hb => ?_⟩
  rcases List.mem_cons.1 hb with rfl | hb
  · exact hmem a (List.mem_of_mem_take ha)
  · rw [← List.take_append_drop i (dropK L k)] at hd
    exact (List.pairwise_append.1 hd).2.2 a ha b hb
theorem setK_le (L : List Sc) (k : ByteArray) (t : Int) : (setK L k t).length ≤ L.length + 1 := by
  have := dropK_le L k
  unfold setK
  rw [put_len, if_neg (fresh_dropK L k t)]
  omega
/-- A key's time, if it has one. -/
def atK (L : List Sc) (k : ByteArray) : Option Int := (L.find? fun x => decide (x.1 = k)).map Prod.snd
theorem atK_nil (k : ByteArray) : atK [] k = none := rfl
theorem atK_cons (a : Sc) (L : List Sc) (k : ByteArray) : atK (a :: L) k = if a.1 = k then some a.2 else atK L k := by
  unfold atK
  rw [List.find?_cons]
  by_cases h : a.1 = k
  · simp [h]
  · simp [h]
theorem atK_mem : ∀ {L : List Sc} {k : ByteArray} {t : Int}, atK L k = some t → (k, t) ∈ L
  | [], k, t, h => by simp [atK_nil] at h
  | a :: L, k, t, h => by
    rw [atK_cons] at h
    split at h
    · next he => subst he; cases h; exact List.mem_cons_self ..
    · exact List.mem_cons_of_mem _ (atK_mem h)
theorem atK_none : ∀ {L : List Sc} {k : ByteArray}, atK L k = none ↔ ∀ x ∈ L, x.1 ≠ k
  | [], k => by simp [atK_nil]
  | a :: L, k => by
    rw [atK_cons]
    by_cases h : a.1 = k
    · simp [h]
    · rw [if_neg h, atK_none (L := L)]
      simp [h]
theorem atK_iff {L : List Sc} (h : Uniq L) {k : ByteArray} {t : Int} : atK L k = some t ↔ (k, t) ∈ L := by
  refine ⟨atK_mem, fun hm => ?_⟩
  cases hq : atK L k with
  | none => exact absurd rfl (atK_none.1 hq _ hm)
  | some u =>
    have := uniq_eq h (atK_mem hq) hm rfl
    cases this
    rfl
theorem atK_append (L M : List Sc) (k : ByteArray) : atK (L ++ M) k = (atK L k).or (atK M k) := by
  induction L with
  | nil => simp [atK_nil]
  | cons a L ih =>
    rw [List.cons_append, atK_cons, atK_cons]
    split
    · rfl
    · exact ih

/-- Where a walk along a row in order stops is how many are ahead. -/
theorem ahd_stop {L : List Sc} {x : Sc} (hr : Rises L) {i : Nat} (h1 : ∀ j y, j < i → L[j]? = some y → lessS y x = true) (h2 : ∀ y, L[i]? = some y → lessS y x = false) (hi : i ≤ L.length) : ahd L x = i := by
  obtain ⟨s1, s2⟩ := ahd_split hr x
  have hle := ahd_le L x
  rcases Nat.lt_trichotomy (ahd L x) i with hlt | he | hgt
  · have hk : ahd L x < L.length := by omega
    have hy := List.getElem?_eq_getElem hk
    have := s2 L[ahd L x] (List.mem_of_getElem? (i := 0) (by rw [List.getElem?_drop, Nat.add_zero]; exact hy))
    rw [h1 _ _ hlt hy] at this
    cases this
  · exact he
  · have hk : i < L.length := by omega
    have hy := List.getElem?_eq_getElem hk
    have := s1 L[i] (List.mem_of_getElem? (i := i) (by rw [List.getElem?_take, if_pos hgt]; exact hy))
    rw [h2 _ hy] at this
    cases this
theorem less_or (a b : Sc) : lessS a b = (decide (a.2 < b.2) || (a.2 == b.2 && Op.bytesLess a.1.toList b.1.toList)) := by
  unfold lessS
  by_cases h : a.2 = b.2
  · have h1 : decide (a.2 < b.2) = false := decide_eq_false (by omega)
    have h2 : (a.2 == b.2) = true := by simp [h]
    rw [if_pos h, h1, h2]
    simp
  · have h2 : (a.2 == b.2) = false := beq_false_of_ne h
    rw [if_neg h, h2]
    simp
/-- How many are due: they are the first ones. -/
def dueN (L : List Sc) (now : Int) : Nat := L.countP fun y => decide (y.2 ≤ now)
theorem dueN_le (L : List Sc) (now : Int) : dueN L now ≤ L.length := List.countP_le_length
theorem due_split : ∀ {L : List Sc}, Rises L → ∀ now : Int, (∀ y ∈ L.take (dueN L now), y.2 ≤ now) ∧ ∀ y ∈ L.drop (dueN L now), now < y.2
  | [], _, now => by simp
  | a :: L, h, now => by
    have h' := List.pairwise_cons.1 h
    obtain ⟨i1, i2⟩ := due_split h'.2 now
    have hc : dueN (a :: L) now = dueN L now + (if decide (a.2 ≤ now) = true then 1 else 0) := by unfold dueN; rw [List.countP_cons]
    have hle : ∀ y ∈ L, a.2 ≤ y.2 := fun y hy => by
      have := h'.1 y hy
      unfold lessS at this
      split at this
      · omega
      · have := of_decide_eq_true this; omega
    rw [hc]
    by_cases ha : a.2 ≤ now
    · rw [if_pos (decide_eq_true ha)]
      refine ⟨fun y hy => ?_, fun y hy => ?_⟩
      · rw [List.take_succ_cons] at hy
        rcases List.mem_cons.1 hy with rfl | hy
        · exact ha
        · exact i1 y hy
      · rw [List.drop_succ_cons] at hy
        exact i2 y hy
    · have hz : dueN L now = 0 := by
        unfold dueN
        rw [List.countP_eq_zero]
        intro y hy
        have := hle y hy
        simp; omega
      rw [hz, if_neg (by simpa using ha)]
      refine ⟨fun y hy => by simp at hy, fun y hy => ?_⟩
      simp at hy
      rcases hy with rfl | hy
      · omega
      · have := hle y hy; omega
theorem due_lt {L : List Sc} (h : Rises L) {now : Int} {i : Nat} {x : Sc} (hx : L[i]? = some x) : i < dueN L now ↔ x.2 ≤ now := by
  obtain ⟨h1, h2⟩ := due_split h now
  constructor
  · intro hi
    exact h1 x (List.mem_of_getElem? (i := i) (by rw [List.getElem?_take, if_pos hi]; exact hx))
  · intro hle
    rcases Nat.lt_or_ge i (dueN L now) with hlt | hge
    · exact hlt
    · have := h2 x (List.mem_of_getElem? (i := i - dueN L now) (by rw [List.getElem?_drop, show dueN L now + (i - dueN L now) = i by omega]; exact hx))
      omega
/-- Where a walk along a row in order stops is how many are due. -/
theorem due_stop {L : List Sc} (h : Rises L) {now : Int} {i : Nat} (hi : i ≤ L.length) (h1 : ∀ j y, j < i → L[j]? = some y → y.2 ≤ now) (h2 : ∀ y, L[i]? = some y → now < y.2) : dueN L now = i := by
  have hle := dueN_le L now
  rcases Nat.lt_trichotomy (dueN L now) i with hlt | he | hgt
  · have hy := List.getElem?_eq_getElem (show dueN L now < L.length by omega)
    have := (due_lt h hy).2 (h1 _ _ hlt hy)
    omega
  · exact he
  · have hy := List.getElem?_eq_getElem (show i < L.length by omega)
    have := (due_lt h hy).1 hgt
    have := h2 _ hy
    omega
theorem due_rest {L : List Sc} (h : Rises L) (now : Int) : dueN (L.drop (dueN L now)) now = 0 := by
  unfold dueN
  rw [List.countP_eq_zero]
  intro y hy
  have := (due_split h now).2 y hy
  simp; omega

/-- Set from the first to the last. -/
def sets (l : List Sc) : List Sc := l.foldl (fun L o => setK L o.1 o.2) []
theorem sets_snoc (l : List Sc) (o : Sc) : sets (l ++ [o]) = setK (sets l) o.1 o.2 := by unfold sets; rw [List.foldl_append]; rfl
/-- Set where there is none. -/
def news (l : List Sc) : List Sc := l.foldl (fun L o => if atK L o.1 = none then setK L o.1 o.2 else L) []
theorem news_snoc (l : List Sc) (o : Sc) : news (l ++ [o]) = if atK (news l) o.1 = none then setK (news l) o.1 o.2 else news l := by unfold news; rw [List.foldl_append]; rfl
theorem snoc_ind {p : List Sc → Prop} (h0 : p []) (h1 : ∀ l o, p l → p (l ++ [o])) (l : List Sc) : p l := by
  have : ∀ m : List Sc, p m.reverse := fun m => by
    induction m with
    | nil => exact h0
    | cons a m ih => rw [List.reverse_cons]; exact h1 _ _ ih
  have h := this l.reverse
  rwa [List.reverse_reverse] at h
theorem sets_ok (l : List Sc) : Rises (sets l) ∧ Uniq (sets l) ∧ ∀ x, x ∈ sets l ↔ atK l.reverse x.1 = some x.2 := by
  refine snoc_ind (p := fun l => Rises (sets l) ∧ Uniq (sets l) ∧ ∀ x, x ∈ sets l ↔ atK l.reverse x.1 = some x.2) ⟨List.Pairwise.nil, List.Pairwise.nil, fun x => by simp [sets, atK_nil]⟩ (fun l o hp => ?_) l
  obtain ⟨h1, h2, h3⟩ := hp
  rw [sets_snoc]
  refine ⟨setK_rises h1 _ _, setK_uniq h2 _ _, fun x => ?_⟩
  rw [mem_setK, List.reverse_append, List.reverse_singleton, List.singleton_append, atK_cons, h3]
  by_cases he : o.1 = x.1
  · rw [if_pos he]
    constructor
    · rintro (rfl | ⟨_, hne⟩)
      · rfl
      · exact absurd he.symm hne
    · intro h
      exact Or.inl (Prod.ext he.symm (Option.some.inj h).symm)
  · rw [if_neg he]
    constructor
    · rintro (rfl | ⟨h, _⟩)
      · exact absurd rfl he
      · exact h
    · intro h
      exact Or.inr ⟨h, fun e => he e.symm⟩
theorem news_ok (l : List Sc) : Rises (news l) ∧ Uniq (news l) ∧ ∀ x, x ∈ news l ↔ atK l x.1 = some x.2 := by
  refine snoc_ind (p := fun l => Rises (news l) ∧ Uniq (news l) ∧ ∀ x, x ∈ news l ↔ atK l x.1 = some x.2) ⟨List.Pairwise.nil, List.Pairwise.nil, fun x => by simp [news, atK_nil]⟩ (fun l o hp => ?_) l
  obtain ⟨h1, h2, h3⟩ := hp
  have hk : ∀ k, atK (news l) k = atK l k := fun k => by
    cases hq : atK l k with
    | none =>
      rw [atK_none]
      intro x hx e
      have := (h3 x).1 hx
      rw [e, hq] at this
      cases this
    | some t => exact (atK_iff h2).2 ((h3 (k, t)).2 hq)
  rw [news_snoc]
  split
  · next hn =>
    rw [hk] at hn
    refine ⟨setK_rises h1 _ _, setK_uniq h2 _ _, fun x => ?_⟩
    rw [mem_setK, atK_append, h3, atK_cons, atK_nil]
    by_cases he : o.1 = x.1
    · rw [← he, hn, if_pos rfl]
      constructor
      · rintro (rfl | ⟨_, hne⟩)
        · rfl
        · exact absurd rfl hne
      · intro h
        exact Or.inl (Prod.ext he.symm (Option.some.inj (by simpa using h)).symm)
    · rw [if_neg he]
      constructor
      · rintro (rfl | ⟨h, _⟩)
        · exact absurd rfl he
        · rw [h]; rfl
      · intro h
        refine Or.inr ⟨?_, fun e => he e.symm⟩
        simpa using h
  · next hn =>
    refine ⟨h1, h2, fun x => ?_⟩
    rw [atK_append, h3]
    by_cases he : o.1 = x.1
    · rw [hk, he] at hn
      cases hq : atK l x.1 with
      | none => exact absurd hq hn
      | some t => simp
    · rw [atK_cons, if_neg he, atK_nil]
      simp
/-- What is told hangs on each key's last time alone. -/
theorem last_alone (l : List Sc) : sets l = news l.reverse := by
  obtain ⟨h1, _, h2⟩ := sets_ok l
  obtain ⟨k1, _, k2⟩ := news_ok l.reverse
  exact rises_ext h1 k1 (fun x => by rw [h2, k2])
end Go.Proofs.Ytbaghdfalhlhcaa
