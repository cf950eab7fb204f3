/-
  Keys with counts, in the order of when they were touched last: what a touch, a drop, a halving turn; the order by counts; when a key was touched last. Mathematics; no program, no condition.
-/
import Derived.Test.YtpbmgaipeofpaaaChecked
import Derived.WalkKit
import Derived.Lib.Strings
namespace Go.Proofs.Ytpbmgaipeofpaaa

abbrev Sc := ByteArray × Int
/-- Each key once. -/
def Uniq (R : List Sc) : Prop := R.Pairwise fun a b => a.1 ≠ b.1
/-- Counts are from 1 to 255. -/
def Cnt (R : List Sc) : Prop := ∀ x ∈ R, 1 ≤ x.2 ∧ x.2 ≤ 255
/-- A key goes. -/
def goF (R : List Sc) (k : ByteArray) : List Sc := R.filter fun x => !decide (x.1 = k)
theorem mem_goF {R : List Sc} {k : ByteArray} {x : Sc} : x ∈ goF R k ↔ x ∈ R ∧ x.1 ≠ k := by
  unfold goF
  rw [List.mem_filter]
  simp
theorem goF_sub (R : List Sc) (k : ByteArray) : (goF R k).Sublist R := List.filter_sublist
theorem goF_le (R : List Sc) (k : ByteArray) : (goF R k).length ≤ R.length := List.length_filter_le _ _
theorem goF_snoc (R : List Sc) (x : Sc) (k : ByteArray) : goF (R ++ [x]) k = if x.1 = k then goF R k else goF R k ++ [x] := by
  unfold goF
  rw [List.filter_append]
  by_cases h : x.1 = k <;> simp [h]
theorem goF_cons (R : List Sc) (x : Sc) (k : ByteArray) : goF (x :: R) k = if x.1 = k then goF R k else x :: goF R k := by
  unfold goF
  rw [List.filter_cons]
  by_cases h : x.1 = k <;> simp [h]
/-- A key's count; 0: it is not there. -/
def cntF (R : List Sc) (k : ByteArray) : Int := match R.find? (fun x => decide (x.1 = k)) with
  | some x => x.2
  | none => 0
theorem cntF_none {R : List Sc} {k : ByteArray} (h : ∀ x ∈ R, x.1 ≠ k) : cntF R k = 0 := by
  unfold cntF
  rw [List.find?_eq_none.2 (fun x hx => by simp [h x hx])]
theorem cntF_first {R : List Sc} {k : ByteArray} {t : Int} {i : Nat} (h : R[i]? = some (k, t)) (hp : ∀ (j : Nat) (y : Sc), j < i → R[j]? = some y → y.1 ≠ k) : cntF R k = t := by
  induction R generalizing i with
  | nil => simp at h
  | cons a R ih =>
    unfold cntF
    rw [List.find?_cons]
    by_cases ha : a.1 = k
    · rw [decide_eq_true ha]
      cases i with
      | zero => simp at h; subst h; rfl
      | succ i => exact absurd ha (hp 0 a (by omega) rfl)
    · rw [decide_eq_false ha]
      cases i with
      | zero => simp at h; subst h; exact absurd rfl ha
      | succ i =>
        rw [List.getElem?_cons_succ] at h
        exact ih h (fun j y hj hy => hp (j + 1) y (by omega) (by simpa using hy))
theorem cntF_mem {R : List Sc} (hu : Uniq R) {x : Sc} (h : x ∈ R) : cntF R x.1 = x.2 := by
  obtain ⟨i, hi⟩ := List.getElem?_of_mem h
  refine cntF_first (i := i) hi (fun j y hj hy => ?_)
  obtain ⟨a1, a2⟩ := List.getElem?_eq_some_iff.1 hi
  obtain ⟨b1, b2⟩ := List.getElem?_eq_some_iff.1 hy
  have := (List.pairwise_iff_getElem.1 hu) j i b1 a1 hj
  rw [a2, b2] at this
  exact this
theorem cntF_cases (R : List Sc) (k : ByteArray) : ((∀ x ∈ R, x.1 ≠ k) ∧ cntF R k = 0) ∨ ∃ i t, R[i]? = some (k, t) ∧ (∀ (j : Nat) (y : Sc), j < i → R[j]? = some y → y.1 ≠ k) ∧ cntF R k = t := by
  induction R with
  | nil => exact Or.inl ⟨by simp, rfl⟩
  | cons a R ih =>
    by_cases ha : a.1 = k
    · refine Or.inr ⟨0, a.2, by rw [← ha]; rfl, fun j y hj => by omega, ?_⟩
      exact cntF_first (i := 0) (by rw [← ha]; rfl) (fun j y hj => by omega)
    · have he : cntF (a :: R) k = cntF R k := by unfold cntF; rw [List.find?_cons, decide_eq_false ha]
      rw [he]
      rcases ih with ⟨h1, h2⟩ | ⟨i, t, h1, h2, h3⟩
      · exact Or.inl ⟨fun x hx => by
          rcases List.mem_cons.1 hx with rfl | hx
          · exact ha
          · exact h1 x hx, h2⟩
      · refine Or.inr ⟨i + 1, t, by simpa using h1, fun j y hj hy => ?_, h3⟩
        cases j with
        | zero => simp at hy; subst hy; exact ha
        | succ j => exact h2 j y (by omega) (by simpa using hy)
theorem cntF_range {R : List Sc} (hc : Cnt R) (k : ByteArray) : 0 ≤ cntF R k ∧ cntF R k ≤ 255 := by
  rcases cntF_cases R k with ⟨_, h⟩ | ⟨i, t, h1, _, h⟩
  · omega
  · have := hc _ (List.mem_of_getElem? h1)
    simp only at this
    omega
/-- One more, at most 255. -/
def upF (c : Int) : Int := if 255 < c + 1 then 255 else c + 1
theorem upF_range {c : Int} (h : 0 ≤ c ∧ c ≤ 255) : 1 ≤ upF c ∧ upF c ≤ 255 := by unfold upF; split <;> omega
/-- A key is touched. -/
def tipF (R : List Sc) (k : ByteArray) : List Sc := goF R k ++ [(k, upF (cntF R k))]
theorem tipF_le (R : List Sc) (k : ByteArray) : (tipF R k).length ≤ R.length + 1 := by
  unfold tipF
  rw [List.length_append]
  have := goF_le R k
  simp
  omega
/-- A count is halved. -/
def halfO (x : Sc) : Sc := if 1 < x.2 then (x.1, x.2.tdiv 2) else x
theorem halfO_key (x : Sc) : (halfO x).1 = x.1 := by unfold halfO; split <;> rfl
def halveF (R : List Sc) : List Sc := R.map halfO
def lessF (R : List Sc) : Nat := (R.filter fun x => decide (1 < x.2)).length
theorem lessF_snoc (R : List Sc) (x : Sc) : lessF (R ++ [x]) = lessF R + (if 1 < x.2 then 1 else 0) := by
  unfold lessF
  rw [List.filter_append, List.length_append]
  by_cases h : 1 < x.2 <;> simp [h]
theorem lessF_le (R : List Sc) : lessF R ≤ R.length := List.length_filter_le _ _
theorem goF_uniq {R : List Sc} (h : Uniq R) (k : ByteArray) : Uniq (goF R k) := List.Pairwise.sublist (goF_sub R k) h
theorem goF_cnt {R : List Sc} (h : Cnt R) (k : ByteArray) : Cnt (goF R k) := fun x hx => h x (mem_goF.1 hx).1
theorem tipF_uniq {R : List Sc} (h : Uniq R) (k : ByteArray) : Uniq (tipF R k) := by
  unfold tipF Uniq
  rw [List.pairwise_append]
  refine ⟨goF_uniq h k, List.pairwise_singleton _ _, fun a ha b hb => ?_⟩
  rw [List.mem_singleton.1 hb]
  exact (mem_goF.1 ha).2
theorem tipF_cnt {R : List Sc} (h : Cnt R) (k : ByteArray) : Cnt (tipF R k) := fun x hx => by
  rcases List.mem_append.1 hx with hx | hx
  · exact goF_cnt h k x hx
  · rw [List.mem_singleton.1 hx]
    exact upF_range (cntF_range h k)
theorem halveF_uniq {R : List Sc} (h : Uniq R) : Uniq (halveF R) := by
  unfold halveF Uniq
  rw [List.pairwise_map]
  exact h.imp (fun {a b} hab => by rw [halfO_key, halfO_key]; exact hab)
theorem halveF_cnt {R : List Sc} (h : Cnt R) : Cnt (halveF R) := fun x hx => by
  obtain ⟨y, hy, rfl⟩ := List.mem_map.1 hx
  have := h y hy
  unfold halfO
  split
  · next hl =>
    have h2 : y.2.tdiv 2 = y.2 / 2 := Int.tdiv_eq_ediv_of_nonneg (by omega)
    simp only
    rw [h2]
    omega
  · exact this
/-- All keys of a count, in their order; all keys, count by count. -/
def rowF (R : List Sc) (n : Int) : List ByteArray := (R.filter fun x => decide (x.2 = n)).map Prod.fst
def allF (R : List Sc) : List ByteArray := (List.range 255).flatMap fun (k : Nat) => rowF R ((k : Int) + 1)
/-- Up to some count. -/
def uptoF (R : List Sc) (n : Nat) : List ByteArray := (List.range n).flatMap fun (k : Nat) => rowF R ((k : Int) + 1)
theorem uptoF_all (R : List Sc) : uptoF R 255 = allF R := rfl
theorem uptoF_succ (R : List Sc) (n : Nat) : uptoF R (n + 1) = uptoF R n ++ rowF R ((n : Int) + 1) := by
  unfold uptoF
  rw [List.range_succ, List.flatMap_append]
  simp
theorem rowF_snoc (R : List Sc) (x : Sc) (n : Int) : rowF (R ++ [x]) n = rowF R n ++ (if x.2 = n then [x.1] else []) := by
  unfold rowF
  rw [List.filter_append, List.map_append]
  by_cases h : x.2 = n <;> simp [h]
theorem mem_rowF {R : List Sc} {n : Int} {k : ByteArray} : k ∈ rowF R n ↔ (k, n) ∈ R := by
  unfold rowF
  rw [List.mem_map]
  constructor
  · rintro ⟨x, hx, rfl⟩
    rw [List.mem_filter] at hx
    have := of_decide_eq_true hx.2
    rw [← this]
    exact hx.1
  · intro h
    exact ⟨(k, n), List.mem_filter.2 ⟨h, decide_eq_true rfl⟩, rfl⟩
theorem mem_uptoF {R : List Sc} {n : Nat} {k : ByteArray} : k ∈ uptoF R n ↔ ∃ c : Int, 1 ≤ c ∧ c ≤ n ∧ (k, c) ∈ R := by
  unfold uptoF
  rw [List.mem_flatMap]
  constructor
  · rintro ⟨c, hc, hk⟩
    rw [List.mem_range] at hc
    exact ⟨(c : Int) + 1, by omega, by omega, mem_rowF.1 hk⟩
  · rintro ⟨c, h1, h2, h3⟩
    refine ⟨(c - 1).toNat, List.mem_range.2 (by omega), ?_⟩
    rw [show (((c - 1).toNat : Nat) : Int) + 1 = c by omega]
    exact mem_rowF.2 h3
/-- How many stand in the rows up to a count. -/
theorem uptoF_len (R : List Sc) (n : Nat) : (uptoF R n).length = (R.filter fun x => decide (1 ≤ x.2 ∧ x.2 ≤ (n : Int))).length := by
  induction n with
  | zero =>
    rw [List.filter_eq_nil_iff.2 (fun x _ => by simp; omega)]
    rfl
  | succ n ih =>
    rw [uptoF_succ, List.length_append, ih]
    unfold rowF
    rw [List.length_map]
    clear ih
    induction R with
    | nil => rfl
    | cons a R ih =>
      simp only [List.filter_cons]
      by_cases h1 : 1 ≤ a.2 ∧ a.2 ≤ (n : Int)
      · have h2 : ¬ a.2 = (n : Int) + 1 := by omega
        have h3 : 1 ≤ a.2 ∧ a.2 ≤ ((n + 1 : Nat) : Int) := by omega
        simp only [h1, h2, h3, and_self, decide_true, decide_false, if_true, List.length_cons, Bool.false_eq_true, if_false]
        omega
      · by_cases h2 : a.2 = (n : Int) + 1
        · have h3 : 1 ≤ a.2 ∧ a.2 ≤ ((n + 1 : Nat) : Int) := by omega
          rw [decide_eq_false h1, decide_eq_true h2, decide_eq_true h3]
          simp only [if_true, List.length_cons, Bool.false_eq_true, if_false]
          omega
        · have h3 : ¬ (1 ≤ a.2 ∧ a.2 ≤ ((n + 1 : Nat) : Int)) := by omega
          rw [decide_eq_false h1, decide_eq_false h2, decide_eq_false h3]
          simp only [Bool.false_eq_true, if_false]
          exact ih
theorem allF_len {R : List Sc} (h : Cnt R) : (allF R).length = R.length := by
  rw [← uptoF_all, uptoF_len, List.filter_eq_self.2 (fun x hx => by have := h x hx; simp; omega)]
theorem allF_le (R : List Sc) : (allF R).length ≤ R.length := by
  rw [← uptoF_all, uptoF_len]
  exact List.length_filter_le _ _
theorem mem_allF {R : List Sc} {k : ByteArray} (h : k ∈ allF R) : ∃ c, (k, c) ∈ R := by
  obtain ⟨c, _, _, hc⟩ := mem_uptoF.1 (uptoF_all R ▸ h)
  exact ⟨c, hc⟩
/-- Counts rise; of one count they stand as in the row. -/
theorem uptoF_rises {R : List Sc} (hu : Uniq R) {lt : ByteArray → ByteArray → Prop} (hl : R.Pairwise fun a b => lt a.1 b.1) (n : Nat) : (uptoF R n).Pairwise fun a b => cntF R a < cntF R b ∨ (cntF R a = cntF R b ∧ lt a b) := by
  induction n with
  | zero => exact List.Pairwise.nil
  | succ n ih =>
    rw [uptoF_succ, List.pairwise_append]
    refine ⟨ih, ?_, fun a ha b hb => ?_⟩
    · unfold rowF
      rw [List.pairwise_map]
      refine (List.Pairwise.sublist List.filter_sublist hl).imp_of_mem ?_
      intro a b ha hb hab
      rw [List.mem_filter] at ha hb
      have h1 := of_decide_eq_true ha.2
      have h2 := of_decide_eq_true hb.2
      rw [cntF_mem hu ha.1, cntF_mem hu hb.1]
      exact Or.inr ⟨by rw [h1, h2], hab⟩
    · obtain ⟨c, h1, h2, h3⟩ := mem_uptoF.1 ha
      have h4 := mem_rowF.1 hb
      have e1 := cntF_mem hu h3
      have e2 := cntF_mem hu h4
      simp only at e1 e2
      rw [e1, e2]
      exact Or.inl (by omega)
/-- A call: 0 a touch of a key, 1 a drop of it, else a halving. -/
abbrev OpD := Int × ByteArray
def stepF (R : List Sc) (o : OpD) : List Sc := if o.1 = 0 then tipF R o.2 else if o.1 = 1 then goF R o.2 else halveF R
def runF (l : List OpD) : List Sc := l.foldl stepF []
theorem runF_snoc (l : List OpD) (o : OpD) : runF (l ++ [o]) = stepF (runF l) o := by unfold runF; rw [List.foldl_append]; rfl
theorem stepF_le (R : List Sc) (o : OpD) : (stepF R o).length ≤ R.length + 1 := by
  unfold stepF
  have := goF_le R o.2
  have := tipF_le R o.2
  split
  · omega
  · split
    · omega
    · simp [halveF]
theorem stepF_uniq {R : List Sc} (h : Uniq R) (o : OpD) : Uniq (stepF R o) := by
  unfold stepF
  split
  · exact tipF_uniq h _
  · split
    · exact goF_uniq h _
    · exact halveF_uniq h
theorem stepF_cnt {R : List Sc} (h : Cnt R) (o : OpD) : Cnt (stepF R o) := by
  unfold stepF
  split
  · exact tipF_cnt h _
  · split
    · exact goF_cnt h _
    · exact halveF_cnt h
theorem opd_ind {p : List OpD → Prop} (h0 : p []) (h1 : ∀ l o, p l → p (l ++ [o])) (l : List OpD) : p l := by
  have : ∀ m : List OpD, p m.reverse := fun m => by
    induction m with
    | nil => exact h0
    | cons a m ih => rw [List.reverse_cons]; exact h1 _ _ ih
  rw [← List.reverse_reverse l]
  exact this _
theorem runF_le (l : List OpD) : (runF l).length ≤ l.length :=
  opd_ind (p := fun l => (runF l).length ≤ l.length) (by simp [runF]) (fun l o h => by
    rw [runF_snoc]
    have := stepF_le (runF l) o
    simp
    omega) l
/-- At which place a key was touched last; -1: nowhere. -/
def sinceT (k : ByteArray) : List OpD → Nat → Int → Int
  | [], _, r => r
  | o :: l, i, r => sinceT k l (i + 1) (if o.1 = 0 ∧ o.2 = k then (i : Int) else r)
def lastT (l : List OpD) (k : ByteArray) : Int := sinceT k l 0 (-1)
theorem sinceT_snoc (k : ByteArray) (o : OpD) : ∀ (l : List OpD) (i : Nat) (r : Int), sinceT k (l ++ [o]) i r = if o.1 = 0 ∧ o.2 = k then ((i + l.length : Nat) : Int) else sinceT k l i r
  | [], i, r => by simp [sinceT]
  | a :: l, i, r => by
    rw [List.cons_append, sinceT, sinceT_snoc k o l, sinceT]
    rw [show i + 1 + l.length = i + (a :: l).length by simp; omega]
theorem lastT_snoc (l : List OpD) (o : OpD) (k : ByteArray) : lastT (l ++ [o]) k = if o.1 = 0 ∧ o.2 = k then (l.length : Int) else lastT l k := by
  unfold lastT
  rw [sinceT_snoc]
  simp
theorem lastT_range (l : List OpD) (k : ByteArray) : -1 ≤ lastT l k ∧ lastT l k < l.length :=
  opd_ind (p := fun l => -1 ≤ lastT l k ∧ lastT l k < l.length) (by simp [lastT, sinceT]) (fun l o h => by
    rw [lastT_snoc]
    simp only [List.length_append, List.length_cons, List.length_nil]
    split <;> omega) l
/-- The row stands in the order of the last touches. -/
theorem runF_order (l : List OpD) : Uniq (runF l) ∧ Cnt (runF l) ∧ (runF l).Pairwise (fun a b => lastT l a.1 < lastT l b.1) := by
  refine opd_ind (p := fun l => Uniq (runF l) ∧ Cnt (runF l) ∧ (runF l).Pairwise (fun a b => lastT l a.1 < lastT l b.1)) ⟨List.Pairwise.nil, fun x hx => by simp [runF] at hx, List.Pairwise.nil⟩ (fun l o h => ?_) l
  obtain ⟨h1, h2, h3⟩ := h
  rw [runF_snoc]
  refine ⟨stepF_uniq h1 o, stepF_cnt h2 o, ?_⟩
  unfold stepF
  by_cases h0 : o.1 = 0
  · rw [if_pos h0]
    unfold tipF
    rw [List.pairwise_append]
    refine ⟨?_, List.pairwise_singleton _ _, fun a ha b hb => ?_⟩
    · refine (List.Pairwise.sublist (goF_sub _ _) h3).imp_of_mem ?_
      intro a b ha hb hab
      rw [lastT_snoc, lastT_snoc, if_neg (fun e => (mem_goF.1 ha).2 e.2.symm), if_neg (fun e => (mem_goF.1 hb).2 e.2.symm)]
      exact hab
    · rw [List.mem_singleton.1 hb, lastT_snoc, lastT_snoc, if_neg (fun e => (mem_goF.1 ha).2 e.2.symm), if_pos ⟨h0, rfl⟩]
      exact (lastT_range l a.1).2
  · have hl : ∀ k, lastT (l ++ [o]) k = lastT l k := fun k => by rw [lastT_snoc, if_neg (fun e => h0 e.1)]
    rw [if_neg h0]
    split
    · exact (List.Pairwise.sublist (goF_sub _ _) h3).imp (fun {a b} hab => by rw [hl, hl]; exact hab)
    · unfold halveF
      rw [List.pairwise_map]
      exact h3.imp (fun {a b} hab => by rw [halfO_key, halfO_key, hl, hl]; exact hab)
end Go.Proofs.Ytpbmgaipeofpaaa
