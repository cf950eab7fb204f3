/-
  Plain mathematics of requests among bytes, no program in it: a mark and its decimal ('firstF'), a line ('oneF'), what is gone past in one step ('stepF'), all that is gone past ('feedF'); and that in whatever pieces bytes come, all is the same ('feed_add'). No condition.
-/
import Derived.Test.YtjidopgohdlfdaaGreatDoorMath
import Derived.Test.YtjidopgohdlfdaaGreatDoorLMath
namespace Go.Proofs.YtjidopgohdlfdaaGreatDoor.Pq
open Go.Lib Dec

def dg (c : UInt8) : Bool := decide (48 ≤ c.toNat ∧ c.toNat ≤ 57)
def lfF (t : List UInt8) (r : Nat × Nat) : Sum Int (Nat × Nat) := match t with
  | [] => .inl (-1)
  | d :: _ => if d ≠ 10 then .inl 5 else .inr r
/-- A decimal that goes on with a text, and its line's end; -1: it is not all there. -/
def firstGo (most over : Int) : List UInt8 → List UInt8 → Sum Int (Nat × Nat)
  | _, [] => .inl (-1)
  | pre, c :: t =>
    if dg c then
      match numOf (pre ++ [c]) with
      | none => if (pre ++ [c]).head? = some 48 then .inl 5 else .inl over
      | some n => if most < n then .inl over else firstGo most over (pre ++ [c]) t
    else if pre = [] ∨ c ≠ 13 then .inl 5
    else lfF t (((numOf pre).getD 0).toNat, pre.length + 3)
def firstF (mark : UInt8) (most over : Int) : List UInt8 → Sum Int (Nat × Nat)
  | [] => .inl (-1)
  | c :: t => if c ≠ mark then .inl 5 else firstGo most over [] t
def lfE (t : List UInt8) : Int := match t with
  | [] => -1
  | d :: _ => if d ≠ 10 then 5 else 0
def endsF : List UInt8 → Int
  | [] => -1
  | c :: t => if c ≠ 13 then 5 else lfE t
def lineGo (ln : Nat) : List UInt8 → List UInt8 → Sum Int (List UInt8)
  | pre, [] => if ln < pre.length then .inl 6 else .inl (-1)
  | pre, c :: t => if ln < pre.length then .inl 6 else if c = 10 then .inr pre else lineGo ln (pre ++ [c]) t
def strip (l : List UInt8) : List UInt8 := if l.getLast? = some 13 then l.dropLast else l
/-- A line with which a text begins: its arguments, and how many bytes it has. -/
def oneF (A B L : Nat) (s : List UInt8) : Sum Int (List (List UInt8) × Nat) := match lineGo L [] s with
  | .inl e => .inl e
  | .inr q => match Ln.spl (strip q) with
    | none => .inl 16
    | some l => if A < l.length then .inl 7 else if l.any (fun a => decide (B < a.length)) then .inl 6 else .inr (l, q.length + 1)

/-- What came behind the last whole request. -/
structure Inp where
  rest : List UInt8
  args : List (List UInt8)
  left : Nat
  size : Nat
  body : Bool
  need : Nat
def Inp.none (r : List UInt8) : Inp := ⟨r, [], 0, 0, false, 0⟩
def Inp.add (x : Inp) (b : List UInt8) : Inp := { x with rest := x.rest ++ b }
abbrev Rq := List (List UInt8) × Nat
def goneM (s : List UInt8) (n k : Nat) : Inp × List Rq := if n = 0 then (Inp.none (s.drop k), []) else (⟨s.drop k, [], n, k, false, 0⟩, [])
def goneL (s : List UInt8) (l : List (List UInt8)) (k : Nat) : Inp × List Rq := (Inp.none (s.drop k), if l.isEmpty then [] else [(l, k)])
def startF (A B L : Nat) (s : List UInt8) : Sum Int (Inp × List Rq) := match s with
  | [] => .inl (-1)
  | c :: _ => if c = 42 then (match firstF 42 A 7 s with
      | .inl e => .inl e
      | .inr (n, k) => .inr (goneM s n k))
    else match oneF A B L s with
      | .inl e => .inl e
      | .inr (l, k) => .inr (goneL s l k)
def headF (B : Nat) (x : Inp) : Sum Int (Inp × List Rq) := match firstF 36 B 6 x.rest with
  | .inl e => .inl e
  | .inr (k, m) => .inr (⟨x.rest.drop m, x.args, x.left, x.size + m, true, k⟩, [])
def goneB (r : List UInt8) (l : List (List UInt8)) (left size need : Nat) : Inp × List Rq :=
  if left = 1 then (Inp.none (r.drop (need + 2)), [(l ++ [r.take need], size + need + 2)])
  else (⟨r.drop (need + 2), l ++ [r.take need], left - 1, size + need + 2, false, 0⟩, [])
def bodyG (r : List UInt8) (l : List (List UInt8)) (left size need : Nat) : Sum Int (Inp × List Rq) :=
  if r.length < need then .inl (-1)
  else if endsF (r.drop need) = 0 then .inr (goneB r l left size need)
  else .inl (endsF (r.drop need))
def bodyF (x : Inp) : Sum Int (Inp × List Rq) := bodyG x.rest x.args x.left x.size x.need
/-- What is gone past next: -1, nothing yet; another number, a fault. -/
def stepF (A B L : Nat) (x : Inp) : Sum Int (Inp × List Rq) :=
  if x.left = 0 then startF A B L x.rest else if x.body = false then headF B x else bodyF x
def runF (A B L : Nat) : Nat → Inp → Sum Int Inp × List Rq
  | 0, x => (.inr x, [])
  | f + 1, x => match stepF A B L x with
    | .inl e => if e = -1 then (.inr x, []) else (.inl e, [])
    | .inr (y, q) => ((runF A B L f y).1, q ++ (runF A B L f y).2)
/-- All that is gone past: a fault or what is left, and the requests. -/
def feedF (A B L : Nat) (x : Inp) : Sum Int Inp × List Rq := runF A B L (x.rest.length + 1) x

/-! ### What is known stays so -/
theorem firstGo_keep {most over : Int} (a b : List UInt8) : ∀ pre, firstGo most over pre a ≠ .inl (-1) → firstGo most over pre (a ++ b) = firstGo most over pre a := by
  induction a with
  | nil => intro pre h; exact absurd rfl h
  | cons c t ih =>
    intro pre h
    rw [List.cons_append, firstGo]
    rw [firstGo] at h ⊢
    by_cases hc : dg c = true
    · rw [if_pos hc] at h ⊢
      rw [if_pos hc]
      cases hn : numOf (pre ++ [c]) with
      | none => rfl
      | some n =>
        rw [hn] at h
        simp only [] at h ⊢
        by_cases hm : most < n
        · rw [if_pos hm, if_pos hm]
        · rw [if_neg hm] at h ⊢
          rw [if_neg hm]
          exact ih _ h
    · rw [if_neg hc] at h ⊢
      rw [if_neg hc]
      by_cases hp : pre = [] ∨ c ≠ 13
      · rw [if_pos hp, if_pos hp]
      · rw [if_neg hp] at h ⊢
        rw [if_neg hp]
        cases t with
        | nil => exact absurd rfl h
        | cons d t => rfl
theorem firstF_keep {mark : UInt8} {most over : Int} {a : List UInt8} (b : List UInt8) (h : firstF mark most over a ≠ .inl (-1)) : firstF mark most over (a ++ b) = firstF mark most over a := by
  cases a with
  | nil => exact absurd rfl h
  | cons c t =>
    rw [List.cons_append, firstF]
    rw [firstF] at h ⊢
    by_cases hc : c ≠ mark
    · rw [if_pos hc, if_pos hc]
    · rw [if_neg hc] at h ⊢
      rw [if_neg hc]
      exact firstGo_keep t b [] h
theorem endsF_keep {a : List UInt8} (b : List UInt8) (h : endsF a ≠ -1) : endsF (a ++ b) = endsF a := by
  match a with
  | [] => exact absurd rfl h
  | [c] =>
    rw [endsF] at h
    by_cases hc : c ≠ 13
    · rw [List.cons_append, endsF, endsF, if_pos hc, if_pos hc]
    · rw [if_neg hc] at h; exact absurd rfl h
  | c :: d :: t => rfl
theorem lineGo_keep {ln : Nat} (a b : List UInt8) : ∀ pre, lineGo ln pre a ≠ .inl (-1) → lineGo ln pre (a ++ b) = lineGo ln pre a := by
  induction a with
  | nil =>
    intro pre h
    rw [lineGo] at h
    by_cases hl : ln < pre.length
    · rw [List.nil_append, lineGo, if_pos hl]
      cases b with
      | nil => rw [lineGo, if_pos hl]
      | cons c t => rw [lineGo, if_pos hl]
    · rw [if_neg hl] at h; exact absurd rfl h
  | cons c t ih =>
    intro pre h
    rw [List.cons_append, lineGo]
    rw [lineGo] at h ⊢
    by_cases hl : ln < pre.length
    · rw [if_pos hl, if_pos hl]
    · rw [if_neg hl] at h ⊢
      rw [if_neg hl]
      by_cases hc : c = 10
      · rw [if_pos hc, if_pos hc]
      · rw [if_neg hc] at h ⊢
        rw [if_neg hc]
        exact ih _ h
theorem oneF_keep {A B L : Nat} {a : List UInt8} (b : List UInt8) (h : oneF A B L a ≠ .inl (-1)) : oneF A B L (a ++ b) = oneF A B L a := by
  have hl : lineGo L [] a ≠ .inl (-1) := fun e => h (by unfold oneF; rw [e])
  unfold oneF
  rw [lineGo_keep a b [] hl]

/-! ### How many bytes are gone past -/
theorem firstGo_len {most over : Int} (a : List UInt8) : ∀ pre n k, firstGo most over pre a = .inr (n, k) → 4 ≤ k ∧ pre.length + 1 + 2 ≤ k ∧ k ≤ pre.length + 1 + a.length := by
  induction a with
  | nil => intro pre n k h; cases h
  | cons c t ih =>
    intro pre n k h
    rw [firstGo] at h
    split at h
    · split at h
      · split at h <;> cases h
      · split at h
        · cases h
        · have := ih _ _ _ h
          simp at this ⊢
          omega
    · split at h
      · cases h
      · rename_i hp
        unfold lfF at h
        split at h
        · cases h
        · split at h
          · cases h
          · simp only [Sum.inr.injEq, Prod.mk.injEq] at h
            have hne : pre.length ≠ 0 := fun e => hp (Or.inl (List.eq_nil_of_length_eq_zero e))
            simp
            omega
theorem firstF_len {mark : UInt8} {most over : Int} {a : List UInt8} {n k : Nat} (h : firstF mark most over a = .inr (n, k)) : 4 ≤ k ∧ k ≤ a.length := by
  cases a with
  | nil => cases h
  | cons c t =>
    rw [firstF] at h
    split at h
    · cases h
    · have := firstGo_len t _ _ _ h
      simp at this ⊢
      omega
theorem lineGo_len {ln : Nat} (a : List UInt8) : ∀ pre q, lineGo ln pre a = .inr q → pre.length ≤ q.length ∧ q.length + 1 ≤ pre.length + a.length ∧ q.length ≤ ln := by
  induction a with
  | nil => intro pre q h; rw [lineGo] at h; split at h <;> cases h
  | cons c t ih =>
    intro pre q h
    rw [lineGo] at h
    split at h
    · cases h
    · split at h
      · obtain rfl := Sum.inr.inj h
        simp
        omega
      · have := ih _ _ h
        simp at this ⊢
        omega
theorem oneF_len {A B L : Nat} {a : List UInt8} {l : List (List UInt8)} {k : Nat} (h : oneF A B L a = .inr (l, k)) : 1 ≤ k ∧ k ≤ a.length := by
  unfold oneF at h
  split at h
  · cases h
  · rename_i q hq
    have := lineGo_len a _ _ hq
    simp at this
    split at h
    · cases h
    · split at h
      · cases h
      · split at h
        · cases h
        · simp only [Sum.inr.injEq, Prod.mk.injEq] at h
          omega
theorem endsF_len {a : List UInt8} (h : endsF a = 0) : 2 ≤ a.length := by
  match a with
  | [] => exact absurd h (by decide)
  | [c] => rw [endsF] at h; split at h <;> exact absurd h (by decide)
  | c :: d :: t => simp

/-! ### One step, with more behind -/
section
variable {A B L : Nat}
theorem drop_more {a b : List UInt8} {k : Nat} (h : k ≤ a.length) : (a ++ b).drop k = a.drop k ++ b := by
  rw [List.drop_append_of_le_length h]
theorem take_more {a b : List UInt8} {k : Nat} (h : k ≤ a.length) : (a ++ b).take k = a.take k := by
  rw [List.take_append_of_le_length h]
theorem goneM_add {s b : List UInt8} {n k : Nat} (hk : k ≤ s.length) (h4 : 1 ≤ k) : goneM (s ++ b) n k = ((goneM s n k).1.add b, (goneM s n k).2) ∧ (goneM s n k).1.rest.length < s.length := by
  unfold goneM
  rw [drop_more hk]
  split
  · exact ⟨rfl, by simp [Inp.none]; omega⟩
  · exact ⟨rfl, by simp; omega⟩
theorem goneL_add {s b : List UInt8} {l : List (List UInt8)} {k : Nat} (hk : k ≤ s.length) (h4 : 1 ≤ k) : goneL (s ++ b) l k = ((goneL s l k).1.add b, (goneL s l k).2) ∧ (goneL s l k).1.rest.length < s.length := by
  unfold goneL
  rw [drop_more hk]
  exact ⟨rfl, by simp [Inp.none]; omega⟩
theorem goneB_add {r b : List UInt8} {l : List (List UInt8)} {left size need : Nat} (hk : need + 2 ≤ r.length) : goneB (r ++ b) l left size need = ((goneB r l left size need).1.add b, (goneB r l left size need).2) ∧ (goneB r l left size need).1.rest.length < r.length := by
  unfold goneB
  rw [drop_more hk, take_more (by omega)]
  split
  · exact ⟨rfl, by simp [Inp.none]; omega⟩
  · exact ⟨rfl, by simp; omega⟩
/-- With more behind: a fault stays, and what is gone past stays so. -/
def Adds (R S : Sum Int (Inp × List Rq)) (b : List UInt8) (n : Nat) : Prop :=
  (∀ e, R = .inl e → e ≠ -1 → S = .inl e) ∧ (∀ y q, R = .inr (y, q) → S = .inr (y.add b, q) ∧ y.rest.length < n)
theorem adds_more {S : Sum Int (Inp × List Rq)} {b : List UInt8} {n : Nat} : Adds (.inl (-1)) S b n := ⟨fun _ h he => absurd (Sum.inl.inj h).symm he, fun _ _ h => by cases h⟩
theorem adds_dead {e : Int} {b : List UInt8} {n : Nat} : Adds (.inl e) (.inl e) b n := ⟨fun _ h _ => h, fun _ _ h => by cases h⟩
theorem adds_gone {p p' : Inp × List Rq} {b : List UInt8} {n : Nat} (h : p' = (p.1.add b, p.2) ∧ p.1.rest.length < n) : Adds (.inr p) (.inr p') b n := by
  refine ⟨fun _ h _ => (by cases h), fun y q e => ?_⟩
  obtain rfl := Sum.inr.inj e
  exact ⟨congrArg _ h.1, h.2⟩
theorem start_add (s b : List UInt8) : Adds (startF A B L s) (startF A B L (s ++ b)) b s.length := by
  cases s with
  | nil => exact adds_more
  | cons c t =>
    by_cases hc : c = 42
    · have e0 : ∀ u, startF A B L (c :: u) = (match firstF 42 A 7 (c :: u) with
        | .inl e => .inl e
        | .inr (n, k) => .inr (goneM (c :: u) n k)) := fun u => by rw [startF, if_pos hc]
      rw [List.cons_append, e0, e0, ← List.cons_append]
      cases hf : firstF 42 A 7 (c :: t) with
      | inl e =>
        by_cases he : e = -1
        · subst he; exact adds_more
        · rw [firstF_keep b (by rw [hf]; exact fun x => he (Sum.inl.inj x)), hf]
          exact adds_dead
      | inr p =>
        obtain ⟨n, k⟩ := p
        obtain ⟨h4, hk⟩ := firstF_len hf
        rw [firstF_keep b (by rw [hf]; exact fun x => by cases x), hf]
        exact adds_gone (goneM_add hk (by omega))
    · have e0 : ∀ u, startF A B L (c :: u) = (match oneF A B L (c :: u) with
        | .inl e => .inl e
        | .inr (l, k) => .inr (goneL (c :: u) l k)) := fun u => by rw [startF, if_neg hc]
      rw [List.cons_append, e0, e0, ← List.cons_append]
      cases hf : oneF A B L (c :: t) with
      | inl e =>
        by_cases he : e = -1
        · subst he; exact adds_more
        · rw [oneF_keep b (by rw [hf]; exact fun x => he (Sum.inl.inj x)), hf]
          exact adds_dead
      | inr p =>
        obtain ⟨l, k⟩ := p
        obtain ⟨h4, hk⟩ := oneF_len hf
        rw [oneF_keep b (by rw [hf]; exact fun x => by cases x), hf]
        exact adds_gone (goneL_add hk h4)
theorem head_add (x : Inp) (b : List UInt8) : Adds (headF B x) (headF B (x.add b)) b x.rest.length := by
  unfold headF
  show Adds _ (match firstF 36 B 6 (x.rest ++ b) with
    | .inl e => .inl e
    | .inr (k, m) => .inr (⟨(x.rest ++ b).drop m, x.args, x.left, x.size + m, true, k⟩, [])) b _
  cases hf : firstF 36 B 6 x.rest with
  | inl e =>
    by_cases he : e = -1
    · subst he; exact adds_more
    · rw [firstF_keep b (by rw [hf]; exact fun x => he (Sum.inl.inj x)), hf]
      exact adds_dead
  | inr p =>
    obtain ⟨k, m⟩ := p
    obtain ⟨h4, hk⟩ := firstF_len hf
    rw [firstF_keep b (by rw [hf]; exact fun x => by cases x), hf]
    show Adds (.inr (⟨x.rest.drop m, x.args, x.left, x.size + m, true, k⟩, [])) (.inr (⟨(x.rest ++ b).drop m, x.args, x.left, x.size + m, true, k⟩, [])) b _
    rw [drop_more hk]
    exact adds_gone ⟨rfl, by simp; omega⟩
theorem body_add (x : Inp) (b : List UInt8) : Adds (bodyF x) (bodyF (x.add b)) b x.rest.length := by
  show Adds (bodyG x.rest x.args x.left x.size x.need) (bodyG (x.rest ++ b) x.args x.left x.size x.need) b x.rest.length
  generalize x.rest = r
  generalize x.need = m
  unfold bodyG
  by_cases hl : r.length < m
  · rw [if_pos hl]; exact adds_more
  · have hl2 : ¬ (r ++ b).length < m := by simp; omega
    rw [if_neg hl, if_neg hl2, drop_more (Nat.le_of_not_lt hl)]
    by_cases he : endsF (r.drop m) = -1
    · rw [if_neg (by rw [he]; decide), he]; exact adds_more
    · rw [endsF_keep b he]
      by_cases hz : endsF (r.drop m) = 0
      · rw [if_pos hz, if_pos hz]
        have h2 := endsF_len hz
        rw [List.length_drop] at h2
        exact adds_gone (goneB_add (by omega))
      · rw [if_neg hz, if_neg hz]; exact adds_dead
theorem step_add (x : Inp) (b : List UInt8) : Adds (stepF A B L x) (stepF A B L (x.add b)) b x.rest.length := by
  unfold stepF
  by_cases h0 : x.left = 0
  · rw [if_pos h0, if_pos (show (x.add b).left = 0 from h0)]
    exact start_add x.rest b
  · rw [if_neg h0, if_neg (show ¬ (x.add b).left = 0 from h0)]
    by_cases h1 : x.body = false
    · rw [if_pos h1, if_pos (show (x.add b).body = false from h1)]
      exact head_add x b
    · rw [if_neg h1, if_neg (show ¬ (x.add b).body = false from h1)]
      exact body_add x b
theorem step_lt {x y : Inp} {q : List Rq} (h : stepF A B L x = .inr (y, q)) : y.rest.length < x.rest.length := ((step_add x []).2 y q h).2

/-! ### All that is gone past -/
theorem run_fuel (f : Nat) : ∀ (g : Nat) (x : Inp), x.rest.length < f → x.rest.length < g → runF A B L f x = runF A B L g x := by
  induction f with
  | zero => intro g x h; omega
  | succ f ih =>
    intro g x h1 h2
    cases g with
    | zero => omega
    | succ g =>
      rw [runF, runF]
      cases hs : stepF A B L x with
      | inl e => rfl
      | inr p =>
        obtain ⟨y, q⟩ := p
        have := step_lt hs
        simp only []
        rw [ih g y (by omega) (by omega)]
theorem feed_stop {x : Inp} (h : stepF A B L x = .inl (-1)) : feedF A B L x = (.inr x, []) := by
  unfold feedF; rw [runF, h]; simp
theorem feed_dead {x : Inp} {e : Int} (h : stepF A B L x = .inl e) (he : e ≠ -1) : feedF A B L x = (.inl e, []) := by
  unfold feedF; rw [runF, h]; simp only []; rw [if_neg he]
theorem feed_next {x y : Inp} {q : List Rq} (h : stepF A B L x = .inr (y, q)) : feedF A B L x = ((feedF A B L y).1, q ++ (feedF A B L y).2) := by
  have hl := step_lt h
  unfold feedF
  rw [runF, h]
  simp only []
  rw [run_fuel x.rest.length (y.rest.length + 1) y hl (by omega)]
/-- In whatever pieces bytes come. -/
theorem feed_add (b : List UInt8) : ∀ (n : Nat) (x : Inp), x.rest.length < n →
    (∀ e, (feedF A B L x).1 = .inl e → feedF A B L (x.add b) = (.inl e, (feedF A B L x).2)) ∧
    (∀ y, (feedF A B L x).1 = .inr y → feedF A B L (x.add b) = ((feedF A B L (y.add b)).1, (feedF A B L x).2 ++ (feedF A B L (y.add b)).2)) := by
  intro n
  induction n with
  | zero => intro x h; omega
  | succ n ih =>
    intro x hx
    obtain ⟨s1, s2⟩ := step_add (A := A) (B := B) (L := L) x b
    cases hs : stepF A B L x with
    | inl e =>
      by_cases he : e = -1
      · subst he
        rw [feed_stop hs]
        refine ⟨fun e h => (by cases h), fun y h => ?_⟩
        obtain rfl := Sum.inr.inj h
        simp
      · rw [feed_dead hs he]
        refine ⟨fun e' h => ?_, fun y h => by cases h⟩
        obtain rfl := Sum.inl.inj h
        exact feed_dead (s1 _ hs he) he
    | inr p =>
      obtain ⟨y, q⟩ := p
      obtain ⟨h1, h2⟩ := s2 y q hs
      obtain ⟨i1, i2⟩ := ih y (by omega)
      rw [feed_next hs, feed_next h1]
      refine ⟨fun e h => ?_, fun z h => ?_⟩
      · rw [i1 e h]
      · rw [i2 z h, List.append_assoc]
/-- What is left is left. -/
theorem feed_idem : ∀ (n : Nat) (x y : Inp), x.rest.length < n → (feedF A B L x).1 = .inr y → stepF A B L y = .inl (-1) ∧ y.rest.length ≤ x.rest.length := by
  intro n
  induction n with
  | zero => intro x y h; omega
  | succ n ih =>
    intro x y hx h
    cases hs : stepF A B L x with
    | inl e =>
      by_cases he : e = -1
      · subst he
        rw [feed_stop hs] at h
        obtain rfl := Sum.inr.inj h
        exact ⟨hs, Nat.le_refl _⟩
      · rw [feed_dead hs he] at h; cases h
    | inr p =>
      obtain ⟨z, q⟩ := p
      have hl := step_lt hs
      rw [feed_next hs] at h
      obtain ⟨h1, h2⟩ := ih z y (by omega) h
      exact ⟨h1, by omega⟩
end
end Go.Proofs.YtjidopgohdlfdaaGreatDoor.Pq
