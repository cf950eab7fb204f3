/-
  Plain mathematics of replies, no program in it: a reply as a tree of a known depth, its bytes ('putF'), the reply with which bytes begin ('takeF'), and that what is put is taken, what is taken is put so, and what is cut off is too short. No condition.
-/
import Derived.Test.YtogbjhpkbdmllaaDoorMath
import Derived.Lib.ItoaLen
namespace Go.Proofs.YtogbjhpkbdmllaaDoor.Rp
open Go.Lib Dec

structure RNode (α : Type) where
  kind : Int
  num : Int
  txt : List UInt8
  sub : List α
/-- A reply of at most so many levels. -/
def Rep : Nat → Type
  | 0 => Empty
  | n + 1 => RNode (Rep n)

/-- What stands at a line's end: 0, the end; 4, a beginning of it; 5, something else. -/
def endF : List UInt8 → Int
  | [] => 4
  | [c] => if c = 13 then 4 else 5
  | c :: d :: _ => if c = 13 ∧ d = 10 then 0 else 5
def stopF (n : Int) (k : Nat) (l : List UInt8) : Sum Int (Int × Nat) := if endF l = 0 then .inr (n, k + 2) else .inl (endF l)
def isDig (c : UInt8) : Bool := decide (48 ≤ c.toNat ∧ c.toNat ≤ 57)
/-- The decimal that goes on with a text, behind what was read of it. -/
def decGo (lo hi ab : Int) : List UInt8 → List UInt8 → Sum Int (Int × Nat)
  | _, [] => .inl 4
  | pre, c :: t =>
    if isDig c then
      match numOf (pre ++ [c]) with
      | none => .inl 5
      | some n => if n < lo then .inl 5 else if hi < n then .inl ab else decGo lo hi ab (pre ++ [c]) t
    else if c = 45 ∧ pre = [] then decGo lo hi ab [45] t
    else match numOf pre with
      | none => .inl 5
      | some n => stopF n pre.length (c :: t)
def lineGo : List UInt8 → List UInt8 → Sum Int (List UInt8)
  | _, [] => .inl 4
  | pre, c :: t => if c = 13 ∨ c = 10 then (if endF (c :: t) = 0 then .inr pre else .inl (endF (c :: t))) else lineGo (pre ++ [c]) t

def lineN {α : Type} (k : Int) (s : List UInt8) : Sum Int (RNode α × Nat) := match lineGo [] s with
  | .inl e => .inl e
  | .inr q => .inr (⟨k, 0, q, []⟩, q.length + 2)
def numN {α : Type} (s : List UInt8) : Sum Int (RNode α × Nat) := match decGo (-9223372036854775808) 9223372036854775807 5 [] s with
  | .inl e => .inl e
  | .inr (n, k) => .inr (⟨3, n, [], []⟩, k)
def bodyN {α : Type} (n : Int) (k : Nat) (b : List UInt8) : Sum Int (RNode α × Nat) :=
  if n = -1 then .inr (⟨5, 0, [], []⟩, k)
  else if b.length < n.toNat then .inl 4
  else if endF (b.drop n.toNat) = 0 then .inr (⟨4, 0, b.take n.toNat, []⟩, k + n.toNat + 2) else .inl (endF (b.drop n.toNat))
def bulkN {α : Type} (s : List UInt8) : Sum Int (RNode α × Nat) := match decGo (-1) 1048576 6 [] s with
  | .inl e => .inl e
  | .inr (n, k) => bodyN n k (s.drop k)
def listGo {α : Type} (f : List UInt8 → Sum Int (α × Nat)) : Nat → List UInt8 → Sum Int (List α × Nat)
  | 0, _ => .inr ([], 0)
  | c + 1, s => match f s with
    | .inl e => .inl e
    | .inr (x, n) => match listGo f c (s.drop n) with
      | .inl e => .inl e
      | .inr (l, m) => .inr (x :: l, n + m)
def subsN {α : Type} (f : List UInt8 → Sum Int (α × Nat)) (n : Int) (k : Nat) (b : List UInt8) : Sum Int (RNode α × Nat) :=
  if n = -1 then .inr (⟨7, 0, [], []⟩, k)
  else match listGo f n.toNat b with
    | .inl e => .inl e
    | .inr (l, m) => .inr (⟨6, 0, [], l⟩, k + m)
def listN {α : Type} (deep : Bool) (f : List UInt8 → Sum Int (α × Nat)) (s : List UInt8) : Sum Int (RNode α × Nat) :=
  if deep then .inl 7 else match decGo (-1) 65536 7 [] s with
  | .inl e => .inl e
  | .inr (n, k) => subsN f n k (s.drop k)
def plus1 {α : Type} (r : Sum Int (α × Nat)) : Sum Int (α × Nat) := match r with
  | .inl e => .inl e
  | .inr (x, n) => .inr (x, n + 1)
def signN {α : Type} (deep : Bool) (f : List UInt8 → Sum Int (α × Nat)) (c : UInt8) (t : List UInt8) : Sum Int (RNode α × Nat) :=
  if c = 43 then lineN 1 t else if c = 45 then lineN 2 t else if c = 58 then numN t else if c = 36 then bulkN t else if c = 42 then listN deep f t else .inl 5
def oneN {α : Type} (deep : Bool) (f : List UInt8 → Sum Int (α × Nat)) : List UInt8 → Sum Int (RNode α × Nat)
  | [] => .inl 4
  | c :: t => plus1 (signN deep f c t)
/-- The reply with which a text begins, of at most so many levels. -/
def takeF : (k : Nat) → List UInt8 → Sum Int (Rep k × Nat)
  | 0, _ => .inl 7
  | k + 1, s => (oneN (k == 0) (takeF k) s : Sum Int (RNode (Rep k) × Nat))

section
variable {α : Type}
def named (x : RNode α) : Bool :=
  if x.kind = 1 ∨ x.kind = 2 ∨ x.kind = 4 then x.num == 0 && x.sub.isEmpty
  else if x.kind = 3 then x.txt.isEmpty && x.sub.isEmpty
  else if x.kind = 6 then x.num == 0 && x.txt.isEmpty
  else if x.kind = 5 ∨ x.kind = 7 then x.num == 0 && x.txt.isEmpty && x.sub.isEmpty
  else false
def hasEol (l : List UInt8) : Bool := l.any fun c => c == 13 || c == 10
def faultF (x : RNode α) (w : Nat) : Int :=
  if named x = false then 1
  else if (x.kind = 1 ∨ x.kind = 2) ∧ hasEol x.txt = true then 5
  else if x.kind = 4 ∧ 1048576 < x.txt.length then 6
  else if x.kind = 6 ∧ 65536 < x.sub.length then 7
  else if (x.kind = 6 ∨ x.kind = 7) ∧ 8 ≤ w then 7
  else 0
def eol : List UInt8 := [13, 10]
def lineP (c : UInt8) (l : List UInt8) : List UInt8 := c :: l ++ eol
def putGo (f : α → List UInt8 × Int) : List α → List UInt8 × Int
  | [] => ([], 0)
  | x :: l => if (f x).2 = 0 then ((f x).1 ++ (putGo f l).1, (putGo f l).2) else f x
def putN (f : α → List UInt8 × Int) (x : RNode α) (w : Nat) : List UInt8 × Int :=
  if faultF x w ≠ 0 then ([], faultF x w)
  else if x.kind = 1 then (lineP 43 x.txt, 0)
  else if x.kind = 2 then (lineP 45 x.txt, 0)
  else if x.kind = 3 then (lineP 58 (itoa x.num), 0)
  else if x.kind = 4 then (lineP 36 (itoa x.txt.length) ++ x.txt ++ eol, 0)
  else if x.kind = 5 then (lineP 36 (itoa (-1)), 0)
  else if x.kind = 7 then (lineP 42 (itoa (-1)), 0)
  else (lineP 42 (itoa x.sub.length) ++ (putGo f x.sub).1, (putGo f x.sub).2)
def sameL {β : Type} (f : α → β → Bool) : List α → List β → Bool
  | [], [] => true
  | a :: l, b :: m => f a b && sameL f l m
  | _, _ => false
def sameN {β : Type} (f : α → β → Bool) (x : RNode α) (y : RNode β) : Bool := x.kind == y.kind && (x.num == y.num && (x.txt == y.txt && sameL f x.sub y.sub))
end
/-- A reply's bytes, up to its first fault, where it stands within w lists; and the fault. -/
def putF : (n : Nat) → Nat → Rep n → List UInt8 × Int
  | 0, _, _ => ([], 1)
  | n + 1, w, x => putN (putF n (w + 1)) (x : RNode (Rep n)) w
/-- Whether two replies are the same. -/
def sameF : (n m : Nat) → Rep n → Rep m → Bool
  | n + 1, m + 1, x, y => sameN (sameF n m) (x : RNode (Rep n)) (y : RNode (Rep m))
  | _, _, _, _ => false
def inI64 (n : Int) : Prop := -9223372036854775808 ≤ n ∧ n ≤ 9223372036854775807
def Ok : (n : Nat) → Rep n → Prop
  | 0, _ => True
  | n + 1, x => inI64 (x : RNode (Rep n)).num ∧ (x : RNode (Rep n)).txt.length ≤ 140737488355328 ∧ ∀ y ∈ (x : RNode (Rep n)).sub, Ok n y

/-! ### A line's end -/
theorem endF_eol (t : List UInt8) : endF (13 :: 10 :: t) = 0 := by simp [endF]
theorem endF_cr : endF [13] = 4 := by simp [endF]
theorem endF_zero {l : List UInt8} (h : endF l = 0) : ∃ t, l = 13 :: 10 :: t := by
  match l, h with
  | [], h => simp [endF] at h
  | [c], h => simp only [endF] at h; split at h <;> simp at h
  | c :: d :: t, h =>
    simp only [endF] at h
    split at h
    · rename_i e; obtain ⟨rfl, rfl⟩ := e; exact ⟨t, rfl⟩
    · simp at h
/-- Cut off within its end, or ahead of it. -/
theorem endF_cut {a b : List UInt8} (h : endF (a ++ b) = 0) (hl : a.length < 2) : endF a = 4 := by
  obtain ⟨t, ht⟩ := endF_zero h
  match a, hl, ht with
  | [], _, _ => rfl
  | [c], _, ht =>
    simp only [List.singleton_append, List.cons.injEq] at ht
    rw [ht.1]; exact endF_cr

/-! ### Decimals -/
section
variable {lo hi ab : Int}
theorem stopF_inr {n m : Int} {k j : Nat} {l : List UInt8} (h : stopF n k l = .inr (m, j)) : m = n ∧ j = k + 2 ∧ endF l = 0 := by
  unfold stopF at h
  split at h
  · simp only [Sum.inr.injEq, Prod.mk.injEq] at h; exact ⟨h.1.symm, h.2.symm, by assumption⟩
  · cases h
theorem decGo_dig {pre t : List UInt8} {c : UInt8} {n : Int} (hc : isDig c = true) (hn : numOf (pre ++ [c]) = some n) (h0 : lo ≤ n) (h1 : n ≤ hi) :
    decGo lo hi ab pre (c :: t) = decGo lo hi ab (pre ++ [c]) t := by
  rw [decGo, if_pos hc, hn]
  simp only []
  rw [if_neg (by omega), if_neg (by omega)]
/-- Cut off, what was a decimal is too short. -/
theorem decGo_cut (a : List UInt8) : ∀ (pre b : List UInt8) (n : Int) (k : Nat), decGo lo hi ab pre (a ++ b) = .inr (n, k) → pre.length + a.length < k → decGo lo hi ab pre a = .inl 4 := by
  induction a with
  | nil => intros; rfl
  | cons c a ih =>
    intro pre b n k h hl
    rw [List.cons_append, decGo] at h
    rw [decGo]
    by_cases hc : isDig c = true
    · rw [if_pos hc] at h ⊢
      cases hn : numOf (pre ++ [c]) with
      | none => rw [hn] at h; cases h
      | some m =>
        rw [hn] at h
        simp only [] at h ⊢
        by_cases h1 : m < lo
        · rw [if_pos h1] at h; cases h
        · rw [if_neg h1] at h ⊢
          by_cases h2 : hi < m
          · rw [if_pos h2] at h; cases h
          · rw [if_neg h2] at h ⊢
            exact ih _ b n k h (by simp at hl ⊢; omega)
    · rw [if_neg hc] at h ⊢
      by_cases h45 : c = 45 ∧ pre = []
      · rw [if_pos h45] at h ⊢
        obtain ⟨rfl, rfl⟩ := h45
        exact ih _ b n k h (by simp at hl ⊢; omega)
      · rw [if_neg h45] at h ⊢
        cases hn : numOf pre with
        | none => rw [hn] at h; cases h
        | some m =>
          rw [hn] at h
          simp only [] at h ⊢
          obtain ⟨_, rfl, he⟩ := stopF_inr h
          have := endF_cut (a := c :: a) (b := b) he (by simp at hl ⊢; omega)
          unfold stopF
          rw [if_neg (by rw [this]; decide), this]
def decOk (lo hi : Int) (pre : List UInt8) : Prop := ∀ m, numOf pre = some m → lo ≤ m ∧ m ≤ hi
theorem numOf_nil : numOf [] = none := by decide +kernel
theorem numOf_minus_alone : numOf [45] = none := by decide +kernel
theorem decOk_nil : decOk lo hi [] := by intro m h; rw [numOf_nil] at h; cases h
theorem decOk_minus : decOk lo hi [45] := by intro m h; rw [numOf_minus_alone] at h; cases h
/-- What was read as a decimal is the number's text, and a line's end. -/
theorem decGo_text (a : List UInt8) : ∀ (pre : List UInt8) (n : Int) (k : Nat), decGo lo hi ab pre a = .inr (n, k) → decOk lo hi pre →
    ∃ u, pre ++ a = itoa n ++ (13 :: 10 :: u) ∧ k = (itoa n).length + 2 ∧ lo ≤ n ∧ n ≤ hi ∧ inI64 n := by
  induction a with
  | nil => intro pre n k h _; cases h
  | cons c a ih =>
    intro pre n k h hok
    rw [decGo] at h
    by_cases hc : isDig c = true
    · rw [if_pos hc] at h
      cases hn : numOf (pre ++ [c]) with
      | none => rw [hn] at h; cases h
      | some m =>
        rw [hn] at h
        simp only [] at h
        by_cases h1 : m < lo
        · rw [if_pos h1] at h; cases h
        · rw [if_neg h1] at h
          by_cases h2 : hi < m
          · rw [if_pos h2] at h; cases h
          · rw [if_neg h2] at h
            obtain ⟨u, hu, r⟩ := ih _ n k h (by intro x hx; rw [hn] at hx; cases hx; omega)
            exact ⟨u, by rw [← hu]; simp, r⟩
    · rw [if_neg hc] at h
      by_cases h45 : c = 45 ∧ pre = []
      · rw [if_pos h45] at h
        obtain ⟨rfl, rfl⟩ := h45
        obtain ⟨u, hu, r⟩ := ih _ n k h decOk_minus
        exact ⟨u, by rw [← hu]; rfl, r⟩
      · rw [if_neg h45] at h
        cases hn : numOf pre with
        | none => rw [hn] at h; cases h
        | some m =>
          rw [hn] at h
          simp only [] at h
          obtain ⟨rfl, rfl, he⟩ := stopF_inr h
          obtain ⟨t, ht⟩ := endF_zero he
          obtain ⟨e1, e2, e3⟩ := numOf_some _ _ hn
          obtain ⟨o1, o2⟩ := hok _ hn
          exact ⟨t, by rw [ht, e1], by rw [e1], o1, o2, e2, e3⟩
theorem isDig_dig {d : Nat} (h : d < 10) : isDig (UInt8.ofNat (48 + d)) = true := by
  have e : (UInt8.ofNat (48 + d)).toNat = 48 + d := by simp; omega
  simp only [isDig, e]
  exact decide_eq_true ⟨by omega, by omega⟩
theorem decGo_digits (pre : List UInt8) (u : Nat) : ∀ t, (∀ v, v ≤ u → (pre = [] ∨ 1 ≤ v) → ∃ m, numOf (pre ++ decDigits v) = some m ∧ lo ≤ m ∧ m ≤ hi) → (pre = [] ∨ 1 ≤ u) →
    decGo lo hi ab pre (decDigits u ++ t) = decGo lo hi ab (pre ++ decDigits u) t := by
  induction u using Nat.strongRecOn with
  | _ u ih =>
    intro t hv hu
    obtain ⟨m, hm, h0, h1⟩ := hv u (Nat.le_refl _) hu
    by_cases h10 : u < 10
    · have e : decDigits u = [UInt8.ofNat (48 + u)] := decDigits_one h10
      rw [e] at hm ⊢
      exact decGo_dig (isDig_dig h10) hm h0 h1
    · have e : decDigits u = decDigits (u / 10) ++ [UInt8.ofNat (48 + u % 10)] := by rw [decDigits, dif_neg h10]
      rw [e] at hm ⊢
      rw [List.append_assoc, ih (u / 10) (by omega) _ (fun v hle hv' => hv v (by omega) hv') (Or.inr (by omega))]
      rw [List.singleton_append, decGo_dig (isDig_dig (Nat.mod_lt _ (by decide))) (by rw [List.append_assoc]; exact hm) h0 h1, List.append_assoc]
theorem isDig_cr : isDig 13 = false := by decide
theorem decGo_eol (pre t : List UInt8) (n : Int) (h : numOf pre = some n) : decGo lo hi ab pre (13 :: 10 :: t) = .inr (n, pre.length + 2) := by
  rw [decGo, if_neg (by rw [isDig_cr]; decide), if_neg (by intro h; exact absurd h.1 (by decide)), h]
  simp [stopF, endF]
/-- A number's text with a line's end is read as it. -/
theorem decGo_itoa (n : Int) (t : List UInt8) (hi64 : inI64 n) (h0 : lo ≤ n) (h1 : n ≤ hi) (hlo : lo ≤ 0) (hhi : 0 ≤ hi) :
    decGo lo hi ab [] (itoa n ++ (13 :: 10 :: t)) = .inr (n, (itoa n).length + 2) := by
  obtain ⟨i0, i1⟩ := hi64
  by_cases hn : n < 0
  · obtain ⟨u, hu1, rfl⟩ : ∃ u : Nat, 1 ≤ u ∧ n = -(u : Int) := ⟨n.natAbs, by omega, by omega⟩
    have hnum := numOf_itoa (-(u : Int)) i0 i1
    rw [Dec.itoa_neg u hu1] at hnum ⊢
    rw [List.cons_append, decGo, if_neg (by decide), if_pos ⟨rfl, rfl⟩]
    rw [decGo_digits [45] u _ ?_ (Or.inr hu1)]
    · exact decGo_eol _ _ _ hnum
    · intro v hv hv1
      have hv2 : 1 ≤ v := by rcases hv1 with h | h; cases h; exact h
      refine ⟨-(v : Int), ?_, by omega, by omega⟩
      have := numOf_itoa (-(v : Int)) (by omega) (by omega)
      rw [Dec.itoa_neg v hv2] at this
      exact this
  · obtain ⟨u, rfl⟩ : ∃ u : Nat, n = (u : Int) := ⟨n.toNat, by omega⟩
    have hnum := numOf_itoa (u : Int) i0 i1
    rw [itoa_nat] at hnum ⊢
    rw [decGo_digits [] u _ ?_ (Or.inl rfl)]
    · exact decGo_eol _ _ _ hnum
    · intro v hv _
      refine ⟨(v : Int), ?_, by omega, by omega⟩
      have := numOf_itoa (v : Int) (by omega) (by omega)
      rw [itoa_nat] at this
      exact this
end

/-! ### Lines -/
def Clean (l : List UInt8) : Prop := ∀ c ∈ l, ¬ (c = 13 ∨ c = 10)
theorem hasEol_clean {l : List UInt8} (h : hasEol l = false) : Clean l := by
  intro c hc hx
  have := List.any_eq_false.1 h c hc
  simp at this
  rcases hx with hx | hx
  · exact this.1 hx
  · exact this.2 hx
theorem clean_hasEol {l : List UInt8} (h : Clean l) : hasEol l = false := by
  refine List.any_eq_false.2 fun c hc => ?_
  have := h c hc
  simp
  exact ⟨fun e => this (Or.inl e), fun e => this (Or.inr e)⟩
theorem lineGo_eol (q : List UInt8) : ∀ pre t, Clean q → lineGo pre (q ++ (13 :: 10 :: t)) = .inr (pre ++ q) := by
  induction q with
  | nil => intro pre t _; simp [lineGo, endF]
  | cons c q ih =>
    intro pre t h
    rw [List.cons_append, lineGo, if_neg (h c (by simp)), ih _ _ (fun x hx => h x (by simp [hx]))]
    simp
theorem lineGo_cut (a : List UInt8) : ∀ (pre b q : List UInt8), lineGo pre (a ++ b) = .inr q → pre.length + a.length < q.length + 2 → lineGo pre a = .inl 4 := by
  induction a with
  | nil => intros; rfl
  | cons c a ih =>
    intro pre b q h hl
    rw [List.cons_append, lineGo] at h
    rw [lineGo]
    by_cases hc : c = 13 ∨ c = 10
    · rw [if_pos hc] at h ⊢
      by_cases he : endF (c :: (a ++ b)) = 0
      · rw [if_pos he] at h
        obtain rfl := Sum.inr.inj h
        have := endF_cut (a := c :: a) (b := b) he (by simp at hl ⊢; omega)
        rw [if_neg (by rw [this]; decide), this]
      · rw [if_neg he] at h; cases h
    · rw [if_neg hc] at h ⊢
      exact ih _ b q h (by simp at hl ⊢; omega)
theorem lineGo_text (a : List UInt8) : ∀ (pre q : List UInt8), lineGo pre a = .inr q → Clean pre → ∃ u, pre ++ a = q ++ (13 :: 10 :: u) ∧ Clean q := by
  induction a with
  | nil => intro pre q h; cases h
  | cons c a ih =>
    intro pre q h hp
    rw [lineGo] at h
    by_cases hc : c = 13 ∨ c = 10
    · rw [if_pos hc] at h
      by_cases he : endF (c :: a) = 0
      · rw [if_pos he] at h
        obtain rfl := Sum.inr.inj h
        obtain ⟨t, ht⟩ := endF_zero he
        exact ⟨t, by rw [ht], hp⟩
      · rw [if_neg he] at h; cases h
    · rw [if_neg hc] at h
      obtain ⟨u, hu, hq⟩ := ih (pre ++ [c]) q h (by
        intro x hx
        rcases List.mem_append.1 hx with hx | hx
        · exact hp x hx
        · rw [List.mem_singleton.1 hx]; exact hc)
      exact ⟨u, by rw [← hu]; simp, hq⟩

end Go.Proofs.YtogbjhpkbdmllaaDoor.Rp
