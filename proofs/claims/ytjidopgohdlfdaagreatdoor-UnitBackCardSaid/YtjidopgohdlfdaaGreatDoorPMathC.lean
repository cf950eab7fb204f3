/-
  Plain mathematics of requests among bytes: a request has at least one argument, and no more than the limit lets; a length is no more than its limit. No condition.
-/
import Derived.Test.YtjidopgohdlfdaaGreatDoorPMathB
namespace Go.Proofs.YtjidopgohdlfdaaGreatDoor.Pq
open Go.Lib Dec

theorem firstGo_most {most over : Int} (h0 : 0 ≤ most) (a : List UInt8) : ∀ pre n k, (∀ m, numOf pre = some m → m ≤ most) → firstGo most over pre a = .inr (n, k) → (n : Int) ≤ most := by
  induction a with
  | nil => intro pre n k _ h; cases h
  | cons c t ih =>
    intro pre n k hp h
    rw [firstGo] at h
    by_cases hc : dg c = true
    · rw [if_pos hc] at h
      cases hn : numOf (pre ++ [c]) with
      | none => rw [hn] at h; simp only [] at h; split at h <;> cases h
      | some m =>
        rw [hn] at h
        simp only [] at h
        by_cases hm : most < m
        · rw [if_pos hm] at h; cases h
        · rw [if_neg hm] at h
          exact ih _ n k (fun x hx => by rw [hn] at hx; rw [← Option.some.inj hx]; omega) h
    · rw [if_neg hc] at h
      by_cases hq : pre = [] ∨ c ≠ 13
      · rw [if_pos hq] at h; cases h
      · rw [if_neg hq] at h
        unfold lfF at h
        cases t with
        | nil => cases h
        | cons d t =>
          simp only [] at h
          by_cases hd : d ≠ 10
          · rw [if_pos hd] at h; cases h
          · rw [if_neg hd] at h
            simp only [Sum.inr.injEq, Prod.mk.injEq] at h
            rw [← h.1]
            cases hn : numOf pre with
            | none => simpa using h0
            | some m =>
              have := hp m hn
              simp
              omega
theorem firstF_most {mark : UInt8} {most over : Int} (h0 : 0 ≤ most) {a : List UInt8} {n k : Nat} (h : firstF mark most over a = .inr (n, k)) : (n : Int) ≤ most := by
  cases a with
  | nil => cases h
  | cons c t =>
    rw [firstF] at h
    by_cases hc : c ≠ mark
    · rw [if_pos hc] at h; cases h
    · rw [if_neg hc] at h
      exact firstGo_most h0 t [] n k (fun m hm => by have : numOf [] = none := by decide +kernel
                                                     rw [this] at hm; cases hm) h
section
variable {A B L : Nat}
theorem oneF_args {s : List UInt8} {l : List (List UInt8)} {k : Nat} (h : oneF A B L s = .inr (l, k)) : l.length ≤ A ∧ ∀ a ∈ l, a.length ≤ B := by
  unfold oneF at h
  split at h
  · cases h
  · split at h
    · cases h
    · rename_i l' hl
      by_cases h1 : A < l'.length
      · rw [if_pos h1] at h; cases h
      · rw [if_neg h1] at h
        by_cases h2 : l'.any (fun a => decide (B < a.length)) = true
        · rw [if_pos h2] at h; cases h
        · rw [if_neg h2] at h
          simp only [Sum.inr.injEq, Prod.mk.injEq] at h
          rw [← h.1]
          refine ⟨by omega, fun a ha => ?_⟩
          have h3 := List.any_eq_false.1 (Bool.not_eq_true _ ▸ h2) a ha
          simpa using h3
/-- An Input as it comes: no more arguments than the limit lets. -/
def Inp.Few (A : Nat) (x : Inp) : Prop := x.left ≠ 0 → x.args.length + x.left ≤ A
def Few (A : Nat) (q : List Rq) : Prop := ∀ p ∈ q, p.1 ≠ [] ∧ p.1.length ≤ A
theorem step_few {x y : Inp} {q : List Rq} (hx : x.Few A) (h : stepF A B L x = .inr (y, q)) : Few A q ∧ y.Few A := by
  have nil : Few A [] := fun p hp => by cases hp
  unfold stepF at h
  by_cases h0 : x.left = 0
  · rw [if_pos h0] at h
    cases hr : x.rest with
    | nil => rw [hr] at h; cases h
    | cons c t =>
      rw [hr, startF] at h
      by_cases hc : c = 42
      · rw [if_pos hc] at h
        cases hf : firstF 42 A 7 (c :: t) with
        | inl e => rw [hf] at h; cases h
        | inr p =>
          obtain ⟨n, k⟩ := p
          have hn := firstF_most (by omega) hf
          rw [hf] at h
          have e := Sum.inr.inj h
          unfold goneM at e
          by_cases hz : n = 0
          · rw [if_pos hz] at e
            obtain ⟨rfl, rfl⟩ := Prod.mk.inj e
            exact ⟨nil, fun h => absurd rfl h⟩
          · rw [if_neg hz] at e
            obtain ⟨rfl, rfl⟩ := Prod.mk.inj e
            exact ⟨nil, fun _ => by simp; omega⟩
      · rw [if_neg hc] at h
        cases hf : oneF A B L (c :: t) with
        | inl e => rw [hf] at h; cases h
        | inr p =>
          obtain ⟨l, k⟩ := p
          have hl := (oneF_args hf).1
          rw [hf] at h
          have e := Sum.inr.inj h
          unfold goneL at e
          obtain ⟨rfl, rfl⟩ := Prod.mk.inj e
          refine ⟨?_, fun h => absurd rfl h⟩
          by_cases hz : l.isEmpty = true
          · rw [if_pos hz]; exact nil
          · rw [if_neg hz]
            intro p hp
            rw [List.mem_singleton.1 hp]
            exact ⟨fun e => hz (by rw [show l = [] from e]; rfl), hl⟩
  · have hxx := hx h0
    rw [if_neg h0] at h
    by_cases h1 : x.body = false
    · rw [if_pos h1] at h
      unfold headF at h
      cases hf : firstF 36 B 6 x.rest with
      | inl e => rw [hf] at h; cases h
      | inr p =>
        obtain ⟨k, m⟩ := p
        rw [hf] at h
        obtain ⟨rfl, rfl⟩ := Prod.mk.inj (Sum.inr.inj h)
        exact ⟨nil, hx⟩
    · rw [if_neg h1] at h
      unfold bodyF bodyG at h
      by_cases hl : x.rest.length < x.need
      · rw [if_pos hl] at h; cases h
      · rw [if_neg hl] at h
        by_cases hz : endsF (x.rest.drop x.need) = 0
        · rw [if_pos hz] at h
          have e := Sum.inr.inj h
          unfold goneB at e
          by_cases h3 : x.left = 1
          · rw [if_pos h3] at e
            obtain ⟨rfl, rfl⟩ := Prod.mk.inj e
            refine ⟨fun p hp => ?_, fun h => absurd rfl h⟩
            rw [List.mem_singleton.1 hp]
            exact ⟨by simp, by simp; omega⟩
          · rw [if_neg h3] at e
            obtain ⟨rfl, rfl⟩ := Prod.mk.inj e
            exact ⟨nil, fun _ => by simp; omega⟩
        · rw [if_neg hz] at h; cases h
/-- Requests have one argument or more, and no more than the limit lets. -/
theorem feed_few : ∀ (n : Nat) (x : Inp), x.rest.length < n → x.Few A → Few A (feedF A B L x).2 := by
  intro n
  induction n with
  | zero => intro x h; omega
  | succ n ih =>
    intro x hx ho
    cases hs : stepF A B L x with
    | inl e =>
      by_cases he : e = -1
      · subst he
        rw [feed_stop hs]
        exact fun p hp => by cases hp
      · rw [feed_dead hs he]
        exact fun p hp => by cases hp
    | inr p =>
      obtain ⟨z, q⟩ := p
      have hl := step_lt hs
      obtain ⟨t1, t2⟩ := step_few ho hs
      have i1 := ih z (by omega) t2
      rw [feed_next hs]
      intro p hp
      rcases List.mem_append.1 hp with h | h
      · exact t1 p h
      · exact i1 p h
/-! ### Texts that are put, one behind the other -/
def rightL (A B : Nat) (l : List (List UInt8)) : Prop := l.length ≤ A ∧ ∀ a ∈ l, a.length ≤ B
/-- All are right: each one is fed back; else there is a fault, and no more requests than texts. -/
theorem puts_feed (ls : List (List (List UInt8))) (hz : ∀ l ∈ ls, l.length ≤ 4611686018427387904 ∧ ∀ a ∈ l, a.length ≤ 4611686018427387904) :
    ((∃ e, (feedF A B L (Inp.none (ls.flatMap putF))).1 = .inl e ∧ (e = 6 ∨ e = 7)) ∨
      ((feedF A B L (Inp.none (ls.flatMap putF))).1 = .inr (Inp.none []) ∧ told (feedF A B L (Inp.none (ls.flatMap putF))).2 + 4 * (ls.filter (·.isEmpty)).length = (ls.flatMap putF).length)) ∧
    (feedF A B L (Inp.none (ls.flatMap putF))).2.length ≤ ls.length := by
  induction ls with
  | nil =>
    have e0 : feedF A B L (Inp.none []) = (.inr (Inp.none []), []) := feed_stop rfl
    rw [List.flatMap_nil, e0]
    exact ⟨Or.inr ⟨rfl, rfl⟩, Nat.le_refl _⟩
  | cons l ls ih =>
    obtain ⟨hl, ha⟩ := hz l (by simp)
    obtain ⟨i1, i2⟩ := ih (fun x hx => hz x (by simp [hx]))
    rw [List.flatMap_cons]
    by_cases h0 : l = []
    · subst h0
      rw [put_none]
      have e4 : (putF []).length = 4 := by decide +kernel
      refine ⟨?_, by simp; omega⟩
      rcases i1 with h | ⟨h1, h2⟩
      · exact Or.inl h
      · refine Or.inr ⟨h1, ?_⟩
        rw [List.length_append, e4, ← h2]
        simp
        omega
    · by_cases hb : A < l.length ∨ ∃ a ∈ l, B < a.length
      · rcases put_bad (A := A) (B := B) (L := L) l (ls.flatMap putF) hl ha hb with h | h
        · rw [h]; exact ⟨Or.inl ⟨7, rfl, Or.inr rfl⟩, by simp⟩
        · rw [h]; exact ⟨Or.inl ⟨6, rfl, Or.inl rfl⟩, by simp⟩
      · have hA : l.length ≤ A := Nat.le_of_not_lt fun h => hb (Or.inl h)
        have hB : ∀ a ∈ l, a.length ≤ B ∧ a.length ≤ 4611686018427387904 := fun a h => ⟨Nat.le_of_not_lt fun h2 => hb (Or.inr ⟨a, h, h2⟩), ha a h⟩
        rw [put_ok l _ h0 hA hl hB]
        refine ⟨?_, by simp; omega⟩
        rcases i1 with h | ⟨h1, h2⟩
        · exact Or.inl h
        · refine Or.inr ⟨h1, ?_⟩
          have hne : l.isEmpty = false := by cases l with
            | nil => exact absurd rfl h0
            | cons a l => rfl
          rw [List.length_append, ← h2]
          simp [told, hne]
          omega
end
end Go.Proofs.YtjidopgohdlfdaaGreatDoor.Pq
