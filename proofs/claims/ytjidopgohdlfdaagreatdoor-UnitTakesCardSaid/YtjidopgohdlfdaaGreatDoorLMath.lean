/-
  Plain mathematics of a line's arguments, no program in it: what a line is split into ('go', byte by byte, with what it stands within), the argument with which a text begins ('argF'), what arguments are joined to ('joinF'); what is joined is split, blanks more turn nothing. No condition.
-/
import Derived.Lib.Strings
namespace Go.Proofs.YtjidopgohdlfdaaGreatDoor.Ln

def gapC (c : UInt8) : Bool := c == 32 || c == 9
def quoteC (c : UInt8) : Bool := c == 34 || c == 39
/-- A hex digit's number; 16: it is none. -/
def hexd (c : UInt8) : Nat := if 48 ≤ c.toNat ∧ c.toNat ≤ 57 then c.toNat - 48 else if 97 ≤ c.toNat ∧ c.toNat ≤ 102 then c.toNat - 87 else if 65 ≤ c.toNat ∧ c.toNat ≤ 70 then c.toNat - 55 else 16
/-- What a byte behind a turn's first one is. -/
def turned (c : UInt8) : UInt8 := if c = 110 then 10 else if c = 114 then 13 else if c = 116 then 9 else if c = 98 then 8 else if c = 97 then 7 else c
def hex2 (l : List UInt8) : Option UInt8 := match l with
  | a :: b :: _ => if hexd a < 16 ∧ hexd b < 16 then some (UInt8.ofNat (16 * hexd a + hexd b)) else none
  | _ => none
/-- The turn between '"' that goes on with a byte and a text. -/
def turnF (d : UInt8) (t : List UInt8) : UInt8 × Nat := if d = 120 then (match hex2 t with
    | some b => (b, 4)
    | none => (120, 2)) else (turned d, 2)
/-- The byte that stands first between quotes of a kind, and how many bytes it takes to say so. -/
def meantF (q c : UInt8) (t : List UInt8) : UInt8 × Nat := match t with
  | [] => (c, 1)
  | d :: t => if c ≠ 92 then (c, 1) else if q = 34 then turnF d t else if d = q then (q, 2) else (c, 1)
/-- What is between quotes, and how many bytes it takes, with what closes them; so many bytes are gone past first. -/
def uq (q : UInt8) : Nat → List UInt8 → Option (List UInt8 × Nat)
  | _, [] => none
  | k + 1, _ :: t => (uq q k t).map fun r => (r.1, r.2 + 1)
  | 0, c :: t => if c = q then some ([], 1) else (uq q ((meantF q c t).2 - 1) t).map fun r => ((meantF q c t).1 :: r.1, r.2 + 1)
/-- Arguments so far, the quotes' kind (0 outside), whether an argument began, whether quotes closed just now, the argument so far, so many bytes to be gone past, what is to come. -/
def go : List (List UInt8) → UInt8 → Bool → Bool → List UInt8 → Nat → List UInt8 → Option (List (List UInt8))
  | out, q, op, _, now, _, [] => if q = 0 then some (if op then out ++ [now] else out) else none
  | out, q, op, cl, now, k + 1, _ :: t => go out q op cl now k t
  | out, q, op, cl, now, 0, c :: t =>
    if cl = true ∧ gapC c = false then none
    else if q = 0 then
      if gapC c then go (if op then out ++ [now] else out) 0 false false [] 0 t
      else if quoteC c then go out c true false now 0 t
      else go out 0 true false (now ++ [c]) 0 t
    else if c = q then go out 0 op true now 0 t
    else go out q op false (now ++ [(meantF q c t).1]) ((meantF q c t).2 - 1) t
/-- A line's arguments. -/
def spl (s : List UInt8) : Option (List (List UInt8)) := go [] 0 false false [] 0 s

theorem quote_not_blank {c : UInt8} (h : quoteC c = true) : gapC c = false := by
  unfold quoteC at h; simp only [Bool.or_eq_true, beq_iff_eq] at h
  rcases h with rfl | rfl <;> decide
theorem quote_ne_zero {c : UInt8} (h : quoteC c = true) : c ≠ 0 := by
  unfold quoteC at h; simp only [Bool.or_eq_true, beq_iff_eq] at h
  rcases h with rfl | rfl <;> decide
theorem blank_cases {c : UInt8} (h : gapC c = true) : c = 32 ∨ c = 9 := by
  unfold gapC at h; simpa using h

/-! ### Sizes of what is meant -/
theorem turnF_two (d : UInt8) (t : List UInt8) : 2 ≤ (turnF d t).2 ∧ (turnF d t).2 ≤ 2 + t.length := by
  unfold turnF
  split
  · cases h : hex2 t with
    | none => exact ⟨by simp, by simp⟩
    | some b =>
      match t, h with
      | a :: b :: t, _ => exact ⟨by simp, by simp; omega⟩
      | [a], h => simp [hex2] at h
      | [], h => simp [hex2] at h
  · exact ⟨by simp, by simp⟩
theorem meantF_pos (q c : UInt8) (t : List UInt8) : 1 ≤ (meantF q c t).2 ∧ (meantF q c t).2 ≤ t.length + 1 := by
  unfold meantF
  cases t with
  | nil => exact ⟨by simp, by simp⟩
  | cons d t =>
    have := turnF_two d t
    simp only
    split
    · exact ⟨by simp, by simp⟩
    · split
      · exact ⟨by omega, by simp; omega⟩
      · split
        · exact ⟨by simp, by simp⟩
        · exact ⟨by simp, by simp⟩

/-! ### The machine and the argument -/
theorem uq_skip (q : UInt8) (t : List UInt8) : ∀ k, k ≤ t.length → uq q k t = (uq q 0 (t.drop k)).map fun r => (r.1, r.2 + k) := by
  induction t with
  | nil => intro k hk; simp at hk; subst hk; simp [uq]
  | cons c t ih =>
    intro k hk
    cases k with
    | zero => simp
    | succ k =>
      rw [uq, ih k (by simpa using hk)]
      simp only [List.drop_succ_cons, Option.map_map]
      congr 1
theorem go_skip (out : List (List UInt8)) (q : UInt8) (op cl : Bool) (now t : List UInt8) : ∀ k, k ≤ t.length → go out q op cl now k t = go out q op cl now 0 (t.drop k) := by
  induction t with
  | nil => intro k hk; simp at hk; subst hk; rfl
  | cons c t ih =>
    intro k hk
    cases k with
    | zero => rfl
    | succ k => rw [go, ih k (by simpa using hk)]; rfl
/-- Bytes that are neither blanks nor quotes. -/
theorem go_plain (out : List (List UInt8)) (p : List UInt8) : ∀ (op cl : Bool) (now t : List UInt8), cl = false → (∀ c ∈ p, gapC c = false ∧ quoteC c = false) → go out 0 op cl now 0 (p ++ t) = go out 0 (op || !p.isEmpty) false (now ++ p) 0 t := by
  induction p with
  | nil => intro op cl now t h _; subst h; simp
  | cons c p ih =>
    intro op cl now t h hp
    subst h
    have hc := hp c (by simp)
    rw [List.cons_append, go, if_neg (by simp), if_pos rfl, if_neg (by simp [hc.1]), if_neg (by simp [hc.2]), ih _ _ _ _ rfl (fun d hd => hp d (by simp [hd]))]
    simp
/-- Within quotes. -/
theorem go_quoted (out : List (List UInt8)) (q : UInt8) (hq : q ≠ 0) (op : Bool) (t : List UInt8) : ∀ (now : List UInt8) (k : Nat), go out q op false now k t = match uq q k t with
    | none => none
    | some r => go out 0 op true (now ++ r.1) 0 (t.drop r.2) := by
  induction t with
  | nil => intro now k; cases k <;> simp [go, uq, hq]
  | cons c t ih =>
    intro now k
    cases k with
    | succ k =>
      rw [go, uq, ih]
      cases uq q k t with
      | none => rfl
      | some r => rfl
    | zero =>
      rw [go, uq, if_neg (by simp), if_neg hq]
      by_cases hc : c = q
      · rw [if_pos hc, if_pos hc]; simp
      · rw [if_neg hc, if_neg hc, ih]
        cases uq q ((meantF q c t).2 - 1) t with
        | none => rfl
        | some r => simp
/-- Does a gapC stand here, or nothing? -/
def ends (l : List UInt8) : Bool := match l with
  | [] => true
  | c :: _ => gapC c
theorem go_end (out : List (List UInt8)) (cl : Bool) (now t : List UInt8) (h : ends t = true) : go out 0 true cl now 0 t = go (out ++ [now]) 0 false false [] 0 t := by
  cases t with
  | nil => simp [go]
  | cons c t =>
    have hc : gapC c = true := h
    simp [go, hc]
theorem go_behind (out : List (List UInt8)) (op : Bool) (now t : List UInt8) (h : ends t = false) : go out 0 op true now 0 t = none := by
  cases t with
  | nil => simp [ends] at h
  | cons c t =>
    have hc : gapC c = false := h
    rw [go, if_pos ⟨rfl, hc⟩]
theorem go_blanks (out : List (List UInt8)) (b : List UInt8) : ∀ t, (∀ c ∈ b, gapC c = true) → go out 0 false false [] 0 (b ++ t) = go out 0 false false [] 0 t := by
  induction b with
  | nil => intro t _; rfl
  | cons c b ih =>
    intro t h
    rw [List.cons_append, go, if_neg (by simp), if_pos rfl, if_pos (h c (by simp))]
    exact ih _ (fun d hd => h d (by simp [hd]))
/-- What has come is told first. -/
theorem go_out (t : List UInt8) : ∀ (out : List (List UInt8)) (q : UInt8) (op cl : Bool) (now : List UInt8) (k : Nat), go out q op cl now k t = (go [] q op cl now k t).map (out ++ ·) := by
  induction t with
  | nil =>
    intro out q op cl now k
    rw [go, go]
    by_cases h : q = 0
    · rw [if_pos h, if_pos h]; cases op <;> simp
    · rw [if_neg h, if_neg h]; rfl
  | cons c t ih =>
    intro out q op cl now k
    cases k with
    | succ k => rw [go, go]; exact ih ..
    | zero =>
      rw [go, go]
      split
      · rfl
      · split
        · split
          · cases op
            · exact ih ..
            · simp only [if_true]
              rw [ih (out ++ [now]), ih ([] ++ [now]), Option.map_map]
              congr 1
              funext x
              simp
          · split
            · exact ih ..
            · exact ih ..
        · split
          · exact ih ..
          · exact ih ..

/-! ### Blanks more -/
theorem hexd_blank {c : UInt8} (h : gapC c = true) : hexd c = 16 := by
  rcases blank_cases h with rfl | rfl <;> decide
theorem hex2_more (t g : List UInt8) (c : UInt8) (h : gapC c = true) : hex2 (t ++ c :: g) = hex2 t := by
  match t with
  | [] =>
    cases g with
    | nil => rfl
    | cons d g => simp [hex2, hexd_blank h]
  | [a] => simp [hex2, hexd_blank h]
  | a :: b :: t => rfl
theorem meantF_more (q c d : UInt8) (t g : List UInt8) (x : UInt8) (h : gapC x = true) : meantF q c (d :: t ++ x :: g) = meantF q c (d :: t) := by
  simp only [List.cons_append, meantF, turnF, hex2_more _ _ _ h]
/-- Within quotes that nothing closes. -/
theorem go_never (g : List UInt8) : ∀ (out : List (List UInt8)) (q : UInt8) (op : Bool) (now : List UInt8) (k : Nat), q ≠ 0 → quoteC q = true → (∀ c ∈ g, gapC c = true) → go out q op false now k g = none := by
  induction g with
  | nil => intro out q op now k h _ _; rw [go, if_neg h]
  | cons c g ih =>
    intro out q op now k h hq hg
    have hc := hg c (by simp)
    cases k with
    | succ k => rw [go]; exact ih _ _ _ _ _ h hq fun d hd => hg d (by simp [hd])
    | zero =>
      rw [go, if_neg (by simp), if_neg h, if_neg, ih _ _ _ _ _ h hq fun d hd => hg d (by simp [hd])]
      rintro rfl
      rw [quote_not_blank hq] at hc
      cases hc
/-- A state in which a line may stand. -/
def St (q : UInt8) (cl : Bool) (k : Nat) : Prop := (q = 0 ∧ k = 0) ∨ (quoteC q = true ∧ cl = false)
theorem go_yes (x : UInt8) (g : List UInt8) (hx : gapC x = true) (s : List UInt8) : ∀ (out a : List (List UInt8)) (q : UInt8) (op cl : Bool) (now : List UInt8) (k : Nat), St q cl k → go out q op cl now k s = some a → k ≤ s.length → go out q op cl now k (s ++ x :: g) = go a 0 false false [] 0 g := by
  induction s with
  | nil =>
    intro out a q op cl now k hS h hk
    rw [go] at h
    by_cases hq : q = 0
    · subst hq
      have hk0 : k = 0 := by simpa using hk
      subst hk0
      rw [if_pos rfl] at h
      rw [List.nil_append, go, if_neg (by simp [hx]), if_pos rfl, if_pos hx]
      cases h
      rfl
    · rw [if_neg hq] at h; cases h
  | cons c s ih =>
    intro out a q op cl now k hS h hk
    cases k with
    | succ k =>
      rw [go] at h
      rw [List.cons_append, go]
      refine ih _ _ _ _ _ _ _ ?_ h (by simpa using hk)
      rcases hS with ⟨_, h0⟩ | h1
      · cases h0
      · exact Or.inr h1
    | zero =>
      rw [go] at h
      rw [List.cons_append, go]
      by_cases h1 : cl = true ∧ gapC c = false
      · rw [if_pos h1] at h; cases h
      · rw [if_neg h1] at h ⊢
        by_cases hq : q = 0
        · rw [if_pos hq] at h ⊢
          by_cases hb : gapC c = true
          · rw [if_pos hb] at h ⊢; exact ih _ _ _ _ _ _ _ (Or.inl ⟨rfl, rfl⟩) h (Nat.zero_le _)
          · rw [if_neg hb] at h ⊢
            by_cases hc : quoteC c = true
            · rw [if_pos hc] at h ⊢; exact ih _ _ _ _ _ _ _ (Or.inr ⟨hc, rfl⟩) h (Nat.zero_le _)
            · rw [if_neg hc] at h ⊢; exact ih _ _ _ _ _ _ _ (Or.inl ⟨rfl, rfl⟩) h (Nat.zero_le _)
        · rw [if_neg hq] at h ⊢
          by_cases hc : c = q
          · rw [if_pos hc] at h ⊢; exact ih _ _ _ _ _ _ _ (Or.inl ⟨rfl, rfl⟩) h (Nat.zero_le _)
          · rw [if_neg hc] at h ⊢
            have hqc : quoteC q = true := by
              rcases hS with ⟨h0, _⟩ | h1
              · exact absurd h0 hq
              · exact h1.1
            have hp := meantF_pos q c s
            cases s with
            | nil =>
              have : (meantF q c []).2 - 1 = 0 := rfl
              rw [this, go, if_neg hq] at h; cases h
            | cons d s =>
              rw [meantF_more _ _ _ _ _ _ hx]
              exact ih _ _ _ _ _ _ _ (Or.inr ⟨hqc, rfl⟩) h (by omega)
theorem go_no (x : UInt8) (g : List UInt8) (hx : gapC x = true) (hg : ∀ c ∈ g, gapC c = true) (s : List UInt8) : ∀ (out : List (List UInt8)) (q : UInt8) (op cl : Bool) (now : List UInt8) (k : Nat), St q cl k → go out q op cl now k s = none → k ≤ s.length → go out q op cl now k (s ++ x :: g) = none := by
  induction s with
  | nil =>
    intro out q op cl now k hS h hk
    rw [go] at h
    by_cases hq : q = 0
    · rw [if_pos hq] at h; cases h
    · rcases hS with ⟨h0, _⟩ | ⟨h1, rfl⟩
      · exact absurd h0 hq
      · rw [List.nil_append]; exact go_never _ _ _ _ _ _ hq h1 (by intro c hc; rcases List.mem_cons.1 hc with rfl | hc; exact hx; exact hg c hc)
  | cons c s ih =>
    intro out q op cl now k hS h hk
    cases k with
    | succ k =>
      rw [go] at h
      rw [List.cons_append, go]
      refine ih _ _ _ _ _ _ ?_ h (by simpa using hk)
      rcases hS with ⟨_, h0⟩ | h1
      · cases h0
      · exact Or.inr h1
    | zero =>
      rw [go] at h
      rw [List.cons_append, go]
      by_cases h1 : cl = true ∧ gapC c = false
      · rw [if_pos h1]
      · rw [if_neg h1] at h ⊢
        by_cases hq : q = 0
        · rw [if_pos hq] at h ⊢
          by_cases hb : gapC c = true
          · rw [if_pos hb] at h ⊢; exact ih _ _ _ _ _ _ (Or.inl ⟨rfl, rfl⟩) h (Nat.zero_le _)
          · rw [if_neg hb] at h ⊢
            by_cases hc : quoteC c = true
            · rw [if_pos hc] at h ⊢; exact ih _ _ _ _ _ _ (Or.inr ⟨hc, rfl⟩) h (Nat.zero_le _)
            · rw [if_neg hc] at h ⊢; exact ih _ _ _ _ _ _ (Or.inl ⟨rfl, rfl⟩) h (Nat.zero_le _)
        · rw [if_neg hq] at h ⊢
          by_cases hc : c = q
          · rw [if_pos hc] at h ⊢; exact ih _ _ _ _ _ _ (Or.inl ⟨rfl, rfl⟩) h (Nat.zero_le _)
          · rw [if_neg hc] at h ⊢
            have hqc : quoteC q = true := by
              rcases hS with ⟨h0, _⟩ | h1
              · exact absurd h0 hq
              · exact h1.1
            have hp := meantF_pos q c s
            cases s with
            | nil =>
              rw [List.nil_append]
              exact go_never _ _ _ _ _ _ hq hqc (by intro c hc; rcases List.mem_cons.1 hc with rfl | hc; exact hx; exact hg c hc)
            | cons d s =>
              rw [meantF_more _ _ _ _ _ _ hx]
              exact ih _ _ _ _ _ _ (Or.inr ⟨hqc, rfl⟩) h (by omega)
/-- Blanks more, ahead and behind, turn nothing. -/
theorem spl_blanks (b g s : List UInt8) (hb : ∀ c ∈ b, gapC c = true) (hg : ∀ c ∈ g, gapC c = true) : spl (b ++ s ++ g) = spl s := by
  have e : b ++ s ++ g = b ++ (s ++ g) := by simp
  unfold spl
  rw [e, go_blanks _ _ _ hb]
  cases g with
  | nil => simp
  | cons x g =>
    have hx := hg x (by simp)
    cases h : go [] 0 false false [] 0 s with
    | none => exact go_no x g hx (fun c hc => hg c (by simp [hc])) s _ _ _ _ _ _ (Or.inl ⟨rfl, rfl⟩) h (Nat.zero_le _)
    | some a =>
      rw [go_yes x g hx s _ _ _ _ _ _ _ (Or.inl ⟨rfl, rfl⟩) h (Nat.zero_le _)]
      have := go_blanks a g [] (fun c hc => hg c (by simp [hc]))
      rw [List.append_nil] at this
      rw [this, go]; simp
/-- Of two lines that are right the arguments go on. -/
theorem spl_two (g s t : List UInt8) (hne : g ≠ []) (hg : ∀ c ∈ g, gapC c = true) {a c : List (List UInt8)} (hs : spl s = some a) (ht : spl t = some c) : spl (s ++ g ++ t) = some (a ++ c) := by
  cases g with
  | nil => exact absurd rfl hne
  | cons x g =>
    have e : s ++ x :: g ++ t = s ++ x :: (g ++ t) := by simp
    unfold spl at hs ht ⊢
    rw [e, go_yes x (g ++ t) (hg x (by simp)) s _ _ _ _ _ _ _ (Or.inl ⟨rfl, rfl⟩) hs (Nat.zero_le _), go_blanks _ _ _ (fun d hd => hg d (by simp [hd])), go_out, ht]
    rfl

/-! ### Joining -/
def shown (c : UInt8) : Bool := decide (32 ≤ c.toNat ∧ c.toNat ≤ 126)
def bare (c : UInt8) : Bool := !(c == 32) && shown c && !(c == 34 || c == 39 || c == 92)
def plainA (l : List UInt8) : Bool := !l.isEmpty && l.all bare
/-- A small hex digit. -/
def hexc (n : Nat) : UInt8 := if n < 10 then UInt8.ofNat (48 + n) else UInt8.ofNat (87 + n)
def enc (c : UInt8) : List UInt8 := if c = 34 ∨ c = 92 then [92, c] else if shown c then [c] else [92, 120, hexc (c.toNat / 16), hexc (c.toNat % 16)]
def encs (l : List UInt8) : List UInt8 := l.flatMap enc
def tok (l : List UInt8) : List UInt8 := if plainA l then l else 34 :: encs l ++ [34]
def joinF : List (List UInt8) → List UInt8
  | [] => []
  | [a] => tok a
  | a :: b :: l => tok a ++ 32 :: joinF (b :: l)
theorem hexc_lt {n : Nat} (h : n < 16) : hexd (hexc n) = n := by
  have : ∀ n : Fin 16, hexd (hexc n.1) = n.1 := by decide
  exact this ⟨n, h⟩
theorem uq_encs (l t : List UInt8) : uq 34 0 (encs l ++ 34 :: t) = some (l, (encs l).length + 1) := by
  induction l with
  | nil => simp [encs, uq]
  | cons c l ih =>
    have e : encs (c :: l) = enc c ++ encs l := by simp [encs]
    obtain ⟨x, u, hx, hne, hm⟩ : ∃ x u, enc c = x :: u ∧ x ≠ 34 ∧ meantF 34 x (u ++ (encs l ++ 34 :: t)) = (c, u.length + 1) := by
      unfold enc
      by_cases h : c = 34 ∨ c = 92
      · rw [if_pos h]
        refine ⟨92, [c], rfl, by decide, ?_⟩
        rcases h with rfl | rfl <;> rfl
      · rw [if_neg h]
        by_cases h2 : shown c = true
        · rw [if_pos h2]
          refine ⟨c, [], rfl, fun e => h (Or.inl e), ?_⟩
          rw [List.nil_append]
          cases encs l ++ 34 :: t with
          | nil => rfl
          | cons d m => simp only [meantF, List.length_nil]; rw [if_pos (fun e => h (Or.inr e))]
        · rw [if_neg h2]
          have hl := c.toNat_lt
          have h1 := hexc_lt (n := c.toNat / 16) (by omega)
          have h2 := hexc_lt (n := c.toNat % 16) (by omega)
          refine ⟨92, [120, hexc (c.toNat / 16), hexc (c.toNat % 16)], rfl, by decide, ?_⟩
          simp only [List.cons_append, List.nil_append, meantF, turnF, hex2, h1, h2]
          rw [if_neg (by decide), if_pos trivial, if_pos trivial, if_pos ⟨by omega, by omega⟩]
          have : 16 * (c.toNat / 16) + c.toNat % 16 = c.toNat := by omega
          simp [this]
    rw [e, hx]
    rw [show (x :: u ++ encs l) ++ 34 :: t = x :: (u ++ (encs l ++ 34 :: t)) by simp, uq, if_neg hne, hm]
    simp only [Nat.add_sub_cancel]
    rw [uq_skip _ _ _ (by simp), List.drop_left, ih]
    simp
    omega
theorem bare_not {c : UInt8} (h : bare c = true) : gapC c = false ∧ quoteC c = false := by
  unfold bare shown at h
  simp only [Bool.and_eq_true, Bool.not_eq_true', Bool.or_eq_false_iff, beq_eq_false_iff_ne, decide_eq_true_eq] at h
  obtain ⟨⟨h1, h2⟩, ⟨h3, h4⟩, h5⟩ := h
  refine ⟨?_, ?_⟩
  · unfold gapC
    simp only [Bool.or_eq_false_iff, beq_eq_false_iff_ne]
    refine ⟨h1, ?_⟩
    rintro rfl
    exact absurd h2.1 (by decide)
  · unfold quoteC
    simp [h3, h4]
theorem go_tok (out : List (List UInt8)) (l t : List UInt8) (ht : ends t = true) : go out 0 false false [] 0 (tok l ++ t) = go (out ++ [l]) 0 false false [] 0 t := by
  unfold tok
  by_cases h : plainA l = true
  · rw [if_pos h]
    unfold plainA at h
    simp only [Bool.and_eq_true, Bool.not_eq_true', List.all_eq_true] at h
    rw [go_plain out l _ _ _ _ rfl (fun c hc => bare_not (h.2 c hc)), h.1]
    exact go_end out _ _ _ ht
  · rw [if_neg h]
    rw [show (34 :: encs l ++ [34]) ++ t = 34 :: (encs l ++ 34 :: t) by simp, go, if_neg (by simp), if_pos rfl, if_neg (by decide), if_pos (by decide), go_quoted _ _ (by decide), uq_encs]
    simp only [List.nil_append]
    rw [show (encs l ++ 34 :: t).drop ((encs l).length + 1) = t by
      rw [← List.drop_drop, List.drop_left]; rfl]
    exact go_end out _ _ _ ht
/-- What is joined is split. -/
theorem go_join (l : List (List UInt8)) : ∀ out, go out 0 false false [] 0 (joinF l) = some (out ++ l) := by
  induction l with
  | nil => intro out; simp [joinF, go]
  | cons a l ih =>
    intro out
    cases l with
    | nil =>
      have := go_tok out a [] rfl
      rw [List.append_nil] at this
      rw [joinF, this, go]
      simp
    | cons b l =>
      rw [joinF, go_tok _ _ _ (show ends (32 :: joinF (b :: l)) = true from rfl)]
      have := go_blanks (out ++ [a]) [32] (joinF (b :: l)) (by decide)
      rw [List.singleton_append] at this
      rw [this, ih]
      simp
theorem spl_join (l : List (List UInt8)) : spl (joinF l) = some l := go_join l []
/-- What is joined has no line's end. -/
def calm (c : UInt8) : Prop := c ≠ 10 ∧ c ≠ 13
theorem shown_calm {c : UInt8} (h : shown c = true) : calm c := by
  unfold shown at h
  have := of_decide_eq_true h
  exact ⟨fun e => by subst e; exact absurd this.1 (by decide), fun e => by subst e; exact absurd this.1 (by decide)⟩
theorem hexc_calm {n : Nat} (h : n < 16) : calm (hexc n) := by
  have : ∀ n : Fin 16, hexc n.1 ≠ 10 ∧ hexc n.1 ≠ 13 := by decide
  exact this ⟨n, h⟩
theorem enc_calm (c : UInt8) : ∀ x ∈ enc c, calm x := by
  unfold enc
  intro x hx
  have hl := c.toNat_lt
  by_cases h : c = 34 ∨ c = 92
  · rw [if_pos h] at hx
    simp at hx
    rcases hx with rfl | rfl
    · exact ⟨by decide, by decide⟩
    · rcases h with rfl | rfl <;> exact ⟨by decide, by decide⟩
  · rw [if_neg h] at hx
    by_cases h2 : shown c = true
    · rw [if_pos h2] at hx; simp at hx; subst hx; exact shown_calm h2
    · rw [if_neg h2] at hx
      simp at hx
      rcases hx with rfl | rfl | rfl | rfl
      · exact ⟨by decide, by decide⟩
      · exact ⟨by decide, by decide⟩
      · exact hexc_calm (by omega)
      · exact hexc_calm (by omega)
theorem tok_calm (l : List UInt8) : ∀ x ∈ tok l, calm x := by
  unfold tok
  intro x hx
  by_cases h : plainA l = true
  · rw [if_pos h] at hx
    unfold plainA at h
    simp only [Bool.and_eq_true, List.all_eq_true] at h
    have := h.2 x hx
    unfold bare at this
    simp only [Bool.and_eq_true] at this
    exact shown_calm this.1.2
  · rw [if_neg h] at hx
    simp [encs] at hx
    rcases hx with rfl | ⟨c, _, hc⟩ | rfl
    · exact ⟨by decide, by decide⟩
    · exact enc_calm c x hc
    · exact ⟨by decide, by decide⟩
theorem join_calm (l : List (List UInt8)) : ∀ x ∈ joinF l, calm x := by
  induction l with
  | nil => intro x hx; cases hx
  | cons a l ih =>
    cases l with
    | nil => exact tok_calm a
    | cons b l =>
      intro x hx
      rw [joinF] at hx
      rcases List.mem_append.1 hx with h | h
      · exact tok_calm a x h
      · rcases List.mem_cons.1 h with rfl | h
        · exact ⟨by decide, by decide⟩
        · exact ih x h
/-! ### Sizes -/
theorem enc_len (c : UInt8) : (enc c).length ≤ 4 := by unfold enc; split <;> (try split) <;> simp
theorem encs_len (l : List UInt8) : (encs l).length ≤ 4 * l.length := by
  induction l with
  | nil => simp [encs]
  | cons c l ih =>
    have e : encs (c :: l) = enc c ++ encs l := by simp [encs]
    have := enc_len c
    rw [e, List.length_append, List.length_cons]; omega
theorem tok_len (l : List UInt8) : (tok l).length ≤ 4 * l.length + 2 := by
  have := encs_len l
  unfold tok; split <;> simp <;> omega
end Go.Proofs.YtjidopgohdlfdaaGreatDoor.Ln
