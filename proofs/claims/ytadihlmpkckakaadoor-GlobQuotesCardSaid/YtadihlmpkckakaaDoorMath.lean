/-
  Plain mathematics of patterns, no program in it: the parts of a pattern, which texts they match, quoted texts. No condition.
-/
namespace Go.Proofs.YtadihlmpkckakaaDoor.Gl

/-- A class's item: from which byte to which one, and how many bytes it takes. -/
def item : List UInt8 → UInt8 × UInt8 × Nat
  | [] => (0, 0, 1)
  | [a] => (a, a, 1)
  | [a, b] => if a = 92 then (b, b, 2) else (a, a, 1)
  | a :: b :: c :: _ => if a = 92 then (b, b, 2) else if b = 45 ∧ c ≠ 93 then (if a < c then (a, c, 3) else (c, a, 3)) else (a, a, 1)
theorem item_pos (l : List UInt8) : 1 ≤ (item l).2.2 := by
  unfold item
  split <;> (repeat' split) <;> simp
theorem item_le (l : List UInt8) (h : l ≠ []) : (item l).2.2 ≤ l.length := by
  unfold item
  split
  · exact absurd rfl h
  · simp
  · split <;> simp
  · repeat' split
    all_goals simp
def within (r : UInt8 × UInt8 × Nat) (c : UInt8) : Bool := decide (r.1 ≤ c) && decide (c ≤ r.2.1)
/-- Whether a byte is one that a class's items have; how many bytes these are. The number ahead of the list bounds the steps. -/
def itemsHasF (c : UInt8) : Nat → List UInt8 → Bool
  | 0, _ => false
  | n + 1, l => if l = [] ∨ l.head? = some 93 then false else within (item l) c || itemsHasF c n (l.drop (item l).2.2)
def itemsHas (l : List UInt8) (c : UInt8) : Bool := itemsHasF c l.length l
def itemsLenF : Nat → List UInt8 → Nat
  | 0, _ => 0
  | n + 1, l => if l = [] ∨ l.head? = some 93 then 0 else (item l).2.2 + itemsLenF n (l.drop (item l).2.2)
def itemsLen (l : List UInt8) : Nat := itemsLenF l.length l
theorem drop_less (l : List UInt8) (h : ¬ (l = [] ∨ l.head? = some 93)) : (l.drop (item l).2.2).length < l.length := by
  have h1 := item_pos l
  have h2 := item_le l (fun e => h (Or.inl e))
  rw [List.length_drop]
  omega
theorem itemsHasF_enough (c : UInt8) : ∀ (n m : Nat) (l : List UInt8), l.length ≤ n → l.length ≤ m → itemsHasF c n l = itemsHasF c m l := by
  intro n
  induction n with
  | zero =>
    intro m l h1 _
    have e : l = [] := List.eq_nil_of_length_eq_zero (by omega)
    subst e
    cases m with
    | zero => rfl
    | succ m => rw [itemsHasF, itemsHasF, if_pos (Or.inl rfl)]
  | succ n ih =>
    intro m l h1 h2
    cases m with
    | zero =>
      have e : l = [] := List.eq_nil_of_length_eq_zero (by omega)
      subst e
      rw [itemsHasF, itemsHasF, if_pos (Or.inl rfl)]
    | succ m =>
      rw [itemsHasF, itemsHasF]
      by_cases h : l = [] ∨ l.head? = some 93
      · rw [if_pos h, if_pos h]
      · have := drop_less l h
        rw [if_neg h, if_neg h, ih m _ (by omega) (by omega)]
theorem itemsLenF_enough : ∀ (n m : Nat) (l : List UInt8), l.length ≤ n → l.length ≤ m → itemsLenF n l = itemsLenF m l := by
  intro n
  induction n with
  | zero =>
    intro m l h1 _
    have e : l = [] := List.eq_nil_of_length_eq_zero (by omega)
    subst e
    cases m with
    | zero => rfl
    | succ m => rw [itemsLenF, itemsLenF, if_pos (Or.inl rfl)]
  | succ n ih =>
    intro m l h1 h2
    cases m with
    | zero =>
      have e : l = [] := List.eq_nil_of_length_eq_zero (by omega)
      subst e
      rw [itemsLenF, itemsLenF, if_pos (Or.inl rfl)]
    | succ m =>
      rw [itemsLenF, itemsLenF]
      by_cases h : l = [] ∨ l.head? = some 93
      · rw [if_pos h, if_pos h]
      · have := drop_less l h
        rw [if_neg h, if_neg h, ih m _ (by omega) (by omega)]
theorem has_end {l : List UInt8} (h : l = [] ∨ l.head? = some 93) (c : UInt8) : itemsHas l c = false := by
  unfold itemsHas
  cases l.length with
  | zero => rfl
  | succ n => rw [itemsHasF, if_pos h]
theorem len_end {l : List UInt8} (h : l = [] ∨ l.head? = some 93) : itemsLen l = 0 := by
  unfold itemsLen
  cases l.length with
  | zero => rfl
  | succ n => rw [itemsLenF, if_pos h]
theorem has_more {l : List UInt8} (h : l ≠ []) (h2 : l.head? ≠ some 93) (c : UInt8) : itemsHas l c = (within (item l) c || itemsHas (l.drop (item l).2.2) c) := by
  have hn : ¬ (l = [] ∨ l.head? = some 93) := fun e => e.elim h h2
  have hd := drop_less l hn
  obtain ⟨n, e⟩ : ∃ n, l.length = n + 1 := ⟨l.length - 1, by omega⟩
  unfold itemsHas
  rw [e, itemsHasF, if_neg hn, itemsHasF_enough c n _ (l.drop (item l).2.2) (by omega) (Nat.le_refl _)]
theorem len_more {l : List UInt8} (h : l ≠ []) (h2 : l.head? ≠ some 93) : itemsLen l = (item l).2.2 + itemsLen (l.drop (item l).2.2) := by
  have hn : ¬ (l = [] ∨ l.head? = some 93) := fun e => e.elim h h2
  have hd := drop_less l hn
  obtain ⟨n, e⟩ : ∃ n, l.length = n + 1 := ⟨l.length - 1, by omega⟩
  unfold itemsLen
  rw [e, itemsLenF, if_neg hn, itemsLenF_enough n _ (l.drop (item l).2.2) (by omega) (Nat.le_refl _)]
theorem len_le (l : List UInt8) : itemsLen l ≤ l.length := by
  induction hn : l.length using Nat.strongRecOn generalizing l with
  | _ n ih =>
    by_cases h : l = [] ∨ l.head? = some 93
    · rw [len_end h]; omega
    · have h1 : l ≠ [] := fun e => h (Or.inl e)
      have h2 : l.head? ≠ some 93 := fun e => h (Or.inr e)
      have hp := item_pos l
      have hl := item_le l h1
      have hd : (l.drop (item l).2.2).length = l.length - (item l).2.2 := List.length_drop
      have := ih _ (by omega) (l.drop (item l).2.2) rfl
      rw [len_more h1 h2]
      omega

/-- A class, from behind its first bracket on: whether it is turned, its items, its bytes, and how many bytes it takes. -/
def turned (l : List UInt8) : Bool := l.head? == some 94
def body (l : List UInt8) : List UInt8 := if turned l then l.tail else l
def clsHas (l : List UInt8) (c : UInt8) : Bool := itemsHas (body l) c != turned l
def clsLen (l : List UInt8) : Nat := (if turned l then 1 else 0) + itemsLen (body l) + 1

/-- A part: a run; any one byte; a class; a byte. -/
def Part : Type := Option (Option ((UInt8 → Bool) ⊕ UInt8))
def Part.run : Part := none
def Part.any : Part := some none
def Part.cls (f : UInt8 → Bool) : Part := some (some (Sum.inl f))
def Part.byte (b : UInt8) : Part := some (some (Sum.inr b))
theorem Part.each {C : Part → Prop} (h1 : C .run) (h2 : C .any) (h3 : ∀ f, C (.cls f)) (h4 : ∀ b, C (.byte b)) (p : Part) : C p := by
  rcases p with _ | _ | f | b
  · exact h1
  · exact h2
  · exact h3 f
  · exact h4 b
def Part.isRun (p : Part) : Bool := match p with
  | none => true
  | some _ => false
/-- Whether one byte is a part (which is no run). -/
def Part.ok (p : Part) (c : UInt8) : Bool := match p with
  | none => false
  | some none => true
  | some (some (Sum.inl f)) => f c
  | some (some (Sum.inr b)) => b == c
theorem run_of {p : Part} (h : p.isRun = true) : p = .run := by
  rcases p with _ | _ | f | b
  · rfl
  · cases h
  · cases h
  · cases h
/-- The first part of a pattern that has one, and how many bytes it takes. -/
def part1 : List UInt8 → Part
  | [] => .run
  | a :: t => if a = 42 then .run else if a = 63 then .any else if a = 91 then .cls (clsHas t) else match t with
    | [] => .byte a
    | b :: _ => if a = 92 then .byte b else .byte a
def partLen : List UInt8 → Nat
  | [] => 1
  | a :: t => if a = 42 then 1 else if a = 63 then 1 else if a = 91 then 1 + clsLen t else match t with
    | [] => 1
    | _ :: _ => if a = 92 then 2 else 1
theorem part_cons (a : UInt8) (t : List UInt8) : part1 (a :: t) = if a = 42 then .run else if a = 63 then .any else if a = 91 then .cls (clsHas t) else match t with
    | [] => .byte a
    | b :: _ => if a = 92 then .byte b else .byte a := rfl
theorem partLen_cons (a : UInt8) (t : List UInt8) : partLen (a :: t) = if a = 42 then 1 else if a = 63 then 1 else if a = 91 then 1 + clsLen t else match t with
    | [] => 1
    | _ :: _ => if a = 92 then 2 else 1 := rfl
theorem partLen_pos (l : List UInt8) : 1 ≤ partLen l := by
  unfold partLen
  split
  · omega
  · repeat' split
    all_goals omega
def partsF : Nat → List UInt8 → List Part
  | 0, _ => []
  | n + 1, l => if l = [] then [] else part1 l :: partsF n (l.drop (partLen l))
def parts (l : List UInt8) : List Part := partsF l.length l
theorem drop_part (l : List UInt8) (h : l ≠ []) : (l.drop (partLen l)).length < l.length := by
  have h1 := partLen_pos l
  have h2 : 1 ≤ l.length := by cases l with | nil => exact absurd rfl h | cons a t => simp
  rw [List.length_drop]
  omega
theorem partsF_enough : ∀ (n m : Nat) (l : List UInt8), l.length ≤ n → l.length ≤ m → partsF n l = partsF m l := by
  intro n
  induction n with
  | zero =>
    intro m l h1 _
    have e : l = [] := List.eq_nil_of_length_eq_zero (by omega)
    subst e
    cases m with
    | zero => rfl
    | succ m => rw [partsF, partsF, if_pos rfl]
  | succ n ih =>
    intro m l h1 h2
    cases m with
    | zero =>
      have e : l = [] := List.eq_nil_of_length_eq_zero (by omega)
      subst e
      rw [partsF, partsF, if_pos rfl]
    | succ m =>
      rw [partsF, partsF]
      by_cases h : l = []
      · rw [if_pos h, if_pos h]
      · have := drop_part l h
        rw [if_neg h, if_neg h, ih m _ (by omega) (by omega)]
theorem parts_nil : parts [] = [] := rfl
theorem parts_more {l : List UInt8} (h : l ≠ []) : parts l = part1 l :: parts (l.drop (partLen l)) := by
  have hd := drop_part l h
  obtain ⟨n, e⟩ : ∃ n, l.length = n + 1 := ⟨l.length - 1, by omega⟩
  unfold parts
  rw [e, partsF, if_neg h, partsF_enough n _ (l.drop (partLen l)) (by omega) (Nat.le_refl _)]
theorem parts_len (l : List UInt8) : (parts l).length ≤ l.length := by
  induction hn : l.length using Nat.strongRecOn generalizing l with
  | _ n ih =>
    by_cases h : l = []
    · subst h; rw [parts_nil]; simp
    · have hp := partLen_pos l
      have hl : 1 ≤ l.length := by cases l with | nil => exact absurd rfl h | cons a t => simp
      have hd : (l.drop (partLen l)).length = l.length - partLen l := List.length_drop
      have := ih _ (by omega) (l.drop (partLen l)) rfl
      rw [parts_more h]
      simp only [List.length_cons]
      omega

/-- Whether one of a text's ends, itself too, is as wanted. -/
def someEnd (f : List UInt8 → Bool) : List UInt8 → Bool
  | [] => f []
  | c :: s => f (c :: s) || someEnd f s
/-- WHETHER A TEXT IS MADE OF WHAT PARTS ARE, one behind the other. -/
def mt : List Part → List UInt8 → Bool
  | [], s => s.isEmpty
  | p :: ps, s => match p.isRun, s with
    | true, s => someEnd (mt ps) s
    | false, [] => false
    | false, c :: s => p.ok c && mt ps s
theorem mt_nil (s : List UInt8) : mt [] s = s.isEmpty := rfl
theorem mt_run (ps : List Part) (s : List UInt8) : mt (.run :: ps) s = someEnd (mt ps) s := rfl
theorem mt_one_nil {p : Part} (h : p.isRun = false) (ps : List Part) : mt (p :: ps) [] = false := by
  unfold mt; rw [h]
theorem mt_one {p : Part} (h : p.isRun = false) (ps : List Part) (c : UInt8) (s : List UInt8) : mt (p :: ps) (c :: s) = (p.ok c && mt ps s) := by
  show (match p.isRun, c :: s with
    | true, s => someEnd (mt ps) s
    | false, [] => false
    | false, c :: s => p.ok c && mt ps s) = _
  rw [h]
theorem someEnd_iff (f : List UInt8 → Bool) (s : List UInt8) : someEnd f s = true ↔ ∃ u t, s = u ++ t ∧ f t = true := by
  induction s with
  | nil =>
    constructor
    · intro h; exact ⟨[], [], rfl, h⟩
    · rintro ⟨u, t, e, h⟩
      have := List.append_eq_nil_iff.1 e.symm
      obtain ⟨rfl, rfl⟩ := this
      exact h
  | cons c s ih =>
    unfold someEnd
    rw [Bool.or_eq_true, ih]
    constructor
    · rintro (h | ⟨u, t, rfl, h⟩)
      · exact ⟨[], _, rfl, h⟩
      · exact ⟨c :: u, t, rfl, h⟩
    · rintro ⟨u, t, e, h⟩
      cases u with
      | nil => left; rw [e]; exact h
      | cons d u =>
        right
        simp only [List.cons_append, List.cons.injEq] at e
        exact ⟨u, t, e.2, h⟩
theorem mt_run_iff (ps : List Part) (s : List UInt8) : mt (.run :: ps) s = true ↔ ∃ u t, s = u ++ t ∧ mt ps t = true := by
  rw [mt_run, someEnd_iff]
theorem mt_append (a b : List Part) : ∀ s, mt (a ++ b) s = true ↔ ∃ u t, s = u ++ t ∧ mt a u = true ∧ mt b t = true := by
  induction a with
  | nil =>
    intro s
    constructor
    · intro h; exact ⟨[], s, rfl, rfl, h⟩
    · rintro ⟨u, t, rfl, h, h2⟩
      rw [mt_nil, List.isEmpty_iff] at h
      subst h
      exact h2
  | cons p a ih =>
    intro s
    cases hp : p.isRun with
    | true =>
      obtain rfl : p = .run := run_of hp
      rw [List.cons_append, mt_run_iff]
      constructor
      · rintro ⟨u, t, rfl, h⟩
        obtain ⟨v, x, rfl, h1, h2⟩ := (ih t).1 h
        exact ⟨u ++ v, x, by simp, (mt_run_iff _ _).2 ⟨u, v, rfl, h1⟩, h2⟩
      · rintro ⟨u, t, rfl, h1, h2⟩
        obtain ⟨v, x, rfl, h3⟩ := (mt_run_iff _ _).1 h1
        exact ⟨v, x ++ t, by simp, (ih _).2 ⟨x, t, rfl, h3, h2⟩⟩
    | false =>
      rw [List.cons_append]
      cases s with
      | nil =>
        rw [mt_one_nil hp]
        constructor
        · intro h; cases h
        · rintro ⟨u, t, e, h1, _⟩
          obtain ⟨rfl, rfl⟩ := List.append_eq_nil_iff.1 e.symm
          rw [mt_one_nil hp] at h1
          cases h1
      | cons c s =>
        rw [mt_one hp, Bool.and_eq_true, ih]
        constructor
        · rintro ⟨h0, u, t, rfl, h1, h2⟩
          exact ⟨c :: u, t, rfl, by rw [mt_one hp, Bool.and_eq_true]; exact ⟨h0, h1⟩, h2⟩
        · rintro ⟨u, t, e, h1, h2⟩
          cases u with
          | nil => rw [mt_one_nil hp] at h1; cases h1
          | cons d u =>
            simp only [List.cons_append, List.cons.injEq] at e
            obtain ⟨rfl, rfl⟩ := e
            rw [mt_one hp, Bool.and_eq_true] at h1
            exact ⟨h1.1, u, t, rfl, h1.2, h2⟩
theorem mt_run_any (s : List UInt8) : mt [.run] s = true := (mt_run_iff _ _).2 ⟨s, [], by simp, rfl⟩

/-- The document's answer goes part by part: behind a run, and behind another part. -/
theorem snoc_run_nil (ps : List Part) : mt (ps ++ [.run]) [] = mt ps [] := by
  rw [Bool.eq_iff_iff, mt_append]
  constructor
  · rintro ⟨u, t, e, h, _⟩
    obtain ⟨rfl, rfl⟩ := List.append_eq_nil_iff.1 e.symm
    exact h
  · intro h; exact ⟨[], [], rfl, h, rfl⟩
theorem snoc_run (ps : List Part) (s : List UInt8) (c : UInt8) : mt (ps ++ [.run]) (s ++ [c]) = (mt ps (s ++ [c]) || mt (ps ++ [.run]) s) := by
  rw [Bool.eq_iff_iff, Bool.or_eq_true, mt_append, mt_append]
  constructor
  · rintro ⟨u, t, e, h, _⟩
    rcases List.eq_nil_or_concat t with rfl | ⟨t', d, rfl⟩
    · left; rw [e]; simpa using h
    · right
      rw [List.concat_eq_append, ← List.append_assoc] at e
      have := List.append_inj' e rfl
      exact ⟨u, t', this.1, h, mt_run_any _⟩
  · rintro (h | ⟨u, t, rfl, h, _⟩)
    · exact ⟨s ++ [c], [], by simp, h, rfl⟩
    · exact ⟨u, t ++ [c], by simp, h, mt_run_any _⟩
theorem snoc_one_nil (ps : List Part) {p : Part} (hp : p.isRun = false) : mt (ps ++ [p]) [] = false := by
  cases h : mt (ps ++ [p]) [] with
  | false => rfl
  | true =>
    obtain ⟨u, t, e, _, h2⟩ := (mt_append _ _ _).1 h
    obtain ⟨rfl, rfl⟩ := List.append_eq_nil_iff.1 e.symm
    rw [mt_one_nil hp] at h2
    cases h2
theorem snoc_one (ps : List Part) {p : Part} (hp : p.isRun = false) (s : List UInt8) (c : UInt8) : mt (ps ++ [p]) (s ++ [c]) = (mt ps s && p.ok c) := by
  rw [Bool.eq_iff_iff, Bool.and_eq_true, mt_append]
  constructor
  · rintro ⟨u, t, e, h, h2⟩
    cases t with
    | nil => rw [mt_one_nil hp] at h2; cases h2
    | cons d t =>
      rw [mt_one hp, Bool.and_eq_true, mt_nil, List.isEmpty_iff] at h2
      obtain ⟨h3, rfl⟩ := h2
      obtain ⟨rfl, h4⟩ := List.append_inj' e rfl
      obtain rfl : c = d := by simpa using h4
      exact ⟨h, h3⟩
  · rintro ⟨h, h2⟩
    exact ⟨s, [c], rfl, h, by rw [mt_one hp, h2]; rfl⟩

/-- Nothing but runs: what nothing matches. -/
theorem mt_parts_nil (l : List UInt8) : mt (parts l) [] = l.all (· == 42) := by
  induction l with
  | nil => rw [parts_nil]; rfl
  | cons a t ih =>
    rw [parts_more (by simp)]
    by_cases h : a = 42
    · subst h
      have e1 : part1 (42 :: t) = .run := by simp [part1]
      have e2 : partLen (42 :: t) = 1 := by simp [partLen]
      rw [e1, e2, mt_run]
      show mt (parts t) [] = _
      rw [ih]
      simp
    · have e1 : (part1 (a :: t)).isRun = false := by
        rw [part_cons, if_neg h]
        repeat' split
        all_goals rfl
      rw [mt_one_nil e1]
      simp [h]

/-- WHERE A SEARCH STANDS THAT MAKES ONLY ITS LAST RUN LONGER: at a place of the pattern and of the text; the two last words: behind which place that run stands, and up to where it is, if there was one. -/
def Stands (P S : List UInt8) (i k : Nat) (b : Option Nat) (f : Nat) : Prop :=
  i ≤ P.length ∧ k ≤ S.length ∧ match b with
  | none => mt (parts P) S = mt (parts (P.drop i)) (S.drop k)
  | some b => b ≤ i ∧ f ≤ k ∧ mt (parts P) S = mt (.run :: parts (P.drop b)) (S.drop f) ∧
      mt (parts (P.drop b)) (S.drop f) = mt (parts (P.drop i)) (S.drop k) ∧
      ∀ s, mt (parts (P.drop b)) s = true → k - f ≤ s.length ∧ mt (parts (P.drop i)) (s.drop (k - f)) = true
theorem stands_start (P S : List UInt8) : Stands P S 0 0 none 0 := ⟨Nat.zero_le _, Nat.zero_le _, rfl⟩
theorem drop_cons {l : List UInt8} {i : Nat} {a : UInt8} (h : l[i]? = some a) : l.drop i = a :: l.drop (i + 1) := by
  obtain ⟨hi, rfl⟩ := List.getElem?_eq_some_iff.1 h
  exact List.drop_eq_getElem_cons hi
theorem lt_of_at {l : List UInt8} {i : Nat} {a : UInt8} (h : l[i]? = some a) : i < l.length := (List.getElem?_eq_some_iff.1 h).1
theorem parts_run {P : List UInt8} {i : Nat} (h : P[i]? = some 42) : parts (P.drop i) = .run :: parts (P.drop (i + 1)) := by
  rw [drop_cons h, parts_more (by simp)]
  have e1 : part1 (42 :: P.drop (i + 1)) = .run := by simp [part1]
  have e2 : partLen (42 :: P.drop (i + 1)) = 1 := by simp [partLen]
  rw [e1, e2]
  rfl
theorem stands_run {P S : List UInt8} {i k f : Nat} {b : Option Nat} (h : Stands P S i k b f) (hi : P[i]? = some 42) : Stands P S (i + 1) k (some (i + 1)) k := by
  obtain ⟨h1, h2, h3⟩ := h
  have hl := lt_of_at hi
  have e := parts_run hi
  refine ⟨by omega, h2, Nat.le_refl _, Nat.le_refl _, ?_, rfl, fun s hs => ⟨by omega, by rw [Nat.sub_self]; exact hs⟩⟩
  cases b with
  | none => rw [← e]; exact h3
  | some b =>
    obtain ⟨h4, h5, h6, h7, h8⟩ := h3
    rw [h6, ← e, Bool.eq_iff_iff]
    constructor
    · intro hm
      obtain ⟨u, t, e2, hm2⟩ := (mt_run_iff _ _).1 hm
      obtain ⟨h9, h10⟩ := h8 t hm2
      rw [e] at h10 ⊢
      obtain ⟨v, x, e3, h11⟩ := (mt_run_iff _ _).1 h10
      refine (mt_run_iff _ _).2 ⟨(S.drop k).take ((S.drop k).length - x.length), x, ?_, h11⟩
      have hx : (t.drop (k - f)).drop v.length = x := by rw [e3, List.drop_left]
      have hS : S.drop f = u ++ t := e2
      have hlen : (S.drop k).length = S.length - k := List.length_drop
      have hlen2 : (S.drop f).length = S.length - f := List.length_drop
      have hlen3 : u.length + t.length = S.length - f := by rw [← hlen2, hS, List.length_append]
      have hlen4 : x.length = t.length - (k - f) - v.length := by rw [← hx, List.length_drop, List.length_drop]
      have hv : v.length ≤ t.length - (k - f) := by
        have := congrArg List.length e3
        rw [List.length_drop, List.length_append] at this
        omega
      have hx2 : x = (S.drop k).drop ((S.drop k).length - x.length) := by
        rw [List.drop_drop]
        have e5 : S.drop (f + u.length) = t := by rw [← List.drop_drop, hS, List.drop_left]
        have e6 : S.drop (f + u.length + (k - f) + v.length) = x := by rw [← List.drop_drop, ← List.drop_drop, e5]; exact hx
        rw [← e6]
        congr 1
        rw [e6]
        omega
      exact (by rw [← hx2] : (S.drop k).take ((S.drop k).length - x.length) ++ x = (S.drop k).take ((S.drop k).length - x.length) ++ (S.drop k).drop ((S.drop k).length - x.length)).trans (List.take_append_drop _ _) |>.symm
    · intro hm
      rw [← h7] at hm
      exact (mt_run_iff _ _).2 ⟨[], _, rfl, hm⟩
theorem isRun_part {a : UInt8} {t : List UInt8} (h : a ≠ 42) : (part1 (a :: t)).isRun = false := by
  rw [part_cons, if_neg h]
  repeat' split
  all_goals rfl
theorem stands_on {P S : List UInt8} {i k f n : Nat} {b : Option Nat} {a c : UInt8} (h : Stands P S i k b f) (hi : P[i]? = some a) (ha : a ≠ 42) (hk : S[k]? = some c)
    (hok : (part1 (P.drop i)).ok c = true) (hn : P.drop (i + n) = (P.drop i).drop (partLen (P.drop i))) (hle : i + n ≤ P.length) : Stands P S (i + n) (k + 1) b f := by
  obtain ⟨h1, h2, h3⟩ := h
  have hl := lt_of_at hi
  have hkl := lt_of_at hk
  have hrun : (part1 (P.drop i)).isRun = false := by rw [drop_cons hi]; exact isRun_part ha
  have e : parts (P.drop i) = part1 (P.drop i) :: parts (P.drop (i + n)) := by rw [parts_more (by rw [drop_cons hi]; simp), hn]
  have em : mt (parts (P.drop i)) (S.drop k) = mt (parts (P.drop (i + n))) (S.drop (k + 1)) := by
    rw [e, drop_cons hk, mt_one hrun, hok]; rfl
  refine ⟨hle, by omega, ?_⟩
  cases b with
  | none => exact h3.trans em
  | some b =>
    obtain ⟨h4, h5, h6, h7, h8⟩ := h3
    refine ⟨by omega, by omega, h6, h7.trans em, fun s hs => ?_⟩
    obtain ⟨h9, h10⟩ := h8 s hs
    rw [e] at h10
    cases hd : s.drop (k - f) with
    | nil => rw [hd, mt_one_nil hrun] at h10; cases h10
    | cons d r =>
      rw [hd, mt_one hrun, Bool.and_eq_true] at h10
      have hlen := congrArg List.length hd
      rw [List.length_drop, List.length_cons] at hlen
      refine ⟨by omega, ?_⟩
      rw [show k + 1 - f = (k - f) + 1 by omega, ← List.drop_drop (i := 1) (j := k - f), hd]
      exact h10.2
/-- Where nothing goes on: without a run the text does not match; with one the run takes one byte more. -/
def Stuck (P S : List UInt8) (i k : Nat) : Prop := mt (parts (P.drop i)) (S.drop k) = false
theorem stuck_end {P S : List UInt8} {i k : Nat} {c : UInt8} (hi : P.length ≤ i) (hk : S[k]? = some c) : Stuck P S i k := by
  unfold Stuck
  rw [List.drop_eq_nil_of_le hi, parts_nil, drop_cons hk]
  rfl
theorem stuck_no {P S : List UInt8} {i k : Nat} {a c : UInt8} (hi : P[i]? = some a) (ha : a ≠ 42) (hk : S[k]? = some c) (hok : (part1 (P.drop i)).ok c = false) : Stuck P S i k := by
  unfold Stuck
  have hrun : (part1 (P.drop i)).isRun = false := by rw [drop_cons hi]; exact isRun_part ha
  rw [parts_more (by rw [drop_cons hi]; simp), drop_cons hk, mt_one hrun, hok]
  rfl
theorem stuck_out {P S : List UInt8} {i k f : Nat} (h : Stands P S i k none f) (hs : Stuck P S i k) : mt (parts P) S = false := h.2.2.trans hs
theorem stuck_back {P S : List UInt8} {i k b f : Nat} (h : Stands P S i k (some b) f) (hk : k < S.length) (hs : Stuck P S i k) : Stands P S b (f + 1) (some b) (f + 1) := by
  obtain ⟨h1, h2, h4, h5, h6, h7, h8⟩ := h
  refine ⟨by omega, by omega, Nat.le_refl _, Nat.le_refl _, ?_, rfl, fun s hs => ⟨by omega, by rw [Nat.sub_self]; exact hs⟩⟩
  rw [h6]
  have hf : f < S.length := by omega
  rw [List.drop_eq_getElem_cons hf, mt_run]
  show (mt (parts (P.drop b)) (S[f] :: S.drop (f + 1)) || _) = _
  rw [← List.drop_eq_getElem_cons hf, h7, hs]
  rfl
theorem stands_end {P S : List UInt8} {i f : Nat} {b : Option Nat} (h : Stands P S i S.length b f) : mt (parts P) S = (P.drop i).all (· == 42) := by
  obtain ⟨h1, h2, h3⟩ := h
  rw [← mt_parts_nil]
  cases b with
  | none => rw [h3, List.drop_length]
  | some b =>
    obtain ⟨h4, h5, h6, h7, h8⟩ := h3
    rw [List.drop_length] at h7
    rw [h6, ← h7, Bool.eq_iff_iff]
    constructor
    · intro hm
      obtain ⟨u, t, e, hm2⟩ := (mt_run_iff _ _).1 hm
      obtain ⟨h9, _⟩ := h8 t hm2
      have hlen := congrArg List.length e
      rw [List.length_drop, List.length_append] at hlen
      have hu : u = [] := List.eq_nil_of_length_eq_zero (by omega)
      subst hu
      rw [e]
      exact hm2
    · intro hm
      exact (mt_run_iff _ _).2 ⟨[], _, rfl, hm⟩
/-- How long the search goes on at most. -/
def left_ (p s _i k : Nat) (b : Option Nat) (f : Nat) : Nat := match b with
  | none => (p + 1) * ((s + 2) * (s + 2)) + (s + 1) * (s + 2) + (s - k)
  | some b => (p - b) * ((s + 2) * (s + 2)) + (s - f) * (s + 2) + (s - k)
theorem left_on {p s i k n f : Nat} {b : Option Nat} (hk : k < s) : left_ p s (i + n) (k + 1) b f < left_ p s i k b f := by
  unfold left_; cases b <;> simp only <;> omega
theorem left_back {p s i k b f : Nat} (hf : f ≤ k) (hk : k < s) : left_ p s b (f + 1) (some b) (f + 1) < left_ p s i k (some b) f := by
  unfold left_
  simp only
  have : (s - f) * (s + 2) = (s - (f + 1)) * (s + 2) + (s + 2) := by
    rw [show s - f = (s - (f + 1)) + 1 by omega, Nat.succ_mul]
  omega
theorem left_run {p s i k f : Nat} {b : Option Nat} (hi : i < p) (hb : ∀ x, b = some x → x ≤ i ∧ f ≤ k) (hk : k ≤ s) : left_ p s (i + 1) k (some (i + 1)) k < left_ p s i k b f := by
  unfold left_
  have hM : ∀ x y, x + 1 ≤ y → x * ((s + 2) * (s + 2)) + (s + 2) * (s + 2) ≤ y * ((s + 2) * (s + 2)) := by
    intro x y hxy
    have := Nat.mul_le_mul_right ((s + 2) * (s + 2)) hxy
    rwa [Nat.succ_mul] at this
  have hS : (s + 2) * (s + 2) = s * (s + 2) + (s + 2) + (s + 2) := by
    rw [Nat.add_mul s 2 (s + 2)]; omega
  have hF : (s - k) * (s + 2) ≤ s * (s + 2) := Nat.mul_le_mul_right _ (by omega)
  cases b with
  | none =>
    simp only
    have := hM (p - (i + 1)) (p + 1) (by omega)
    omega
  | some b =>
    simp only
    obtain ⟨h1, h2⟩ := hb b rfl
    have := hM (p - (i + 1)) (p - b) (by omega)
    omega

/-- A text quoted. -/
def special (c : UInt8) : Bool := c == 42 || c == 63 || c == 91 || c == 92
def quote : List UInt8 → List UInt8
  | [] => []
  | c :: s => if special c then 92 :: c :: quote s else c :: quote s
theorem quote_append (s t : List UInt8) : quote (s ++ t) = quote s ++ quote t := by
  induction s with
  | nil => rfl
  | cons c s ih => simp only [List.cons_append, quote]; split <;> simp [ih]
theorem quote_len (s : List UInt8) : (quote s).length ≤ 2 * s.length := by
  induction s with
  | nil => simp [quote]
  | cons c s ih => unfold quote; split <;> simp only [List.length_cons] <;> omega
theorem parts_quote (s e : List UInt8) : parts (quote s ++ e) = s.map Part.byte ++ parts e := by
  induction s with
  | nil => rfl
  | cons c s ih =>
    unfold quote
    by_cases h : special c = true
    · rw [if_pos h]
      rw [List.cons_append, List.cons_append, parts_more (by simp)]
      have e1 : part1 (92 :: c :: (quote s ++ e)) = .byte c := by
        rw [part_cons, if_neg (by decide), if_neg (by decide), if_neg (by decide)]
        simp
      have e2 : partLen (92 :: c :: (quote s ++ e)) = 2 := by
        rw [partLen_cons, if_neg (by decide), if_neg (by decide), if_neg (by decide)]
        simp
      rw [e1, e2]
      simp only [List.drop_succ_cons, List.drop_zero, ih, List.map_cons, List.cons_append]
    · rw [if_neg h]
      rw [List.cons_append, parts_more (by simp)]
      have hs : special c = false := by simpa using h
      unfold special at hs
      simp only [Bool.or_eq_false_iff, beq_eq_false_iff_ne] at hs
      obtain ⟨⟨⟨h1, h2⟩, h3⟩, h4⟩ := hs
      have e1 : part1 (c :: (quote s ++ e)) = .byte c := by
        rw [part_cons, if_neg h1, if_neg h2, if_neg h3]
        split
        · rfl
        · rw [if_neg h4]
      have e2 : partLen (c :: (quote s ++ e)) = 1 := by
        rw [partLen_cons, if_neg h1, if_neg h2, if_neg h3]
        split
        · rfl
        · rw [if_neg h4]
      rw [e1, e2]
      simp only [List.drop_succ_cons, List.drop_zero, ih, List.map_cons, List.cons_append]
theorem mt_bytes (l : List UInt8) : ∀ t, mt (l.map Part.byte) t = (l == t) := by
  induction l with
  | nil => intro t; cases t <;> rfl
  | cons c l ih =>
    intro t
    cases t with
    | nil => rfl
    | cons d t =>
      rw [List.map_cons, mt_one (by rfl), ih]
      rfl
theorem mt_quote (s t : List UInt8) : mt (parts (quote s)) t = (s == t) := by
  have := parts_quote s []
  rw [List.append_nil, parts_nil, List.append_nil] at this
  rw [this, mt_bytes]

/-- The bytes of parts that are all bytes. -/
def Part.byte? (p : Part) : Option UInt8 := match p with
  | some (some (Sum.inr b)) => some b
  | _ => none
def bytesOf : List Part → Option (List UInt8)
  | [] => some []
  | p :: ps => p.byte?.bind fun b => (bytesOf ps).map (b :: ·)
theorem bytesOf_byte (b : UInt8) (ps : List Part) : bytesOf (.byte b :: ps) = (bytesOf ps).map (b :: ·) := rfl
theorem byte_of_part {p : Part} {b : UInt8} (h : p.byte? = some b) : p = .byte b := by
  rcases p with _ | _ | f | x
  · cases h
  · cases h
  · cases h
  · have e : x = b := Option.some.inj h
    rw [e]; rfl
theorem bytesOf_map (l : List UInt8) : bytesOf (l.map Part.byte) = some l := by
  induction l with
  | nil => rfl
  | cons c l ih => rw [List.map_cons, bytesOf_byte, ih]; rfl
theorem bytesOf_some (ps : List Part) : ∀ l, bytesOf ps = some l → ps = l.map Part.byte := by
  induction ps with
  | nil => intro l h; obtain rfl : [] = l := Option.some.inj h; rfl
  | cons p ps ih =>
    intro l h
    unfold bytesOf at h
    cases hb : p.byte? with
    | none => rw [hb] at h; cases h
    | some b =>
      rw [hb] at h
      simp only [Option.bind_some, Option.map_eq_some_iff] at h
      obtain ⟨m, h1, rfl⟩ := h
      rw [ih m h1, byte_of_part hb]; rfl
theorem bytesOf_quote (s : List UInt8) : bytesOf (parts (quote s)) = some s := by
  have := parts_quote s []
  rw [List.append_nil, parts_nil, List.append_nil] at this
  rw [this, bytesOf_map]
theorem bytesOf_append (a b : List Part) : bytesOf (a ++ b) = (bytesOf a).bind fun x => (bytesOf b).map (x ++ ·) := by
  induction a with
  | nil => show bytesOf b = (bytesOf b).map ([] ++ ·); cases bytesOf b <;> rfl
  | cons p a ih =>
    show (p.byte?.bind fun c => (bytesOf (a ++ b)).map (c :: ·)) = (p.byte?.bind fun c => (bytesOf a).map (c :: ·)).bind fun x => (bytesOf b).map (x ++ ·)
    rw [ih]
    cases p.byte? with
    | none => rfl
    | some c => cases bytesOf a <;> cases bytesOf b <;> rfl
theorem bytesOf_len (ps : List Part) (l : List UInt8) (h : bytesOf ps = some l) : l.length = ps.length := by
  rw [bytesOf_some ps l h]; simp

/-- With something behind what is closed. -/
theorem closed_items (e : List UInt8) (c : UInt8) : ∀ n (r : List UInt8), r.length = n → r.getLast? ≠ some 92 →
    itemsHas (r ++ 93 :: e) c = itemsHas (r ++ [93]) c ∧ itemsLen (r ++ 93 :: e) = itemsLen (r ++ [93]) ∧ itemsLen (r ++ [93]) ≤ r.length := by
  intro n
  induction n using Nat.strongRecOn with
  | _ n ih =>
    intro r hn hr
    by_cases h : r = [] ∨ r.head? = some 93
    · have h1 : (r ++ 93 :: e).head? = some 93 := by
        rcases h with rfl | h
        · rfl
        · rw [List.head?_append, h]; rfl
      have h2 : (r ++ [93]).head? = some 93 := by
        rcases h with rfl | h
        · rfl
        · rw [List.head?_append, h]; rfl
      rw [has_end (Or.inr h1), has_end (Or.inr h2), len_end (Or.inr h1), len_end (Or.inr h2)]
      exact ⟨rfl, rfl, Nat.zero_le _⟩
    · have h0 : r ≠ [] := fun e => h (Or.inl e)
      have h93 : r.head? ≠ some 93 := fun e => h (Or.inr e)
      have hh : ∀ x : List UInt8, (r ++ x).head? ≠ some 93 := by
        intro x
        cases r with
        | nil => exact absurd rfl h0
        | cons a t => simpa using h93
      have hne : ∀ x : List UInt8, r ++ x ≠ [] := by intro x; simp [h0]
      rw [has_more (hne _) (hh _), has_more (hne _) (hh _), len_more (hne _) (hh _), len_more (hne _) (hh _)]
      have key : ∃ i : UInt8 × UInt8 × Nat, item (r ++ 93 :: e) = i ∧ item (r ++ [93]) = i ∧ 1 ≤ i.2.2 ∧ i.2.2 ≤ r.length := by
        match r, h0, hr with
        | [a], _, hr =>
          have ha : a ≠ 92 := by simpa using hr
          refine ⟨(a, a, 1), ?_, ?_, by simp, by simp⟩
          · cases e with
            | nil => simp [item, ha]
            | cons x y => simp [item, ha]
          · simp [item, ha]
        | [a, b], _, hr =>
          have hb : b ≠ 92 := by simpa using hr
          by_cases ha : a = 92
          · exact ⟨(b, b, 2), by simp [item, ha], by simp [item, ha], by simp, by simp⟩
          · exact ⟨(a, a, 1), by simp [item, ha], by simp [item, ha], by simp, by simp⟩
        | a :: b :: d :: t, _, hr =>
          refine ⟨item (a :: b :: d :: t), by simp [item], by simp [item], item_pos _, item_le _ (by simp)⟩
      obtain ⟨i, e1, e2, hi1, hi2⟩ := key
      rw [e1, e2]
      have hd : ∀ x : List UInt8, (r ++ x).drop i.2.2 = r.drop i.2.2 ++ x := fun x => List.drop_append_of_le_length hi2
      rw [hd, hd]
      have hlast : (r.drop i.2.2).getLast? ≠ some 92 := by
        by_cases hz : r.drop i.2.2 = []
        · rw [hz]; simp
        · rw [List.getLast?_drop]
          split
          · simp
          · exact hr
      have hlen : (r.drop i.2.2).length = r.length - i.2.2 := List.length_drop
      obtain ⟨g1, g2, g3⟩ := ih (r.drop i.2.2).length (by omega) _ rfl hlast
      rw [g1, g2]
      exact ⟨rfl, rfl, by omega⟩
theorem closed_part (e : List UInt8) (r : List UInt8) (h0 : r ≠ []) (hr : r.getLast? ≠ some 92) :
    part1 (r ++ 93 :: e) = part1 (r ++ [93]) ∧ partLen (r ++ 93 :: e) = partLen (r ++ [93]) ∧ partLen (r ++ [93]) ≤ r.length + 1 := by
  cases r with
  | nil => exact absurd rfl h0
  | cons a t =>
    simp only [List.cons_append, part1, partLen]
    by_cases h1 : a = 42
    · simp [h1]
    · by_cases h2 : a = 63
      · simp [h2]
      · by_cases h3 : a = 91
        · have ht : t.getLast? ≠ some 92 := by
            cases t with
            | nil => simp
            | cons x y => simpa [List.getLast?_cons_cons] using hr
          subst h3
          have htu : ∀ x : List UInt8, turned (t ++ 93 :: x) = turned (t ++ [93]) := by
            intro x; unfold turned; cases t <;> rfl
          have hb : ∀ x : List UInt8, ∃ t' : List UInt8, t'.getLast? ≠ some 92 ∧ t'.length + (if turned (t ++ [93]) then 1 else 0) = t.length ∧ body (t ++ 93 :: x) = t' ++ 93 :: x ∧ body (t ++ [93]) = t' ++ [93] := by
            intro x
            unfold body
            rw [htu x]
            cases htt : turned (t ++ [93]) with
            | false => exact ⟨t, ht, by simp, by simp, by simp⟩
            | true =>
              cases t with
              | nil => simp [turned] at htt
              | cons y z =>
                refine ⟨z, ?_, by simp, by simp, by simp⟩
                cases z with
                | nil => simp
                | cons p q => simpa [List.getLast?_cons_cons] using ht
          obtain ⟨t', g1, g2, g3, g4⟩ := hb e
          have hc : ∀ c, itemsHas (t' ++ 93 :: e) c = itemsHas (t' ++ [93]) c := fun c => (closed_items e c _ t' rfl g1).1
          obtain ⟨_, i2, i3⟩ := closed_items e 0 _ t' rfl g1
          simp only [if_neg h1, if_neg h2, if_true]
          refine ⟨?_, ?_, ?_⟩
          · congr 1
            funext c
            unfold clsHas
            rw [g3, g4, hc, htu]
          · unfold clsLen
            rw [g3, g4, i2, htu]
          · unfold clsLen
            rw [g4]
            simp only [List.length_cons]
            omega
        · simp only [if_neg h1, if_neg h2, if_neg h3]
          cases t with
          | nil =>
            have ha : a ≠ 92 := by simpa using hr
            simp [ha]
          | cons x y => simp only [List.cons_append]; split <;> simp
theorem closed_parts (e : List UInt8) : ∀ n (r : List UInt8), r.length = n → r.getLast? ≠ some 92 → parts (r ++ 93 :: e) = parts (r ++ [93]) ++ parts e := by
  intro n
  induction n using Nat.strongRecOn with
  | _ n ih =>
    intro r hn hr
    by_cases h0 : r = []
    · subst h0
      have h1 : ∀ x : List UInt8, parts (93 :: x) = .byte 93 :: parts x := by
        intro x
        rw [parts_more (by simp)]
        have e1 : part1 (93 :: x) = .byte 93 := by unfold part1; cases x <;> simp
        have e2 : partLen (93 :: x) = 1 := by unfold partLen; cases x <;> simp
        rw [e1, e2]
        rfl
      rw [List.nil_append, List.nil_append, h1, h1, parts_nil]
      rfl
    · obtain ⟨g1, g2, g3⟩ := closed_part e r h0 hr
      rw [parts_more (l := r ++ 93 :: e) (by simp), parts_more (l := r ++ [93]) (by simp), g1, g2]
      have hp := partLen_pos (r ++ [93])
      rcases Nat.lt_or_ge r.length (partLen (r ++ [93])) with hlt | hge
      · have e1 : (r ++ 93 :: e).drop (partLen (r ++ [93])) = e := by
          rw [show partLen (r ++ [93]) = (r ++ [93]).length by simp; omega, show r ++ 93 :: e = (r ++ [93]) ++ e by simp, List.drop_left]
        have e2 : (r ++ [93]).drop (partLen (r ++ [93])) = [] := List.drop_eq_nil_of_le (by simp; omega)
        rw [e1, e2, parts_nil]
        rfl
      · rw [List.drop_append_of_le_length hge, List.drop_append_of_le_length hge]
        have hlen : (r.drop (partLen (r ++ [93]))).length = r.length - partLen (r ++ [93]) := List.length_drop
        have hl0 : 1 ≤ r.length := by cases r with | nil => exact absurd rfl h0 | cons a t => simp
        have hlast : (r.drop (partLen (r ++ [93]))).getLast? ≠ some 92 := by
          rw [List.getLast?_drop]
          split
          · simp
          · exact hr
        rw [ih _ (by omega) _ rfl hlast]
        rfl
theorem parts_star (l : List UInt8) : parts (42 :: l) = .run :: parts l := by
  rw [parts_more (by simp)]
  have e1 : part1 (42 :: l) = .run := by simp [part1]
  have e2 : partLen (42 :: l) = 1 := by simp [partLen]
  rw [e1, e2]
  rfl
/-- What may stand within runs: whose parts stay as they are with a run behind. -/
def Tame (p : List UInt8) : Prop := ∀ e, parts (p ++ e) = parts p ++ parts e
theorem tame_closed {r : List UInt8} (h : r.getLast? ≠ some 92) : Tame (r ++ [93]) := fun e => by
  rw [List.append_assoc]; exact closed_parts e _ r rfl h
theorem tame_quote (s : List UInt8) : Tame (quote s) := fun e => by
  rw [parts_quote]
  have := parts_quote s []
  rw [List.append_nil, parts_nil, List.append_nil] at this
  rw [this]
theorem runs_both {p a b c : List UInt8} (ht : Tame p) (h : mt (parts p) b = true) : mt (parts (42 :: p ++ [42])) (a ++ b ++ c) = true := by
  rw [List.cons_append, parts_star, ht, parts_star, parts_nil]
  refine (mt_run_iff _ _).2 ⟨a, b ++ c, by simp, (mt_append _ _ _).2 ⟨b, c, rfl, h, mt_run_any _⟩⟩
theorem runs_two {p a b : List UInt8} (h : mt (parts p) b = true) : mt (parts (42 :: 42 :: p)) (a ++ b) = true := by
  rw [parts_star, parts_star]
  exact (mt_run_iff _ _).2 ⟨[], _, rfl, (mt_run_iff _ _).2 ⟨a, b, rfl, h⟩⟩

end Go.Proofs.YtadihlmpkckakaaDoor.Gl
