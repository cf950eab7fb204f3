/-
  Plain mathematics of requests among bytes: what is put is fed back, one behind the other, or is a fault; how many bytes are told for. No condition but that lengths are numbers of 64 bits.
-/
import Derived.Test.YtjidopgohdlfdaaGreatDoorPMath
namespace Go.Proofs.YtjidopgohdlfdaaGreatDoor.Pq
open Go.Lib Dec

theorem dg_dig {d : Nat} (h : d < 10) : dg (UInt8.ofNat (48 + d)) = true := by
  have e : (UInt8.ofNat (48 + d)).toNat = 48 + d := by simp; omega
  simp only [dg, e]
  exact decide_eq_true ⟨by omega, by omega⟩
theorem numOf_dec {u : Nat} (h : u ≤ 4611686018427387904) : numOf (decDigits u) = some (u : Int) := by
  have := numOf_itoa (u : Int) (by omega) (by omega)
  rwa [itoa_nat] at this
theorem firstGo_dig {most over n : Int} {pre t : List UInt8} {c : UInt8} (hc : dg c = true) (hn : numOf (pre ++ [c]) = some n) (hm : n ≤ most) : firstGo most over pre (c :: t) = firstGo most over (pre ++ [c]) t := by
  rw [firstGo, if_pos hc, hn]
  simp only []
  rw [if_neg (by omega)]
theorem firstGo_big {most over n : Int} {pre t : List UInt8} {c : UInt8} (hc : dg c = true) (hn : numOf (pre ++ [c]) = some n) (hm : most < n) : firstGo most over pre (c :: t) = .inl over := by
  rw [firstGo, if_pos hc, hn]
  simp only []
  rw [if_pos hm]
theorem dec_snoc {u : Nat} (h : ¬ u < 10) : decDigits u = decDigits (u / 10) ++ [UInt8.ofNat (48 + u % 10)] := by
  rw [decDigits, dif_neg h]
theorem firstGo_digits {most over : Int} (u : Nat) : ∀ t, u ≤ 4611686018427387904 → (u : Int) ≤ most → firstGo most over [] (decDigits u ++ t) = firstGo most over (decDigits u) t := by
  induction u using Nat.strongRecOn with
  | _ u ih =>
    intro t hu hm
    have hn := numOf_dec hu
    by_cases h10 : u < 10
    · have e : decDigits u = [UInt8.ofNat (48 + u)] := decDigits_one h10
      rw [e] at hn ⊢
      exact firstGo_dig (dg_dig h10) hn hm
    · rw [dec_snoc h10] at hn ⊢
      rw [List.append_assoc, ih (u / 10) (by omega) _ (by omega) (by omega), List.singleton_append, firstGo_dig (dg_dig (Nat.mod_lt _ (by decide))) hn hm]
theorem firstGo_over {most over : Int} (u : Nat) : ∀ t, u ≤ 4611686018427387904 → most < (u : Int) → firstGo most over [] (decDigits u ++ t) = .inl over := by
  induction u using Nat.strongRecOn with
  | _ u ih =>
    intro t hu hm
    have hn := numOf_dec hu
    by_cases h10 : u < 10
    · have e : decDigits u = [UInt8.ofNat (48 + u)] := decDigits_one h10
      rw [e] at hn ⊢
      exact firstGo_big (dg_dig h10) hn hm
    · rw [dec_snoc h10] at hn ⊢
      rw [List.append_assoc]
      by_cases h1 : most < ((u / 10 : Nat) : Int)
      · exact ih (u / 10) (by omega) _ (by omega) h1
      · rw [firstGo_digits (u / 10) _ (by omega) (by omega), List.singleton_append]
        exact firstGo_big (dg_dig (Nat.mod_lt _ (by decide))) hn hm
theorem firstF_put {mark : UInt8} {most over : Int} {u : Nat} (t : List UInt8) (hu : u ≤ 4611686018427387904) (hm : (u : Int) ≤ most) : firstF mark most over (mark :: (decDigits u ++ 13 :: 10 :: t)) = .inr (u, (decDigits u).length + 3) := by
  rw [firstF, if_neg (fun h => h rfl), firstGo_digits u _ hu hm, firstGo, if_neg (by decide), if_neg (by intro h; rcases h with h | h; exact dec_ne u h; exact h rfl), numOf_dec hu]
  rfl
theorem firstF_big {mark : UInt8} {most over : Int} {u : Nat} (t : List UInt8) (hu : u ≤ 4611686018427387904) (hm : most < (u : Int)) : firstF mark most over (mark :: (decDigits u ++ t)) = .inl over := by
  rw [firstF, if_neg (fun h => h rfl), firstGo_over u _ hu hm]

/-! ### What is put -/
def putA (a : List UInt8) : List UInt8 := 36 :: (decDigits a.length ++ 13 :: 10 :: (a ++ [13, 10]))
def putF (l : List (List UInt8)) : List UInt8 := 42 :: (decDigits l.length ++ 13 :: 10 :: l.flatMap putA)
theorem drop_first (c : UInt8) (d t : List UInt8) : (c :: (d ++ 13 :: 10 :: t)).drop (d.length + 3) = t := by
  rw [show d.length + 3 = (d.length + 2) + 1 from rfl, List.drop_succ_cons, List.drop_append, List.drop_eq_nil_of_le (by omega), show d.length + 2 - d.length = 2 by omega]
  rfl
section
variable {A B L : Nat}
theorem head_put {as : List (List UInt8)} {left sz : Nat} {a : List UInt8} (t : List UInt8) (ha : a.length ≤ B) (hl : a.length ≤ 4611686018427387904) (h0 : left ≠ 0) :
    stepF A B L ⟨putA a ++ t, as, left, sz, false, 0⟩ = .inr (⟨a ++ 13 :: 10 :: t, as, left, sz + ((decDigits a.length).length + 3), true, a.length⟩, []) := by
  have e : putA a ++ t = 36 :: (decDigits a.length ++ 13 :: 10 :: (a ++ 13 :: 10 :: t)) := by simp [putA]
  unfold stepF
  rw [if_neg h0, if_pos rfl]
  unfold headF
  simp only [e]
  rw [firstF_put _ hl (by omega)]
  simp only []
  rw [drop_first]
theorem head_bad {as : List (List UInt8)} {left sz : Nat} {a : List UInt8} (t : List UInt8) (ha : B < a.length) (hl : a.length ≤ 4611686018427387904) (h0 : left ≠ 0) :
    stepF A B L ⟨putA a ++ t, as, left, sz, false, 0⟩ = .inl 6 := by
  have e : putA a ++ t = 36 :: (decDigits a.length ++ (13 :: 10 :: (a ++ 13 :: 10 :: t))) := by simp [putA]
  unfold stepF
  rw [if_neg h0, if_pos rfl]
  unfold headF
  simp only [e]
  rw [firstF_big _ hl (by omega)]
theorem body_put {as : List (List UInt8)} {left sz : Nat} {a : List UInt8} (t : List UInt8) (h0 : left ≠ 0) :
    stepF A B L ⟨a ++ 13 :: 10 :: t, as, left, sz, true, a.length⟩ = .inr (if left = 1 then (Inp.none t, [(as ++ [a], sz + a.length + 2)]) else (⟨t, as ++ [a], left - 1, sz + a.length + 2, false, 0⟩, [])) := by
  have e1 : (a ++ 13 :: 10 :: t).drop a.length = 13 :: 10 :: t := by simp
  have e2 : (a ++ 13 :: 10 :: t).drop (a.length + 2) = t := by
    rw [List.drop_append, List.drop_eq_nil_of_le (by omega), show a.length + 2 - a.length = 2 by omega]; rfl
  have e3 : (a ++ 13 :: 10 :: t).take a.length = a := by simp
  unfold stepF
  rw [if_neg h0, if_neg (by intro e; cases e)]
  unfold bodyF bodyG goneB
  simp only []
  rw [if_neg (by simp), e1, if_pos (by simp [endsF, lfE]), e2, e3]
theorem putA_len (a : List UInt8) : (putA a).length = (decDigits a.length).length + 3 + a.length + 2 := by simp [putA]; omega
theorem args_run (t : List UInt8) (l : List (List UInt8)) : ∀ (as : List (List UInt8)) (sz : Nat), l ≠ [] → (∀ a ∈ l, a.length ≤ B ∧ a.length ≤ 4611686018427387904) →
    feedF A B L ⟨l.flatMap putA ++ t, as, l.length, sz, false, 0⟩ = ((feedF A B L (Inp.none t)).1, (as ++ l, sz + (l.flatMap putA).length) :: (feedF A B L (Inp.none t)).2) := by
  induction l with
  | nil => intro as sz h; exact absurd rfl h
  | cons a l ih =>
    intro as sz _ hb
    obtain ⟨ha, ha2⟩ := hb a (by simp)
    have h1 := head_put (A := A) (B := B) (L := L) (as := as) (left := (a :: l).length) (sz := sz) (l.flatMap putA ++ t) ha ha2 (by simp)
    have h2 := body_put (A := A) (B := B) (L := L) (as := as) (left := (a :: l).length) (sz := sz + ((decDigits a.length).length + 3)) (a := a) (l.flatMap putA ++ t) (by simp)
    rw [List.flatMap_cons, List.append_assoc, feed_next h1]
    by_cases hl : l = []
    · subst hl
      rw [if_pos (show [a].length = 1 from rfl)] at h2
      rw [feed_next h2]
      simp [putA_len]
      omega
    · have hll : ¬ (a :: l).length = 1 := by
        simp; exact hl
      rw [if_neg hll] at h2
      rw [feed_next h2, show (a :: l).length - 1 = l.length from rfl, ih _ _ hl (fun x hx => hb x (by simp [hx]))]
      simp [putA_len]
      omega
theorem args_bad (t : List UInt8) (l : List (List UInt8)) : ∀ (as : List (List UInt8)) (sz : Nat), (∃ a ∈ l, B < a.length) → (∀ a ∈ l, a.length ≤ 4611686018427387904) →
    feedF A B L ⟨l.flatMap putA ++ t, as, l.length, sz, false, 0⟩ = (.inl 6, []) := by
  induction l with
  | nil => intro as sz h; obtain ⟨a, ha, _⟩ := h; simp at ha
  | cons a l ih =>
    intro as sz h hb
    have ha2 := hb a (by simp)
    rw [List.flatMap_cons, List.append_assoc]
    by_cases ha : B < a.length
    · exact feed_dead (head_bad _ ha ha2 (by simp)) (by decide)
    · have h1 := head_put (A := A) (B := B) (L := L) (as := as) (left := (a :: l).length) (sz := sz) (l.flatMap putA ++ t) (by omega) ha2 (by simp)
      have h2 := body_put (A := A) (B := B) (L := L) (as := as) (left := (a :: l).length) (sz := sz + ((decDigits a.length).length + 3)) (a := a) (l.flatMap putA ++ t) (by simp)
      have hl : ∃ a ∈ l, B < a.length := by
        obtain ⟨x, hx, hx2⟩ := h
        rcases List.mem_cons.1 hx with e | e
        · exact absurd (e ▸ hx2) ha
        · exact ⟨x, e, hx2⟩
      have hll : ¬ (a :: l).length = 1 := by
        obtain ⟨x, hx, _⟩ := hl
        intro e
        simp at e
        subst e
        simp at hx
      rw [if_neg hll] at h2
      rw [feed_next h1, feed_next h2, show (a :: l).length - 1 = l.length from rfl, ih _ _ hl (fun x hx => hb x (by simp [hx]))]
      rfl
theorem put_start (l : List (List UInt8)) (t : List UInt8) (hA : l.length ≤ A) (hl : l.length ≤ 4611686018427387904) :
    stepF A B L (Inp.none (putF l ++ t)) = .inr (if l.length = 0 then (Inp.none (l.flatMap putA ++ t), []) else (⟨l.flatMap putA ++ t, [], l.length, (decDigits l.length).length + 3, false, 0⟩, [])) := by
  have e : putF l ++ t = 42 :: (decDigits l.length ++ 13 :: 10 :: (l.flatMap putA ++ t)) := by simp [putF]
  unfold stepF
  rw [if_pos (show (Inp.none (putF l ++ t)).left = 0 from rfl)]
  show startF A B L (putF l ++ t) = _
  rw [e, startF, if_pos rfl, firstF_put _ hl (by omega)]
  simp only [goneM]
  rw [drop_first]
/-- What is put, is fed back. -/
theorem put_ok (l : List (List UInt8)) (t : List UInt8) (h0 : l ≠ []) (hA : l.length ≤ A) (hl : l.length ≤ 4611686018427387904) (hb : ∀ a ∈ l, a.length ≤ B ∧ a.length ≤ 4611686018427387904) :
    feedF A B L (Inp.none (putF l ++ t)) = ((feedF A B L (Inp.none t)).1, (l, (putF l).length) :: (feedF A B L (Inp.none t)).2) := by
  have h1 := put_start (A := A) (B := B) (L := L) l t hA hl
  rw [if_neg (fun e => h0 (List.eq_nil_of_length_eq_zero e))] at h1
  rw [feed_next h1, args_run t l [] _ h0 hb]
  simp [putF]
  omega
theorem put_none (t : List UInt8) : feedF A B L (Inp.none (putF [] ++ t)) = feedF A B L (Inp.none t) := by
  have h1 := put_start (A := A) (B := B) (L := L) [] t (Nat.zero_le _) (by decide)
  rw [if_pos (show ([] : List (List UInt8)).length = 0 from rfl)] at h1
  rw [feed_next h1]
  simp
/-- What the limits do not let, is a fault. -/
theorem put_bad (l : List (List UInt8)) (t : List UInt8) (hl : l.length ≤ 4611686018427387904) (hb : ∀ a ∈ l, a.length ≤ 4611686018427387904) (h : A < l.length ∨ ∃ a ∈ l, B < a.length) :
    feedF A B L (Inp.none (putF l ++ t)) = (.inl 7, []) ∨ feedF A B L (Inp.none (putF l ++ t)) = (.inl 6, []) := by
  by_cases hA : A < l.length
  · refine Or.inl (feed_dead ?_ (by decide))
    have e : putF l ++ t = 42 :: (decDigits l.length ++ (13 :: 10 :: (l.flatMap putA ++ t))) := by simp [putF]
    unfold stepF
    rw [if_pos (show (Inp.none (putF l ++ t)).left = 0 from rfl)]
    show startF A B L (putF l ++ t) = _
    rw [e, startF, if_pos rfl, firstF_big _ hl (by omega)]
  · have hx : ∃ a ∈ l, B < a.length := h.resolve_left hA
    have h1 := put_start (A := A) (B := B) (L := L) l t (by omega) hl
    have hne : ¬ l.length = 0 := by
      obtain ⟨x, hx, _⟩ := hx
      intro e
      rw [List.eq_nil_of_length_eq_zero e] at hx
      simp at hx
    rw [if_neg hne] at h1
    rw [feed_next h1, args_bad t l [] _ hx hb]
    exact Or.inr rfl

/-! ### How many bytes are told for -/
def told (q : List Rq) : Nat := (q.map (·.2)).sum
def Inp.told (x : Inp) : Nat := x.size + x.rest.length
theorem told_append (q r : List Rq) : told (q ++ r) = told q + told r := by simp [told]
/-- An Input as it comes: where no Many is begun, nothing was gone past. -/
def Inp.Ok (x : Inp) : Prop := x.left = 0 → x.size = 0
theorem step_told {x y : Inp} {q : List Rq} (hx : x.Ok) (h : stepF A B L x = .inr (y, q)) : told q + y.told ≤ x.told ∧ y.Ok := by
  unfold stepF at h
  by_cases h0 : x.left = 0
  · have hs := hx h0
    rw [if_pos h0] at h
    unfold Inp.told
    cases hr : x.rest with
    | nil => rw [hr] at h; cases h
    | cons c t =>
      rw [hr, startF] at h
      by_cases hc : c = 42
      · rw [if_pos hc] at h
        cases hf : firstF 42 A 7 (c :: t) with
        | inl e => rw [hf] at h; cases h
        | inr p =>
          obtain ⟨n, k⟩ := p
          obtain ⟨h4, hk⟩ := firstF_len hf
          rw [hf] at h
          have e := Sum.inr.inj h
          unfold goneM at e
          by_cases hn : n = 0
          · rw [if_pos hn] at e
            obtain ⟨rfl, rfl⟩ := Prod.mk.inj e
            simp [told, Inp.none, Inp.Ok]; omega
          · rw [if_neg hn] at e
            obtain ⟨rfl, rfl⟩ := Prod.mk.inj e
            refine ⟨?_, fun e0 => absurd e0 hn⟩
            simp [told] at hk ⊢; omega
      · rw [if_neg hc] at h
        cases hf : oneF A B L (c :: t) with
        | inl e => rw [hf] at h; cases h
        | inr p =>
          obtain ⟨l, k⟩ := p
          obtain ⟨h4, hk⟩ := oneF_len hf
          rw [hf] at h
          have e := Sum.inr.inj h
          unfold goneL at e
          obtain ⟨rfl, rfl⟩ := Prod.mk.inj e
          refine ⟨?_, fun _ => rfl⟩
          by_cases hl : l.isEmpty = true
          · rw [if_pos hl]; simp [told, Inp.none]; omega
          · rw [if_neg hl]; simp [told, Inp.none] at hk ⊢; omega
  · rw [if_neg h0] at h
    by_cases h1 : x.body = false
    · rw [if_pos h1] at h
      unfold headF at h
      cases hf : firstF 36 B 6 x.rest with
      | inl e => rw [hf] at h; cases h
      | inr p =>
        obtain ⟨k, m⟩ := p
        obtain ⟨h4, hk⟩ := firstF_len hf
        rw [hf] at h
        obtain ⟨rfl, rfl⟩ := Prod.mk.inj (Sum.inr.inj h)
        refine ⟨?_, fun e0 => absurd e0 h0⟩
        simp [told, Inp.told]; omega
    · rw [if_neg h1] at h
      unfold bodyF bodyG at h
      by_cases hl : x.rest.length < x.need
      · rw [if_pos hl] at h; cases h
      · rw [if_neg hl] at h
        by_cases hz : endsF (x.rest.drop x.need) = 0
        · rw [if_pos hz] at h
          have h2 := endsF_len hz
          rw [List.length_drop] at h2
          have e := Sum.inr.inj h
          unfold goneB at e
          by_cases h3 : x.left = 1
          · rw [if_pos h3] at e
            obtain ⟨rfl, rfl⟩ := Prod.mk.inj e
            refine ⟨?_, fun _ => rfl⟩
            simp [told, Inp.told, Inp.none]; omega
          · rw [if_neg h3] at e
            obtain ⟨rfl, rfl⟩ := Prod.mk.inj e
            refine ⟨?_, fun e0 => ?_⟩
            · simp [told, Inp.told]; omega
            · simp only at e0; omega
        · rw [if_neg hz] at h; cases h
theorem feed_told : ∀ (n : Nat) (x : Inp), x.rest.length < n → x.Ok → told (feedF A B L x).2 ≤ x.told ∧ ∀ y, (feedF A B L x).1 = .inr y → told (feedF A B L x).2 + y.told ≤ x.told ∧ y.Ok := by
  intro n
  induction n with
  | zero => intro x h; omega
  | succ n ih =>
    intro x hx ho
    cases hs : stepF A B L x with
    | inl e =>
      by_cases he : e = -1
      · subst he
        rw [feed_stop hs]
        refine ⟨Nat.zero_le _, fun y h => ?_⟩
        obtain rfl := Sum.inr.inj h
        exact ⟨by simp [told], ho⟩
      · rw [feed_dead hs he]
        exact ⟨Nat.zero_le _, fun y h => by cases h⟩
    | inr p =>
      obtain ⟨z, q⟩ := p
      have hl := step_lt hs
      obtain ⟨t1, t2⟩ := step_told ho hs
      obtain ⟨i1, i2⟩ := ih z (by omega) t2
      rw [feed_next hs]
      refine ⟨by simp only [told_append]; omega, fun y h => ?_⟩
      obtain ⟨j1, j2⟩ := i2 y h
      exact ⟨by simp only [told_append]; omega, j2⟩
/-- What is put, cut off, is no request and no fault. -/
theorem put_cut (l : List (List UInt8)) (k : Nat) (hk : k < (putF l).length) (hA : l.length ≤ A) (hl : l.length ≤ 4611686018427387904) (hb : ∀ a ∈ l, a.length ≤ B ∧ a.length ≤ 4611686018427387904) :
    ∃ y, feedF A B L (Inp.none ((putF l).take k)) = (.inr y, []) := by
  have hw : ∃ q, feedF A B L (Inp.none (putF l)) = (.inr (Inp.none []), q) ∧ (q = [] ∨ q = [(l, (putF l).length)]) := by
    have e0 : feedF A B L (Inp.none []) = (.inr (Inp.none []), []) := feed_stop rfl
    by_cases h0 : l = []
    · subst h0
      have := put_none (A := A) (B := B) (L := L) []
      rw [List.append_nil] at this
      exact ⟨[], by rw [this, e0], Or.inl rfl⟩
    · have := put_ok (A := A) (B := B) (L := L) l [] h0 hA hl hb
      rw [List.append_nil, e0] at this
      exact ⟨_, this, Or.inr rfl⟩
  obtain ⟨q, hq, hq2⟩ := hw
  have hadd := feed_add (A := A) (B := B) (L := L) ((putF l).drop k) (k + 1) (Inp.none ((putF l).take k)) (by simp [Inp.none]; omega)
  have hsum : (Inp.none ((putF l).take k)).add ((putF l).drop k) = Inp.none (putF l) := by simp [Inp.none, Inp.add]
  rw [hsum, hq] at hadd
  have ht := (feed_told (A := A) (B := B) (L := L) (k + 1) (Inp.none ((putF l).take k)) (by simp [Inp.none]; omega) (fun _ => rfl)).1
  have hlen : (Inp.none ((putF l).take k)).told = k := by simp [Inp.told, Inp.none]; omega
  rw [hlen] at ht
  cases hf : feedF A B L (Inp.none ((putF l).take k)) with
  | mk r o =>
    rw [hf] at hadd ht
    cases r with
    | inl e => have := hadd.1 e rfl; cases this
    | inr y =>
      have h2 := (Prod.mk.inj (hadd.2 y rfl)).2
      cases o with
      | nil => exact ⟨y, rfl⟩
      | cons p o =>
        exfalso
        rcases hq2 with e | e
        · rw [e] at h2; cases h2
        · rw [e] at h2
          have h3 := List.cons.inj h2
          rw [← h3.1] at ht
          simp [told] at ht
          omega
end
end Go.Proofs.YtjidopgohdlfdaaGreatDoor.Pq
